/-
  Reading expressions: how much fuel does not matter; the parts without it. No step of the program in this text.
-/
import Derived.Test.YtibagghpimadfaaGreatDoorV8
namespace Go.Proofs.YtibagghpimadfaaGreatDoor
open Go.RowKit Go.Joins
set_option linter.unusedVariables false
set_option linter.unusedSimpArgs false
theorem rd_fuel : ∀ (f : Nat), (∀ {u X g}, 4 * u.length + 4 ≤ f → f ≤ g → rdC g u X = rdC f u X) ∧ (∀ {u X g}, 4 * u.length + 3 ≤ f → f ≤ g → rdCl g u X = rdCl f u X) ∧ (∀ {u X g}, 4 * u.length + 3 ≤ f → f ≤ g → rdR g u X = rdR f u X) ∧
    (∀ {u X g}, 4 * u.length + 3 ≤ f → f ≤ g → rdRl g u X = rdRl f u X) ∧ (∀ {u X g}, 4 * u.length + 2 ≤ f → f ≤ g → rdP g u X = rdP f u X) ∧ (∀ {u X g}, 4 * u.length + 1 ≤ f → f ≤ g → rdA g u X = rdA f u X)
  | 0 => by
    refine ⟨fun h => ?_, fun h => ?_, fun h => ?_, fun h => ?_, fun h => ?_, fun h => ?_⟩ <;> omega
  | f + 1 => by
    obtain ⟨iC, iCl, iR, iRl, iP, iA⟩ := rd_fuel f
    have hl : ∀ {u : List Int} {X : List Nd} {u' : List Int} {X' : List Nd}, Sh u X u' X' 0 1 → u'.length + 1 ≤ u.length := fun {u X u' X'} h => by
      obtain ⟨⟨Y, rfl⟩, -, h2⟩ := h
      rw [List.length_append] at h2
      omega
    refine ⟨fun {u X g} h hg => ?_, fun {u X g} h hg => ?_, fun {u X g} h hg => ?_, fun {u X g} h hg => ?_, fun {u X g} h hg => ?_, fun {u X g} h hg => ?_⟩
    all_goals obtain ⟨g, rfl⟩ : ∃ q, g = q + 1 := ⟨g - 1, by omega⟩
    · rw [rdC, rdC, iR (u := u) (X := X) (g := g) (by omega) (by omega)]
      cases e : rdR f u X with
      | none => rfl
      | some p =>
        have := ((rd_sh f).2.2.1 (u' := p.1) (X' := p.2) e).2.1
        exact iCl (by omega) (by omega)
    · rw [rdCl, rdCl]
      by_cases h1 : u.head? = some 124
      · rw [if_pos h1, if_pos h1]
        have h2 := tail_lt h1
        rw [iR (u := u.tail) (X := X) (g := g) (by omega) (by omega)]
        cases e : rdR f u.tail X with
        | none => rfl
        | some p =>
          have := ((rd_sh f).2.2.1 (u' := p.1) (X' := p.2) e).2.1
          exact iCl (by omega) (by omega)
      · rw [if_neg h1, if_neg h1]
    · rw [rdR, rdR]
      by_cases h1 : rwE u = true
      · rw [if_pos h1, if_pos h1]
      · rw [if_neg h1, if_neg h1, iP (u := u) (X := X) (g := g) (by omega) (by omega)]
        cases e : rdP f u X with
        | none => rfl
        | some p =>
          have := hl ((rd_sh f).2.2.2.2.1 (u' := p.1) (X' := p.2) e)
          exact iRl (by omega) (by omega)
    · rw [rdRl, rdRl]
      by_cases h1 : rwE u = true
      · rw [if_pos h1, if_pos h1]
      · rw [if_neg h1, if_neg h1, iP (u := u) (X := X) (g := g) (by omega) (by omega)]
        cases e : rdP f u X with
        | none => rfl
        | some p =>
          have := hl ((rd_sh f).2.2.2.2.1 (u' := p.1) (X' := p.2) e)
          exact iRl (by omega) (by omega)
    · rw [rdP, rdP, iA (u := u) (X := X) (g := g) (by omega) (by omega)]
    · cases u with
      | nil => rw [rdA, rdA]
      | cons c r =>
        simp only [List.length_cons] at h
        rw [rdA, rdA]
        by_cases h1 : c = 40
        · rw [if_pos h1, if_pos h1, iC (u := r) (X := X) (g := g) (by omega) (by omega)]
        · rw [if_neg h1, if_neg h1]
/-- The parts, without fuel. -/
def cC (u : List Int) (X : List Nd) : Option (List Int × List Nd) := rdC (4 * u.length + 4) u X
def cCl (u : List Int) (X : List Nd) : Option (List Int × List Nd) := rdCl (4 * u.length + 3) u X
def cR (u : List Int) (X : List Nd) : Option (List Int × List Nd) := rdR (4 * u.length + 3) u X
def cRl (u : List Int) (X : List Nd) : Option (List Int × List Nd) := rdRl (4 * u.length + 3) u X
def cP (u : List Int) (X : List Nd) : Option (List Int × List Nd) := rdP (4 * u.length + 2) u X
def cA (u : List Int) (X : List Nd) : Option (List Int × List Nd) := rdA (4 * u.length + 1) u X
theorem cC_of {u u1 : List Int} {X X1 : List Nd} (h : cR u X = some (u1, X1)) : cC u X = cCl u1 X1 := by
  unfold cC cCl
  rw [rdC]
  have e : rdR (4 * u.length + 3) u X = some (u1, X1) := h
  rw [e]
  have h1 := ((rd_sh _).2.2.1 e).2.1
  exact (rd_fuel (4 * u1.length + 3)).2.1 (Nat.le_refl _) (by omega)
theorem cCl_end {u : List Int} {X : List Nd} (h : u.head? ≠ some 124) : cCl u X = some (u, X) := by
  unfold cCl
  rw [rdCl, if_neg h]
theorem cCl_more {u u1 : List Int} {X X1 : List Nd} (h : cR u X = some (u1, X1)) {Y : List Nd} (hX : X = Y) : cCl (124 :: u) Y = cCl u1 (X1 ++ [orN ((Y.length : Int) - 1) ((X1.length : Int) - 1)]) := by
  subst hX
  unfold cCl
  have e : rdR (4 * u.length + 3) u X = some (u1, X1) := h
  have h1 := ((rd_sh _).2.2.1 e).2.1
  have e2 : rdR (4 * (u.length + 1) + 2) u X = some (u1, X1) := ((rd_fuel (4 * u.length + 3)).2.2.1 (Nat.le_refl _) (by omega)).trans e
  rw [List.length_cons, rdCl, if_pos (show (124 :: u).head? = some 124 from rfl), List.tail_cons, e2]
  exact (rd_fuel (4 * u1.length + 3)).2.1 (Nat.le_refl _) (by omega)
theorem cR_empty {u : List Int} {X : List Nd} (h : rwE u = true) : cR u X = some (u, X ++ [emN]) := by
  unfold cR
  rw [rdR, if_pos h]
theorem sh1 {f : Nat} {u u1 : List Int} {X X1 : List Nd} (e : rdP f u X = some (u1, X1)) : u1.length + 1 ≤ u.length := by
  obtain ⟨⟨Y, rfl⟩, -, h2⟩ := (rd_sh f).2.2.2.2.1 e
  rw [List.length_append] at h2
  omega
theorem cR_of {u u1 : List Int} {X X1 : List Nd} (h0 : rwE u = false) (h : cP u X = some (u1, X1)) : cR u X = cRl u1 X1 := by
  unfold cR cRl
  have e : rdP (4 * u.length + 2) u X = some (u1, X1) := h
  have h1 := sh1 e
  rw [rdR, if_neg (by rw [h0]; decide), e]
  exact (rd_fuel (4 * u1.length + 3)).2.2.2.1 (Nat.le_refl _) (by omega)
theorem cRl_end {u : List Int} {X : List Nd} (h : rwE u = true) : cRl u X = some (u, X) := by
  unfold cRl
  rw [rdRl, if_pos h]
theorem cRl_more {u u1 : List Int} {X X1 : List Nd} (h0 : rwE u = false) (h : cP u X = some (u1, X1)) : cRl u X = cRl u1 (X1 ++ [sqN ((X.length : Int) - 1) ((X1.length : Int) - 1)]) := by
  unfold cRl
  have e : rdP (4 * u.length + 2) u X = some (u1, X1) := h
  have h1 := sh1 e
  rw [rdRl, if_neg (by rw [h0]; decide), e]
  exact (rd_fuel (4 * u1.length + 3)).2.2.2.1 (Nat.le_refl _) (by omega)
theorem cP_none {u u1 : List Int} {X X1 : List Nd} (h : cA u X = some (u1, X1)) (hc : ctP u1 = some (none, u1)) : cP u X = some (u1, X1) := by
  unfold cP
  have e : rdA (4 * u.length + 1) u X = some (u1, X1) := h
  rw [rdP, e]
  show (match ctP u1 with | none => none | some (none, u2) => some (u2, X1) | some (some m, u2) => some (u2, X1 ++ [cnN ((X1.length : Int) - 1) m.1 m.2])) = _
  rw [hc]
theorem cP_some {u u1 u2 : List Int} {X X1 : List Nd} {m : Int × Int} (h : cA u X = some (u1, X1)) (hc : ctP u1 = some (some m, u2)) : cP u X = some (u2, X1 ++ [cnN ((X1.length : Int) - 1) m.1 m.2]) := by
  unfold cP
  have e : rdA (4 * u.length + 1) u X = some (u1, X1) := h
  rw [rdP, e]
  show (match ctP u1 with | none => none | some (none, u2) => some (u2, X1) | some (some m, u2) => some (u2, X1 ++ [cnN ((X1.length : Int) - 1) m.1 m.2])) = _
  rw [hc]
theorem cA_par {u u1 : List Int} {X X1 : List Nd} (h : cC u X = some (41 :: u1, X1)) : cA (40 :: u) X = some (u1, X1) := by
  unfold cA
  have e : rdC (4 * u.length + 4) u X = some (41 :: u1, X1) := h
  rw [List.length_cons, show 4 * (u.length + 1) + 1 = (4 * u.length + 4) + 1 by omega, rdA, if_pos rfl, e]
  rfl
theorem cA_br {u : List Int} {X : List Nd} : cA (91 :: u) X = brP u X := by
  unfold cA
  rw [List.length_cons, show 4 * (u.length + 1) + 1 = (4 * u.length + 4) + 1 by omega, rdA, if_neg (by decide), if_pos rfl]
theorem cA_bs {u : List Int} {X : List Nd} : cA (92 :: u) X = bsP u X := by
  unfold cA
  rw [List.length_cons, show 4 * (u.length + 1) + 1 = (4 * u.length + 4) + 1 by omega, rdA, if_neg (by decide), if_neg (by decide), if_neg (by decide), if_pos rfl]
theorem cA_ch {c : Int} {u : List Int} {X : List Nd} (h : isS sgO c = false) : cA (c :: u) X = some (u, X ++ [clsN c]) := by
  have hn : c ≠ 40 ∧ c ≠ 91 ∧ c ≠ 46 ∧ c ≠ 92 := by
    refine ⟨?_, ?_, ?_, ?_⟩ <;> (rintro rfl; exact absurd h (by decide))
  unfold cA
  rw [List.length_cons, show 4 * (u.length + 1) + 1 = (4 * u.length + 4) + 1 by omega, rdA, if_neg hn.1, if_neg hn.2.1, if_neg hn.2.2.1, if_neg hn.2.2.2, if_neg (by rw [h]; decide)]
end Go.Proofs.YtibagghpimadfaaGreatDoor
