/-
  Texts put together: NuS, FwK.
-/
import Derived.Test.YtfohfljdgmlibaaV10
import Derived.Test.YtfohfljdgmlibaaV7
/-
  Contract: whether a node takes no names at all, by the specification.
-/
namespace Go.Proofs.Ytfohfljdgmlibaa
open Go.RowKit Go.Joins
set_option linter.unusedVariables false
set_option linter.unusedSimpArgs false
def bdN (oc k : Int) (R : List Bool) : Bool := decide (oc = 1 ∨ oc = 2) || (if k = 2 then R.all id else if k = 3 then R.any id else false)
def nlF (D : Pn) : Nat → Nat → Bool
  | 0, _ => false
  | f + 1, i => bdN (D.OC i) (D.K i) ((D.KL i).map fun k => nlF D f k.toNat)
theorem nlF_more {D : Pn} : ∀ (f g i : Nat), Lo D i → i < f → i < g → nlF D f i = nlF D g i
  | 0, g, i, hl, hf, hg => by omega
  | f + 1, 0, i, hl, hf, hg => by omega
  | f + 1, g + 1, i, hl, hf, hg => by
    have : ((D.KL i).map fun k => nlF D f k.toNat) = (D.KL i).map fun k => nlF D g k.toNat := List.map_congr_left (fun k hk => by
      have := hl i (Nat.le_refl _) k hk
      exact nlF_more f g k.toNat (lo_less hl (by omega)) (by omega) (by omega))
    rw [nlF, nlF, this]
/-- A node takes no names at all. -/
def nl (D : Pn) (i : Nat) : Bool := nlF D (i + 1) i
theorem nl_eq {D : Pn} {i : Nat} (hl : Lo D i) : nl D i = bdN (D.OC i) (D.K i) ((D.KL i).map fun k => nl D k.toNat) := by
  have : ((D.KL i).map fun k => nlF D i k.toNat) = (D.KL i).map fun k => nl D k.toNat := List.map_congr_left (fun k hk => by
    have := hl i (Nat.le_refl _) k hk
    exact nlF_more i (k.toNat + 1) k.toNat (lo_less hl (by omega)) (by omega) (by omega))
  show nlF D (i + 1) i = _
  rw [nlF, this]
/-- What the sets of a right model lean on. -/
def RN (D : Pn) (n : Nat) : Prop := D.n = n ∧ n ≤ 40 ∧ (∀ j, j < n → nodeB D j = true) ∧ (∀ j, j < n → ∀ k, k ∈ D.KL j → 0 ≤ k ∧ k < (j : Int)) ∧ (∀ j, j < n → ∃ c, tr D j = some c) ∧ ∀ j, j < n → (D.KL j).length ≤ 1048576
theorem rn_of {D : Pn} {n : Nat} (hD : D.n = n) (h : pkB D = true) (hz : pnTot D ≤ 1048576) : RN D n := by
  obtain ⟨h1, h2, -⟩ := pk_facts h
  have h3 := pk_lo h
  rw [hD] at h1 h2 h3
  exact ⟨hD, h1.2, h2, fun j hj => (h3 j hj).2, fun j hj => (h3 j hj).1, fun j hj => ((pn_sz hz).2 j (by rw [hD]; exact hj)).2⟩
theorem rn_kinds {D : Pn} {n : Nat} (h : RN D n) {i : Nat} (hi : i < n) : D.K i = 1 ∨ D.K i = 2 ∨ D.K i = 3 ∨ D.K i = 4 := nd_kinds (h.2.2.1 i hi)
theorem all_no {R : List Bool} {m : Nat} (hm : m < R.length) (h : R[m]?.getD false = false) : R.all id = false := by
  rw [List.all_eq_false]
  rw [List.getElem?_eq_getElem hm] at h
  exact ⟨R[m], List.getElem_mem hm, by have : R[m] = false := h; rw [this]; decide⟩
theorem all_yes {R : List Bool} (h : ∀ m, m < R.length → R[m]?.getD false = true) : R.all id = true := by
  rw [List.all_eq_true]
  intro b hb
  obtain ⟨m, hm, rfl⟩ := List.mem_iff_getElem.1 hb
  have := h m hm
  rw [List.getElem?_eq_getElem hm] at this
  exact this
theorem any_yes {R : List Bool} {m : Nat} (hm : m < R.length) (h : R[m]?.getD false = true) : R.any id = true := by
  rw [List.any_eq_true]
  rw [List.getElem?_eq_getElem hm] at h
  exact ⟨R[m], List.getElem_mem hm, h⟩
theorem any_no {R : List Bool} (h : ∀ m, m < R.length → R[m]?.getD false = false) : R.any id = false := by
  rw [List.any_eq_false]
  intro b hb
  obtain ⟨m, hm, rfl⟩ := List.mem_iff_getElem.1 hb
  have := h m hm
  rw [List.getElem?_eq_getElem hm] at this
  have h2 : R[m] = false := this
  rw [h2]
  decide
end Go.Proofs.Ytfohfljdgmlibaa

/-
  Plain facts: a tree has no more kids than nodes ahead of its root.
-/
namespace Go.Proofs.Ytfohfljdgmlibaa
set_option linter.unusedVariables false
theorem fd_klen {g : Nat → Option Nat} : ∀ (ks : List Int) (a f : Nat), (∀ j c, j < a → g j = some c → c ≤ j) → fd g ks a = some f → ks.length ≤ a
  | [], a, f, _, _ => by simp
  | k :: ks, a, f, h2, h => by
    by_cases hc : 0 < a ∧ k = (a : Int) - 1
    · cases hg : g (a - 1) with
      | none => rw [fd_none hc hg] at h; cases h
      | some c =>
        have hb := h2 _ c (by omega) hg
        rw [fd_yes hc hg] at h
        have := fd_klen ks c f (fun j d hj => h2 j d (by omega)) h
        rw [List.length_cons]
        omega
    · rw [fd_no hc] at h; cases h
end Go.Proofs.Ytfohfljdgmlibaa
