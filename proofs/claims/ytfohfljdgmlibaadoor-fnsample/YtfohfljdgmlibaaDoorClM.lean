/-
  Plain facts on clear models, of no program's run.
-/
import Derived.Test.YtfohfljdgmlibaaDoorFwM
namespace Go.Proofs.YtfohfljdgmlibaaDoor
set_option linter.unusedVariables false
set_option linter.unusedSimpArgs false
/-- No name leads to both. -/
def apP (D : Pn) (x y : Int) : Bool := decide (D.K x.toNat ≠ 4) && (decide (D.K y.toNat ≠ 4) && !((D.NM x.toNat).toList == (D.NM y.toNat).toList))
def apB (D : Pn) (L : List Int) : Bool := (List.range L.length).all fun i => (L.take i).all fun y => apP D (L[i]?.getD 0) y
theorem apB_no {D : Pn} {L : List Int} {i k : Nat} (hi : i < L.length) (hk : k < i) (h : apP D (L[i]?.getD 0) (L[k]?.getD 0) = false) : apB D L = false := by
  unfold apB
  rw [List.all_eq_false]
  refine ⟨i, by simpa using hi, ?_⟩
  rw [Bool.not_eq_true, List.all_eq_false]
  refine ⟨L[k]?.getD 0, ?_, by simp [h]⟩
  rw [List.getElem?_eq_getElem (by omega)]
  exact List.mem_take_iff_getElem.2 ⟨k, by omega, rfl⟩
theorem apB_yes {D : Pn} {L : List Int} (h : ∀ i, i < L.length → ∀ k, k < i → apP D (L[i]?.getD 0) (L[k]?.getD 0) = true) : apB D L = true := by
  unfold apB
  rw [List.all_eq_true]
  intro i hi
  have hi : i < L.length := by simpa using hi
  rw [List.all_eq_true]
  intro y hy
  obtain ⟨k, hk, e⟩ := List.mem_take_iff_getElem.1 hy
  have := h i hi k (by omega)
  rw [List.getElem?_eq_getElem (show k < L.length by omega)] at this
  rw [← e]
  exact this
theorem apB_nil (D : Pn) : apB D [] = true := rfl
/-- A clear model. -/
def clB (D : Pn) : Bool := pkB D && (apB D (foV D) && (List.range D.n).all fun i => !(posB D i) || apB D (flV D i))
theorem clB_wrong {D : Pn} (h : pkB D = false) : clB D = false := by unfold clB; rw [h]; rfl
theorem clB_first {D : Pn} (h : apB D (foV D) = false) : clB D = false := by unfold clB; rw [h]; simp
theorem clB_no {D : Pn} {i : Nat} (hi : i < D.n) (hp : posB D i = true) (h : apB D (flV D i) = false) : clB D = false := by
  have : ((List.range D.n).all fun i => !(posB D i) || apB D (flV D i)) = false := by
    rw [List.all_eq_false]
    exact ⟨i, by simpa using hi, by simp [hp, h]⟩
  unfold clB
  rw [this]
  simp
theorem clB_yes {D : Pn} (h0 : pkB D = true) (h1 : apB D (foV D) = true) (h : ∀ i, i < D.n → posB D i = true → apB D (flV D i) = true) : clB D = true := by
  have : ((List.range D.n).all fun i => !(posB D i) || apB D (flV D i)) = true := by
    rw [List.all_eq_true]
    intro i hi
    have hi : i < D.n := by simpa using hi
    cases hp : posB D i
    · rfl
    · simpa using h i hi hp
  unfold clB
  rw [h0, h1, this]
  rfl
theorem flV_nopos {D : Pn} {x : Int} (h : posB D x = false) : flV D x = [] := by unfold flV; rw [if_neg (by rw [h]; simp)]
theorem foV_range {D : Pn} (h : pkB D = true) : ∀ z ∈ foV D, 0 ≤ z ∧ z < (D.n : Int) := by
  intro z hz
  unfold foV at hz
  rw [if_pos h, srt_mem] at hz
  have h1 := (pk_facts h).1
  have := ed_range (D.n - 1 + 1) (D.n - 1) (by omega) (lo_root h) z hz
  omega
theorem flV_range {D : Pn} (h : pkB D = true) {x : Int} : ∀ z ∈ flV D x, 0 ≤ z ∧ z < (D.n : Int) := by
  intro z hz
  unfold flV at hz
  split at hz
  · rw [srt_mem] at hz; exact foL_range h z hz
  · exact absurd hz (List.not_mem_nil)
/-- Every set of the ways is one that the specification asks of, or empty. -/
theorem tk_sets {D : Pn} {F : Nat → Nat} {e : Nat} (hpk : pkB D = true) (hT : TkOf D F e) {p : Nat} (hp : p < 41) : F p < 18446744073709551616 ∧ ((p < D.n ∧ bts (F p) = flV D p) ∨ (p = 40 ∧ bts (F p) = foV D) ∨ bts (F p) = []) := by
  by_cases h40 : p = 40
  · subst h40
    have hb := hT.2.1
    refine ⟨Nat.lt_of_lt_of_le hb.1 (by decide), .inr (.inl ⟨rfl, ?_⟩)⟩
    unfold foV
    rw [if_pos hpk]
    exact bts_srt hb (ed_pos hpk)
  · by_cases hn : p < D.n
    · have := tk_follow hpk hT hn
      exact ⟨this.2, .inl ⟨hn, this.1⟩⟩
    · obtain ⟨h1, h2⟩ := hT.1 p (by omega)
      refine ⟨Nat.lt_of_lt_of_le h1 (by decide), .inr (.inr ?_)⟩
      have : F p = 0 := by
        apply Nat.eq_of_testBit_eq
        intro q
        rw [Nat.zero_testBit]
        cases hb : (F p).testBit q
        · rfl
        · exfalso
          have hn1 := (pk_facts hpk).1
          obtain ⟨j, hj, h8⟩ := lk_node D.n (D.n - 1) (by have := (pk_facts hpk).1; omega) (lo_root hpk) ((h2 q).1 hb)
          rcases h8 with ⟨-, h8, -⟩ | ⟨-, L1, a, L2, b, L3, e9, -, h8, -⟩
          · have := ed_range (j + 1) j (by omega) (lo_less (lo_root hpk) hj) _ h8
            omega
          · have hk := lo_root hpk j hj a (by rw [e9]; simp)
            have := ed_range (a.toNat + 1) a.toNat (by omega) (lo_less (lo_root hpk) (by omega)) _ h8
            omega
      rw [this]
      rfl
theorem cl_all {D : Pn} {F : Nat → Nat} {e : Nat} (hpk : pkB D = true) (hT : TkOf D F e) (h : ∀ p, p < 41 → apB D (bts (F p)) = true) : clB D = true := by
  refine clB_yes hpk ?_ (fun i hi hp => ?_)
  · have := h 40 (by omega)
    rcases (tk_sets hpk hT (p := 40) (by omega)).2 with ⟨h1, h2⟩ | ⟨-, h2⟩ | h2
    · have := (pk_facts hpk).1; omega
    · rw [h2] at this; exact this
    · have hb := hT.2.1
      have h3 : foV D = bts (F 40) := by
        unfold foV
        rw [if_pos hpk]
        exact (bts_srt hb (ed_pos hpk)).symm
      rw [h3]; exact this
  · have := h i (by have := (pk_facts hpk).1; omega)
    rw [(tk_follow hpk hT hi).1] at this
    exact this
theorem cl_none {D : Pn} {F : Nat → Nat} {e : Nat} (hpk : pkB D = true) (hT : TkOf D F e) {p : Nat} (hp : p < 41) (h : apB D (bts (F p)) = false) : clB D = false := by
  rcases (tk_sets hpk hT hp).2 with ⟨h1, h2⟩ | ⟨-, h2⟩ | h2
  · rw [h2] at h
    cases hpo : posB D p
    · rw [flV_nopos hpo] at h; cases h
    · exact clB_no h1 hpo h
  · rw [h2] at h; exact clB_first h
  · rw [h2] at h; cases h
end Go.Proofs.YtfohfljdgmlibaaDoor
