/-
  Plain facts on expressions as lists of nodes, of no program: where a node's piece begins, by the node's own fields, and by the pieces ahead of it.
-/
import Derived.Test.YtbijilnbbbicmaaDoorBase
namespace Go.Proofs.YtbijilnbbbicmaaDoor
set_option linter.unusedVariables false
section
variable (two cnt : Nat → Bool) (A B : Nat → Int)
/-- Where the piece of node 'n' begins, if it is a right one ('f' bounds the depth). -/
def trF : Nat → Nat → Option Nat
  | 0, _ => none
  | f + 1, n =>
    if two n = true then
      (if n = 0 ∨ B n ≠ (n : Int) - 1 then none else
        match trF f (n - 1) with
        | none => none
        | some b => if b = 0 ∨ A n ≠ (b : Int) - 1 then none else trF f (b - 1))
    else if cnt n = true then (if n = 0 ∨ A n ≠ (n : Int) - 1 then none else trF f (n - 1))
    else some n
theorem trF_le : ∀ (f n b : Nat), trF two cnt A B f n = some b → b ≤ n
  | 0, n, b, h => by simp [trF] at h
  | f + 1, n, b, h => by
    rw [trF] at h
    split at h
    · split at h
      · cases h
      · rename_i hn
        cases hr : trF two cnt A B f (n - 1) with
        | none => rw [hr] at h; cases h
        | some c =>
          rw [hr] at h
          dsimp only at h
          have h1 := trF_le f (n - 1) c hr
          split at h
          · cases h
          · have h2 := trF_le f (c - 1) b h
            omega
    · split at h
      · split at h
        · cases h
        · have := trF_le f (n - 1) b h
          omega
      · cases h; exact Nat.le_refl _
theorem trF_more : ∀ (f g n : Nat), n < f → n < g → trF two cnt A B f n = trF two cnt A B g n
  | 0, g, n, hf, hg => by omega
  | f + 1, 0, n, hf, hg => by omega
  | f + 1, g + 1, n, hf, hg => by
    rw [trF, trF]
    by_cases h2 : two n = true
    · rw [if_pos h2, if_pos h2]
      by_cases h0 : n = 0 ∨ B n ≠ (n : Int) - 1
      · rw [if_pos h0, if_pos h0]
      · rw [if_neg h0, if_neg h0, trF_more f g (n - 1) (by omega) (by omega)]
        cases hr : trF two cnt A B g (n - 1) with
        | none => rfl
        | some c =>
          dsimp only
          have hc := trF_le two cnt A B g (n - 1) c hr
          by_cases h1 : c = 0 ∨ A n ≠ (c : Int) - 1
          · rw [if_pos h1, if_pos h1]
          · rw [if_neg h1, if_neg h1, trF_more f g (c - 1) (by omega) (by omega)]
    · rw [if_neg h2, if_neg h2]
      by_cases h3 : cnt n = true
      · rw [if_pos h3, if_pos h3]
        by_cases h0 : n = 0 ∨ A n ≠ (n : Int) - 1
        · rw [if_pos h0, if_pos h0]
        · rw [if_neg h0, if_neg h0, trF_more f g (n - 1) (by omega) (by omega)]
      · rw [if_neg h3, if_neg h3]
def tr (n : Nat) : Option Nat := trF two cnt A B (n + 1) n
theorem tr_two {n : Nat} (h : two n = true) : tr two cnt A B n = if n = 0 ∨ B n ≠ (n : Int) - 1 then none else match tr two cnt A B (n - 1) with | none => none | some b => if b = 0 ∨ A n ≠ (b : Int) - 1 then none else tr two cnt A B (b - 1) := by
  unfold tr
  rw [trF, if_pos h]
  by_cases h0 : n = 0 ∨ B n ≠ (n : Int) - 1
  · rw [if_pos h0, if_pos h0]
  · rw [if_neg h0, if_neg h0, trF_more two cnt A B n (n - 1 + 1) (n - 1) (by omega) (by omega)]
    cases hr : trF two cnt A B (n - 1 + 1) (n - 1) with
    | none => rfl
    | some c =>
      dsimp only
      have hc := trF_le two cnt A B _ _ c hr
      by_cases h1 : c = 0 ∨ A n ≠ (c : Int) - 1
      · rw [if_pos h1, if_pos h1]
      · rw [if_neg h1, if_neg h1, trF_more two cnt A B n (c - 1 + 1) (c - 1) (by omega) (by omega)]
theorem tr_cnt {n : Nat} (h : ¬ two n = true) (h3 : cnt n = true) : tr two cnt A B n = if n = 0 ∨ A n ≠ (n : Int) - 1 then none else tr two cnt A B (n - 1) := by
  unfold tr
  rw [trF, if_neg h, if_pos h3]
  by_cases h0 : n = 0 ∨ A n ≠ (n : Int) - 1
  · rw [if_pos h0, if_pos h0]
  · rw [if_neg h0, if_neg h0, trF_more two cnt A B n (n - 1 + 1) (n - 1) (by omega) (by omega)]
theorem tr_leaf {n : Nat} (h : ¬ two n = true) (h3 : ¬ cnt n = true) : tr two cnt A B n = some n := by
  unfold tr
  rw [trF, if_neg h, if_neg h3]
theorem tr_le {n b : Nat} (h : tr two cnt A B n = some b) : b ≤ n := trF_le two cnt A B _ _ _ h
/-- Every node of a right piece has a right piece of its own. -/
theorem tr_all : ∀ (m n b : Nat), n < m → tr two cnt A B n = some b → ∀ j, b ≤ j → j ≤ n → (tr two cnt A B j).isSome = true
  | 0, n, b, hm, h, j, hj, hn => by omega
  | m + 1, n, b, hm, h, j, hj, hn => by
    by_cases e : j = n
    · subst e; rw [h]; rfl
    · by_cases h2 : two n = true
      · have hh := h
        rw [tr_two two cnt A B h2] at hh
        split at hh
        · cases hh
        · cases hr : tr two cnt A B (n - 1) with
          | none => rw [hr] at hh; cases hh
          | some c =>
            rw [hr] at hh
            dsimp only at hh
            split at hh
            · cases hh
            · have hc := tr_le two cnt A B hr
              by_cases hjc : c ≤ j
              · exact tr_all m (n - 1) c (by omega) hr j hjc (by omega)
              · exact tr_all m (c - 1) b (by omega) hh j hj (by omega)
      · by_cases h3 : cnt n = true
        · have hh := h
          rw [tr_cnt two cnt A B h2 h3] at hh
          split at hh
          · cases hh
          · exact tr_all m (n - 1) b (by omega) hh j hj (by omega)
        · rw [tr_leaf two cnt A B h2 h3] at h
          cases h
          omega
variable (mu : Nat → Int)
/-- How much a node weighs, at most 2001 ('f' bounds the depth). -/
def wtF : Nat → Nat → Int
  | 0, _ => 0
  | f + 1, n => min (if two n = true then wtF f (A n).toNat + wtF f (B n).toNat else if cnt n = true then wtF f (A n).toNat * mu n else 1) 2001
theorem wtF_more : ∀ (f g n b : Nat), n < f → n < g → tr two cnt A B n = some b → wtF two cnt A B mu f n = wtF two cnt A B mu g n
  | 0, g, n, b, hf, hg, h => by omega
  | f + 1, 0, n, b, hf, hg, h => by omega
  | f + 1, g + 1, n, b, hf, hg, h => by
    rw [wtF, wtF]
    by_cases h2 : two n = true
    · rw [if_pos h2, if_pos h2]
      rw [tr_two two cnt A B h2] at h
      split at h
      · cases h
      · rename_i h0
        cases hr : tr two cnt A B (n - 1) with
        | none => rw [hr] at h; cases h
        | some c =>
          rw [hr] at h
          dsimp only at h
          split at h
          · cases h
          · rename_i h1
            have hc := tr_le two cnt A B hr
            have eB : (B n).toNat = n - 1 := by omega
            have eA : (A n).toNat = c - 1 := by omega
            rw [eA, eB, wtF_more f g (n - 1) c (by omega) (by omega) hr, wtF_more f g (c - 1) b (by omega) (by omega) h]
    · rw [if_neg h2, if_neg h2]
      by_cases h3 : cnt n = true
      · rw [if_pos h3, if_pos h3]
        rw [tr_cnt two cnt A B h2 h3] at h
        split at h
        · cases h
        · rename_i h0
          have eA : (A n).toNat = n - 1 := by omega
          rw [eA, wtF_more f g (n - 1) b (by omega) (by omega) h]
      · rw [if_neg h3, if_neg h3]
def wt (n : Nat) : Int := wtF two cnt A B mu (n + 1) n
theorem wt_le (n : Nat) : wt two cnt A B mu n ≤ 2001 := by
  unfold wt
  rw [wtF]
  exact Int.min_le_right _ _
theorem wt_two {n b c : Nat} (h : two n = true) (hn : ¬ (n = 0 ∨ B n ≠ (n : Int) - 1)) (hr : tr two cnt A B (n - 1) = some c) (hc : ¬ (c = 0 ∨ A n ≠ (c : Int) - 1)) (hb : tr two cnt A B (c - 1) = some b) :
    wt two cnt A B mu n = min (wt two cnt A B mu (c - 1) + wt two cnt A B mu (n - 1)) 2001 := by
  have hcl := tr_le two cnt A B hr
  unfold wt
  rw [wtF, if_pos h, show (B n).toNat = n - 1 by omega, show (A n).toNat = c - 1 by omega, wtF_more two cnt A B mu n (n - 1 + 1) (n - 1) c (by omega) (by omega) hr, wtF_more two cnt A B mu n (c - 1 + 1) (c - 1) b (by omega) (by omega) hb]
theorem wt_cnt {n b : Nat} (h : ¬ two n = true) (h3 : cnt n = true) (hn : ¬ (n = 0 ∨ A n ≠ (n : Int) - 1)) (hr : tr two cnt A B (n - 1) = some b) :
    wt two cnt A B mu n = min (wt two cnt A B mu (n - 1) * mu n) 2001 := by
  unfold wt
  rw [wtF, if_neg h, if_pos h3, show (A n).toNat = n - 1 by omega, wtF_more two cnt A B mu n (n - 1 + 1) (n - 1) b (by omega) (by omega) hr]
theorem wt_leaf {n : Nat} (h : ¬ two n = true) (h3 : ¬ cnt n = true) : wt two cnt A B mu n = 1 := by
  unfold wt
  rw [wtF, if_neg h, if_neg h3]
  decide
end
end Go.Proofs.YtbijilnbbbicmaaDoor
