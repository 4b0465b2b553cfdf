/-
  Plain facts on the date of a number of seconds, of no program: there is one, and no other one.
-/
import Derived.Test.YtaigicdoepdhnabDoorSecMath
namespace Go.Proofs.YtaigicdoepdhnabDoor
open Go.RowKit
set_option linter.unusedVariables false
theorem dby_mono {a b : Int} (h0 : 1 ≤ a) (h : a ≤ b) : dby a ≤ dby b := by unfold dby; omega
theorem dby_max : dby 10000 = 3652059 := by decide
theorem leap_01 (y : Int) (h : 1 ≤ y) : dby (y + 1) = dby y + 365 + (if leapB y = true then 1 else 0) := by
  by_cases k1 : y % 4 = 0 <;> by_cases k2 : y % 100 = 0 <;> by_cases k3 : y % 400 = 0
  all_goals
    have e : leapB y = decide (y % 4 = 0 ∧ (y % 100 ≠ 0 ∨ y % 400 = 0)) := rfl
    simp only [e, k1, k2, k3]
    simp
    unfold dby
    omega
theorem cum_12 {y : Int} (h1 : 1 ≤ y) (h2 : y ≤ 9999) : cumN y 12 = dby (y + 1) - dby y := by
  rw [leap_01 y h1]
  have e : ∀ k : Nat, k < 12 → dim y ((k : Int) + 1) = dimIn y ((k : Int) + 1) := fun k hk => dim_in ⟨h1, h2⟩ ⟨by omega, by omega⟩
  simp only [cumN]
  have e0 := e 0 (by omega)
  have e1 := e 1 (by omega)
  have e2 := e 2 (by omega)
  have e3 := e 3 (by omega)
  have e4 := e 4 (by omega)
  have e5 := e 5 (by omega)
  have e6 := e 6 (by omega)
  have e7 := e 7 (by omega)
  have e8 := e 8 (by omega)
  have e9 := e 9 (by omega)
  have e10 := e 10 (by omega)
  have e11 := e 11 (by omega)
  simp only [dimIn] at e0 e1 e2 e3 e4 e5 e6 e7 e8 e9 e10 e11
  rw [e0, e1, e2, e3, e4, e5, e6, e7, e8, e9, e10, e11]
  cases hl : leapB y <;> simp <;> omega
theorem cumN_mono {y : Int} (hy : 1 ≤ y ∧ y ≤ 9999) {a b : Nat} (h : a ≤ b) (hb : b ≤ 12) : cumN y a ≤ cumN y b := by
  induction b with
  | zero => obtain rfl : a = 0 := by omega
            exact Int.le_refl _
  | succ b ih =>
    by_cases e : a = b + 1
    · subst e; exact Int.le_refl _
    · have := ih (by omega) (by omega)
      have h1 := dim_lo (y := y) (m := (b : Int) + 1) hy (by omega)
      simp only [cumN]; omega
/-- The date of so many days and seconds. -/
def Sh (at_ : Int) (y m d h n s : Int) : Prop :=
  (1 ≤ y ∧ y ≤ 9999) ∧ (∃ k : Nat, k < 12 ∧ m = (k : Int) + 1 ∧ cumN y k ≤ at_ / 86400 - dby y ∧ at_ / 86400 - dby y < cumN y (k + 1) ∧ d = at_ / 86400 - dby y - cumN y k + 1) ∧
  dby y ≤ at_ / 86400 ∧ at_ / 86400 < dby (y + 1) ∧ h = at_ / 3600 % 24 ∧ n = at_ / 60 % 60 ∧ s = at_ % 60
theorem sh_one {a y m d h n s y' m' d' h' n' s' : Int} (p : Sh a y m d h n s) (q : Sh a y' m' d' h' n' s') : y = y' ∧ m = m' ∧ d = d' ∧ h = h' ∧ n = n' ∧ s = s' := by
  obtain ⟨⟨y1, y2⟩, ⟨k, hk, rfl, c1, c2, rfl⟩, b1, b2, rfl, rfl, rfl⟩ := p
  obtain ⟨⟨z1, z2⟩, ⟨j, hj, rfl, e1, e2, rfl⟩, f1, f2, rfl, rfl, rfl⟩ := q
  have hyy : y = y' := by
    rcases Int.lt_trichotomy y y' with h | h | h
    · have := dby_mono (a := y + 1) (b := y') (by omega) (by omega); omega
    · exact h
    · have := dby_mono (a := y' + 1) (b := y) (by omega) (by omega); omega
  subst hyy
  have hkj : k = j := by
    rcases Nat.lt_trichotomy k j with h | h | h
    · have := cumN_mono ⟨y1, y2⟩ (a := k + 1) (b := j) (by omega) (by omega); omega
    · exact h
    · have := cumN_mono ⟨y1, y2⟩ (a := j + 1) (b := k) (by omega) (by omega); omega
  subst hkj
  exact ⟨rfl, rfl, rfl, rfl, rfl, rfl⟩
theorem guess_year {D : Int} (h : 0 ≤ D) (h2 : D < 3652059) : dby (D / 366 + 1) ≤ D ∧ D / 366 + 1 ≤ 9999 := by unfold dby; omega
end Go.Proofs.YtaigicdoepdhnabDoor
