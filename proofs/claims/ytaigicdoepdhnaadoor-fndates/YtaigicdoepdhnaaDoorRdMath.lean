/-
  Plain facts on the text of a date, of no program: digits, numbers of a few digits, a text's shape.
-/
import Derived.Test.YtaigicdoepdhnaaDoorDecMath
import Derived.Test.YtaigicdoepdhnaaDoorDates
namespace Go.Proofs.YtaigicdoepdhnaaDoor
open Go.RowKit
set_option linter.unusedVariables false
theorem ext_size (s : ByteArray) (a b : Nat) (h : b ≤ s.size) : (s.extract a b).size = b - a := by simp; omega
theorem ext_at (s : ByteArray) (a b j : Nat) (h : a + j < b) (hb : b ≤ s.size) : at8 (s.extract a b) j = at8 s (a + j) := by
  have h1 : j < (s.extract a b).size := by rw [ext_size s a b hb]; omega
  rw [at8_eq _ j h1, at8_eq _ (a + j) (by omega)]
  congr 2
  exact ByteArray.getElem_extract _
theorem ext_ext (s : ByteArray) (a b c d : Nat) (hd : d ≤ b - a) (hb : b ≤ s.size) : ∀ j, c + j < d → at8 ((s.extract a b).extract c d) j = at8 s (a + c + j) := fun j hj => by
  rw [ext_at _ c d j hj (by rw [ext_size s a b hb]; omega), ext_at s a b (c + j) (by omega) hb, Nat.add_assoc]
theorem at8_bd (s : ByteArray) (j : Nat) : 0 ≤ at8 s j ∧ at8 s j ≤ 255 := by
  unfold at8
  have := ((s.data.toList[j]?).getD 0).toNat_lt
  omega
def numK (t : ByteArray) : Nat → Int
  | 0 => 0
  | k + 1 => numK t k * 10 + (at8 t k - 48)
def numB (t : ByteArray) : Int := numK t t.size
theorem dig_at {t : ByteArray} (h : digsB t = true) {j : Nat} (hj : j < t.size) : 48 ≤ at8 t j ∧ at8 t j ≤ 57 := by
  have := digsB_at t h j hj
  rw [← at8_eq t j hj] at this
  simpa [digitB] using this
def pw : Nat → Int
  | 0 => 1
  | k + 1 => 10 * pw k
theorem pw_bd {k : Nat} (h : k ≤ 4) : pw k ≤ 10000 := by
  obtain rfl | rfl | rfl | rfl | rfl : k = 0 ∨ k = 1 ∨ k = 2 ∨ k = 3 ∨ k = 4 := by omega
  all_goals decide
theorem numK_bd {t : ByteArray} (h : digsB t = true) : ∀ k, k ≤ t.size → 0 ≤ numK t k ∧ numK t k + 1 ≤ pw k
  | 0, _ => by simp [numK, pw]
  | k + 1, hk => by
    have := numK_bd h k (by omega)
    have := dig_at h (j := k) (by omega)
    simp only [numK, pw]; omega
theorem numK_same {t u : ByteArray} : ∀ k, (∀ j, j < k → at8 t j = at8 u j) → numK t k = numK u k
  | 0, _ => rfl
  | k + 1, h => by simp only [numK]; rw [numK_same k (fun j hj => h j (by omega)), h k (by omega)]
theorem digs_same {t u : ByteArray} (hs : t.size = u.size) (h : ∀ j, j < t.size → at8 t j = at8 u j) : digsB t = digsB u := by
  unfold digsB
  rw [hs]
  rw [Bool.eq_iff_iff, List.all_eq_true, List.all_eq_true]
  constructor
  · intro q j hj; have := q j hj; rw [h j (by simp at hj; omega)] at this; exact this
  · intro q j hj; have := q j hj; rw [← h j (by simp at hj; omega)] at this; exact this
/-- A text of a shape: a digit where the shape has a nought, the shape's own byte elsewhere. -/
def shB (s p : ByteArray) : Bool := decide (s.size = p.size) && (List.range p.size).all fun j => if at8 p j = 48 then digitB (at8 s j) else decide (at8 s j = at8 p j)
theorem shB_size {s p : ByteArray} (h : ¬ s.size = p.size) : shB s p = false := by simp [shB, h]
theorem shB_no {s p : ByteArray} (k : Nat) (hk : k < p.size) (h : (if at8 p k = 48 then digitB (at8 s k) else decide (at8 s k = at8 p k)) = false) : shB s p = false := by
  have : ((List.range p.size).all fun j => if at8 p j = 48 then digitB (at8 s j) else decide (at8 s j = at8 p j)) = false := by
    rw [List.all_eq_false]
    exact ⟨k, by simpa using hk, by rw [h]; simp⟩
  simp [shB, this]
theorem shB_yes {s p : ByteArray} (hs : s.size = p.size) (h : ∀ k, k < p.size → (if at8 p k = 48 then digitB (at8 s k) else decide (at8 s k = at8 p k)) = true) : shB s p = true := by
  have : ((List.range p.size).all fun j => if at8 p j = 48 then digitB (at8 s j) else decide (at8 s j = at8 p j)) = true := by
    rw [List.all_eq_true]
    intro j hj
    exact h j (by simpa using hj)
  simp [shB, this, hs]
theorem shB_at {s p : ByteArray} (h : shB s p = true) : s.size = p.size ∧ ∀ k, k < p.size → (if at8 p k = 48 then digitB (at8 s k) else decide (at8 s k = at8 p k)) = true := by
  simp only [shB, Bool.and_eq_true, decide_eq_true_eq, List.all_eq_true] at h
  exact ⟨h.1, fun k hk => h.2 k (by simpa using hk)⟩
/-- The number of so many digits at a place of a text; -1: there is none. -/
def partV (s : ByteArray) (a m : Nat) : Int := if s.size < a + m then -1 else if digsB (s.extract a (a + m)) = true then numB (s.extract a (a + m)) else -1
end Go.Proofs.YtaigicdoepdhnaaDoor
