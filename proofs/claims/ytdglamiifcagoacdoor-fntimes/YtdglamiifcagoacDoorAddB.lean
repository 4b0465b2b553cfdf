/-
  Plain facts, of no program: the sum of two right numbers.
-/
import Derived.Test.YtdglamiifcagoacDoorNormMath
import Derived.Test.YtdglamiifcagoacDoorCmpMath
namespace Go.Proofs.YtdglamiifcagoacDoor
/-- The right number that a whole number of sixtieth places is. -/
def res60 (z : Int) : Bool × ByteArray × Int × Bool := decRes (decide (z < 0)) z.natAbs 60
def addB (n : Bool) (s : ByteArray) (c : Int) (m : Bool) (t : ByteArray) (d : Int) : Bool × ByteArray × Int × Bool := if decB n s c = true ∧ decB m t d = true then res60 (iv n s c + iv m t d) else (false, ByteArray.empty, 0, false)
theorem addB_no1 {n : Bool} {s : ByteArray} {c : Int} (m : Bool) (t : ByteArray) (d : Int) (h : decB n s c = false) : addB n s c m t d = (false, ByteArray.empty, 0, false) := by simp [addB, h]
theorem addB_no2 (n : Bool) (s : ByteArray) (c : Int) {m : Bool} {t : ByteArray} {d : Int} (h : decB m t d = false) : addB n s c m t d = (false, ByteArray.empty, 0, false) := by simp [addB, h]
theorem addB_yes {n m : Bool} {s t : ByteArray} {c d : Int} (h1 : decB n s c = true) (h2 : decB m t d = true) : addB n s c m t d = res60 (iv n s c + iv m t d) := by simp [addB, h1, h2]
/-- A number 'v' in units of the place 'g', with its sign. -/
theorem res60_is (b : Bool) (v : Nat) (g : Int) (z : Int) (h0 : 0 ≤ g) (h1 : g ≤ 60) (hz : z.natAbs = v * 10 ^ (60 - g).toNat) (hb : z ≠ 0 → decide (z < 0) = b) : decRes b v g.toNat = res60 z := by
  have e := decRes_pow b v g.toNat (60 - g).toNat
  rw [show g.toNat + (60 - g).toNat = 60 by omega, ← hz] at e
  rw [← e, res60]
  by_cases h : z = 0
  · exact decRes_zero _ _ _ _ (by rw [h]; rfl)
  · rw [hb h]
theorem iv_same (n : Bool) (s t : ByteArray) (c d : Int) : (iv n s c + iv n t d).natAbs = mag s c + mag t d ∧ (iv n s c + iv n t d ≠ 0 → decide (iv n s c + iv n t d < 0) = n) := by
  cases n
  · simp only [iv, Bool.false_eq_true, if_false]; refine ⟨by omega, fun h => by simp; omega⟩
  · simp only [iv, if_true]; refine ⟨by omega, fun h => by simp; omega⟩
theorem iv_less (n m : Bool) (s t : ByteArray) (c d : Int) (hn : n ≠ m) (h : mag s c < mag t d) : (iv n s c + iv m t d).natAbs = mag t d - mag s c ∧ (iv n s c + iv m t d ≠ 0 → decide (iv n s c + iv m t d < 0) = m) := by
  cases n <;> cases m
  · exact absurd rfl hn
  · simp only [iv, Bool.false_eq_true, if_false, if_true]; refine ⟨by omega, fun _ => by simp; omega⟩
  · simp only [iv, Bool.false_eq_true, if_false, if_true]; refine ⟨by omega, fun _ => by simp; omega⟩
  · exact absurd rfl hn
theorem iv_more (n m : Bool) (s t : ByteArray) (c d : Int) (hn : n ≠ m) (h : mag t d ≤ mag s c) : (iv n s c + iv m t d).natAbs = mag s c - mag t d ∧ (iv n s c + iv m t d ≠ 0 → decide (iv n s c + iv m t d < 0) = n) := by
  cases n <;> cases m
  · exact absurd rfl hn
  · simp only [iv, Bool.false_eq_true, if_false, if_true]; refine ⟨by omega, fun _ => by simp; omega⟩
  · simp only [iv, Bool.false_eq_true, if_false, if_true]; refine ⟨by omega, fun _ => by simp; omega⟩
  · exact absurd rfl hn
theorem fin_same (n : Bool) {s t : ByteArray} {c d g : Int} {a b v : Nat} (m1 : mag s c = a * 10 ^ (60 - g).toNat) (m2 : mag t d = b * 10 ^ (60 - g).toNat) (hv : v = a + b) (h0 : 0 ≤ g) (h1 : g ≤ 60) : decRes n v g.toNat = res60 (iv n s c + iv n t d) := by
  obtain ⟨e1, e2⟩ := iv_same n s t c d
  exact res60_is n v g _ h0 h1 (by rw [e1, m1, m2, hv, Nat.add_mul]) e2
theorem fin_less {n m : Bool} (hn : n ≠ m) {s t : ByteArray} {c d g : Int} {a b v : Nat} (m1 : mag s c = a * 10 ^ (60 - g).toNat) (m2 : mag t d = b * 10 ^ (60 - g).toNat) (hab : a < b) (hv : v = b - a) (h0 : 0 ≤ g) (h1 : g ≤ 60) : decRes m v g.toNat = res60 (iv n s c + iv m t d) := by
  obtain ⟨e1, e2⟩ := iv_less n m s t c d hn (by rw [m1, m2]; exact scaled_lt hab (pow_pos10 _))
  exact res60_is m v g _ h0 h1 (by rw [e1, m1, m2, hv, Nat.sub_mul]) e2
theorem fin_more {n m : Bool} (hn : n ≠ m) {s t : ByteArray} {c d g : Int} {a b v : Nat} (m1 : mag s c = a * 10 ^ (60 - g).toNat) (m2 : mag t d = b * 10 ^ (60 - g).toNat) (hab : b ≤ a) (hv : v = a - b) (h0 : 0 ≤ g) (h1 : g ≤ 60) : decRes n v g.toNat = res60 (iv n s c + iv m t d) := by
  obtain ⟨e1, e2⟩ := iv_more n m s t c d hn (by rw [m1, m2]; exact Nat.mul_le_mul_right _ hab)
  exact res60_is n v g _ h0 h1 (by rw [e1, m1, m2, hv, Nat.sub_mul]) e2
end Go.Proofs.YtdglamiifcagoacDoor
