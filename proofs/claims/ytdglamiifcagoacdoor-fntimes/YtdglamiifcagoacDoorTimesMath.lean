/-
  Plain facts, of no program: products of rows of digits, place by place.
-/
import Derived.Test.YtdglamiifcagoacDoorAddMath
namespace Go.Proofs.YtdglamiifcagoacDoor
theorem rval_set : ∀ (P : List Int) (k : Nat) (v : Int), k < P.length → rval (P.set k v) = rval P + 10 ^ k * (v - P[k]?.getD 0)
  | [], k, v, h => by simp at h
  | x :: l, 0, v, _ => by simp [rval]; omega
  | x :: l, k + 1, v, h => by
    have ih := rval_set l k v (by simpa using h)
    simp only [List.set_cons_succ, rval, List.getElem?_cons_succ]
    rw [ih, Int.mul_add, Int.pow_succ, Int.mul_comm (10 ^ k) 10, Int.mul_assoc]
    omega
/-- Nothing stands at place 'm' nor above. -/
def zeroFrom (P : List Int) (m : Nat) : Prop := ∀ k, m ≤ k → P[k]?.getD 0 = 0
theorem zero_set {P : List Int} {m k : Nat} {v : Int} (h : zeroFrom P m) (hk : k < m) : zeroFrom (P.set k v) m := fun j hj => by
  rw [List.getElem?_set_ne (by omega)]; exact h j hj
theorem ok_set {P : List Int} {k : Nat} {v : Int} (h : rowOK P) (h0 : 0 ≤ v) (h9 : v ≤ 9) : rowOK (P.set k v) := fun x hx => by
  rcases List.mem_or_eq_of_mem_set hx with hx | rfl
  · exact h x hx
  · exact ⟨h0, h9⟩
/-- One place of one row of a product. -/
theorem times_step (P B : List Int) (P0 : Int) (i j : Nat) (x y c g : Int) (hk : i + j < P.length) (hj : j < B.length) (hg : P[i + j]?.getD 0 = g) (hy : B[j]?.getD 0 = y)
    (h : rval P + 10 ^ (i + j) * c = P0 + 10 ^ i * (x * rval (B.take j))) :
    rval (P.set (i + j) ((g + x * y + c) % 10)) + 10 ^ (i + (j + 1)) * ((g + x * y + c) / 10) = P0 + 10 ^ i * (x * rval (B.take (j + 1))) := by
  rw [rval_set _ _ _ hk, hg, rval_take B j hj, hy, show i + (j + 1) = (i + j) + 1 by omega, Int.pow_succ]
  generalize hq : (g + x * y + c) / 10 = q
  generalize hr : (g + x * y + c) % 10 = r
  have e : g + x * y + c = 10 * q + r := by rw [← hq, ← hr]; exact (Int.mul_ediv_add_emod _ _).symm
  have e1 : r - g = x * y + c - 10 * q := by omega
  rw [e1]
  have e2 : (10 : Int) ^ (i + j) * (x * y + c - 10 * q) = 10 ^ (i + j) * (x * y) + 10 ^ (i + j) * c - 10 ^ (i + j) * (10 * q) := by rw [Int.mul_sub, Int.mul_add]
  have e3 : x * (rval (B.take j) + 10 ^ j * y) = x * rval (B.take j) + 10 ^ j * (x * y) := by rw [Int.mul_add, ← Int.mul_assoc, Int.mul_comm x (10 ^ j), Int.mul_assoc]
  have e4 : (10 : Int) ^ i * (10 ^ j * (x * y)) = 10 ^ (i + j) * (x * y) := by rw [← Int.mul_assoc, ← Int.pow_add]
  rw [e2, e3, Int.mul_add, e4, Int.mul_assoc]
  omega
/-- The last carry of a row. -/
theorem times_end (P B : List Int) (P0 : Int) (i : Nat) (x c : Int) (hk : i + B.length < P.length) (hz : P[i + B.length]?.getD 0 = 0)
    (h : rval P + 10 ^ (i + B.length) * c = P0 + 10 ^ i * (x * rval (B.take B.length))) : rval (P.set (i + B.length) c) = P0 + 10 ^ i * (x * rval B) := by
  rw [rval_set _ _ _ hk, hz, Int.sub_zero, h, List.take_length]
theorem times_row (A : List Int) (b P : Int) (i : Nat) (x : Int) (hi : i < A.length) (hx : A[i]?.getD 0 = x) (h : P = rval (A.take i) * b) : P + 10 ^ i * (x * b) = rval (A.take (i + 1)) * b := by
  rw [rval_take A i hi, hx, h, Int.add_mul, Int.mul_assoc]
theorem mul_le81 {x y : Int} (hx0 : 0 ≤ x) (hx9 : x ≤ 9) (hy0 : 0 ≤ y) (hy9 : y ≤ 9) : 0 ≤ x * y ∧ x * y ≤ 81 := by
  refine ⟨Int.mul_nonneg hx0 hy0, ?_⟩
  have := Int.mul_le_mul hx9 hy9 hy0 (by decide)
  omega
end Go.Proofs.YtdglamiifcagoacDoor
