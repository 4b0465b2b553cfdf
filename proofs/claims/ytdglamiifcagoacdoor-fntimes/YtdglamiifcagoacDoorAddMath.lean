/-
  Plain facts, of no program: sums and differences of rows of digits, place by place.
-/
import Derived.Test.YtdglamiifcagoacDoorRowMath
namespace Go.Proofs.YtdglamiifcagoacDoor
theorem rval_snoc (d : List Int) (v : Int) : rval (d ++ [v]) = rval d + 10 ^ d.length * v := by
  rw [rval_app]; simp [rval]
theorem take_snocI (xs : List Int) (k : Nat) (h : k < xs.length) : xs.take (k + 1) = xs.take k ++ [xs[k]?.getD 0] := by
  rw [List.take_succ_eq_append_getElem h, List.getElem?_eq_getElem h]; rfl
theorem rval_take (xs : List Int) (k : Nat) (h : k < xs.length) : rval (xs.take (k + 1)) = rval (xs.take k) + 10 ^ k * xs[k]?.getD 0 := by
  rw [take_snocI xs k h, rval_snoc, List.length_take, Nat.min_eq_left (by omega)]
theorem set_next (d : List Int) (r : Nat) (v : Int) : (d ++ List.replicate (r + 1) 0).set d.length v = (d ++ [v]) ++ List.replicate r 0 := by
  rw [List.set_append_right _ _ (Nat.le_refl _), Nat.sub_self, List.replicate_succ]
  simp
theorem row_digit {xs : List Int} (h : rowOK xs) (k : Nat) (hk : k < xs.length) : 0 ≤ xs[k]?.getD 0 ∧ xs[k]?.getD 0 ≤ 9 := by
  rw [List.getElem?_eq_getElem hk]; exact h _ (List.getElem_mem hk)
theorem ok_snoc {d : List Int} {v : Int} (h : rowOK d) (h0 : 0 ≤ v) (h9 : v ≤ 9) : rowOK (d ++ [v]) := by
  intro x hx
  rcases List.mem_append.1 hx with hx | hx
  · exact h x hx
  · have : x = v := by simpa using hx
    rw [this]; exact ⟨h0, h9⟩
/-- One place of a sum. -/
theorem add_step (xs ys d : List Int) (k : Nat) (c x y : Int) (hx : k < xs.length) (hy : k < ys.length) (hl : d.length = k) (ex : xs[k]?.getD 0 = x) (ey : ys[k]?.getD 0 = y)
    (h : rval d + 10 ^ k * c = rval (xs.take k) + rval (ys.take k)) : rval (d ++ [(x + y + c) % 10]) + 10 ^ (k + 1) * ((x + y + c) / 10) = rval (xs.take (k + 1)) + rval (ys.take (k + 1)) := by
  rw [rval_snoc, rval_take xs k hx, rval_take ys k hy, ex, ey, hl, Int.pow_succ]
  have e : x + y + c = 10 * ((x + y + c) / 10) + (x + y + c) % 10 := (Int.mul_ediv_add_emod _ _).symm
  have e2 : (10 : Int) ^ k * (x + y + c) = 10 ^ k * (10 * ((x + y + c) / 10)) + 10 ^ k * ((x + y + c) % 10) := by rw [← Int.mul_add, ← e]
  rw [Int.mul_add, Int.mul_add] at e2
  rw [Int.mul_assoc]
  omega
theorem less_step (xs ys d : List Int) (k : Nat) (c x y : Int) (hx : k < xs.length) (hy : k < ys.length) (hl : d.length = k) (ex : xs[k]?.getD 0 = x) (ey : ys[k]?.getD 0 = y)
    (h : rval d + rval (ys.take k) = rval (xs.take k) + 10 ^ k * c) : rval (d ++ [(10 + x - y - c) % 10]) + rval (ys.take (k + 1)) = rval (xs.take (k + 1)) + 10 ^ (k + 1) * (1 - (10 + x - y - c) / 10) := by
  rw [rval_snoc, rval_take xs k hx, rval_take ys k hy, ex, ey, hl, Int.pow_succ]
  generalize hq : (10 + x - y - c) / 10 = q
  generalize hr : (10 + x - y - c) % 10 = r
  have e : 10 + x - y - c = 10 * q + r := by rw [← hq, ← hr]; exact (Int.mul_ediv_add_emod _ _).symm
  have e3 : r = 10 + x - y - c - 10 * q := by omega
  have e2 : (10 : Int) ^ k * r = 10 ^ k * 10 + 10 ^ k * x - 10 ^ k * y - 10 ^ k * c - 10 ^ k * (10 * q) := by rw [e3, Int.mul_sub, Int.mul_sub, Int.mul_sub, Int.mul_add]
  rw [Int.mul_sub, Int.mul_one, Int.mul_assoc]
  omega
theorem pow_top {c : Int} {k : Nat} {v : Int} (h : v + 10 ^ k * c < 10 ^ k) (hv : 0 ≤ v) (hc : 0 ≤ c) : c = 0 := by
  rcases (show c = 0 ∨ 1 ≤ c by omega) with h1 | h1
  · exact h1
  · have hp : (0 : Int) < 10 ^ k := Int.pow_pos (by decide)
    have := Int.mul_le_mul_of_nonneg_left h1 (Int.le_of_lt hp)
    rw [Int.mul_one] at this
    omega
end Go.Proofs.YtdglamiifcagoacDoor
