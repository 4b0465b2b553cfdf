/-
  Plain facts, of no program: digits in an array, the least first, 60 of them behind the point.
-/
import Derived.Test.YtdglamiifcagoacDoorCmpMath
namespace Go.Proofs.YtdglamiifcagoacDoor
/-- The array's cells. -/
def rowV (xs : List Int) : Array Value := (xs.map (Value.int .u8)).toArray
theorem rowV_size (xs : List Int) : (rowV xs).size = xs.length := by simp [rowV]
theorem rowV_get (xs : List Int) (i : Nat) (h : i < xs.length) : (rowV xs)[i]? = some (.int .u8 (xs[i]?.getD 0)) := by
  simp [rowV, List.getElem?_eq_getElem h]
theorem rowV_set (xs : List Int) (i : Nat) (v : Int) : (rowV xs).setIfInBounds i (.int .u8 v) = rowV (xs.set i v) := by
  apply Array.toList_inj.1
  simp [rowV, List.map_set]
/-- The digits of 's' from place 'a' on, 'k' of them, in a row of 'N' places. -/
def rowF (N : Nat) (s : ByteArray) (a k : Nat) : List Int := (List.range N).map fun p => if a ≤ p ∧ p < a + k then at8 s (s.size - 1 - (p - a)) - 48 else 0
theorem rowF_len (N : Nat) (s : ByteArray) (a k : Nat) : (rowF N s a k).length = N := by simp [rowF]
theorem rowF_zero (N : Nat) (s : ByteArray) (a : Nat) : rowF N s a 0 = List.replicate N 0 := by
  apply List.ext_getElem
  · simp [rowF]
  · intro i h1 h2
    simp [rowF]
    omega
theorem rowF_step (N : Nat) (s : ByteArray) (a k : Nat) : (rowF N s a k).set (a + k) (at8 s (s.size - 1 - k) - 48) = rowF N s a (k + 1) := by
  apply List.ext_getElem
  · simp [rowF]
  · intro i h1 h2
    rw [List.getElem_set]
    by_cases e : a + k = i
    · subst e
      simp [rowF]
    · simp only [e, if_false, rowF, List.getElem_map, List.getElem_range]
      by_cases h : a ≤ i ∧ i < a + k
      · rw [if_pos h, if_pos (by omega)]
      · rw [if_neg h, if_neg (by omega)]
/-- The number that a row of digits is, the least first. -/
def rval : List Int → Int
  | [] => 0
  | x :: l => x + 10 * rval l
theorem rval_app (a b : List Int) : rval (a ++ b) = rval a + 10 ^ a.length * rval b := by
  induction a with
  | nil => simp [rval]
  | cons x a ih => rw [List.cons_append, rval, rval, ih, List.length_cons, Int.pow_succ, Int.mul_add, ← Int.mul_assoc, Int.mul_comm 10 (10 ^ a.length)]; omega
theorem rval_zeros (k : Nat) : rval (List.replicate k 0) = 0 := by
  induction k with
  | zero => rfl
  | succ k ih => rw [List.replicate_succ, rval, ih]; rfl
theorem rval_rev (l : List UInt8) (h : dgL l) : rval (l.reverse.map fun c => (c.toNat : Int) - 48) = valL l := by
  induction l with
  | nil => rfl
  | cons c l ih =>
    have hc := h c List.mem_cons_self
    rw [List.reverse_cons, List.map_append, rval_app, ih (fun d hd => h d (List.mem_cons_of_mem _ hd)), valL_cons]
    simp only [List.length_map, List.length_reverse, List.map_cons, List.map_nil, rval, dgt, Int.mul_zero, Int.add_zero]
    push_cast
    rw [show (((c.toNat - 48 : Nat)) : Int) = (c.toNat : Int) - 48 by omega, Int.mul_comm]
    omega
theorem rowF_eq (s : ByteArray) (a : Nat) (N : Nat) (h : a + s.size ≤ N) : rowF N s a s.size = List.replicate a 0 ++ ((s.data.toList.reverse.map fun c => (c.toNat : Int) - 48) ++ List.replicate (N - a - s.size) 0) := by
  apply List.ext_getElem
  · simp [rowF]; omega
  · intro i h1 h2
    simp only [rowF, List.getElem_map, List.getElem_range]
    by_cases c1 : i < a
    · rw [if_neg (by omega), List.getElem_append_left (by simpa using c1)]; simp
    · rw [List.getElem_append_right (by simpa using c1)]
      by_cases c2 : i < a + s.size
      · rw [if_pos (by omega), List.getElem_append_left (by simp; omega)]
        simp only [List.getElem_map, List.getElem_reverse, List.length_replicate]
        have hk : s.size - 1 - (i - a) < s.size := by omega
        rw [at8_eq s _ hk]
        congr 2
      · rw [if_neg (by omega), List.getElem_append_right (by simp; omega)]; simp
theorem rowF_val (s : ByteArray) (a : Nat) (N : Nat) (h : a + s.size ≤ N) (hd : digsB s = true) : rval (rowF N s a s.size) = 10 ^ a * (valL s.data.toList : Int) := by
  rw [rowF_eq s a N h, rval_app, rval_app, rval_zeros, rval_zeros, rval_rev _ (dgL_of s hd)]
  simp
def rowOK (xs : List Int) : Prop := ∀ x ∈ xs, 0 ≤ x ∧ x ≤ 9
theorem rowF_ok (N : Nat) (s : ByteArray) (a : Nat) (hd : digsB s = true) : rowOK (rowF N s a s.size) := by
  intro x hx
  simp only [rowF, List.mem_map] at hx
  obtain ⟨p, _, rfl⟩ := hx
  by_cases c : a ≤ p ∧ p < a + s.size
  · rw [if_pos c]
    have hk : s.size - 1 - (p - a) < s.size := by omega
    have := digsB_at s hd _ hk
    simp only [digitB, decide_eq_true_eq] at this
    rw [at8_eq s _ hk]; omega
  · rw [if_neg c]; omega
theorem rval_bound (xs : List Int) (h : rowOK xs) : 0 ≤ rval xs ∧ rval xs < 10 ^ xs.length := by
  induction xs with
  | nil => simp [rval]
  | cons x l ih =>
    have h1 := h x List.mem_cons_self
    have h2 := ih (fun d hd => h d (List.mem_cons_of_mem _ hd))
    rw [rval, List.length_cons, Int.pow_succ]
    omega
/-- Where two rows are alike above a place and differ there, that place decides. -/
theorem rval_lt : ∀ (xs ys : List Int) (i : Nat), xs.length = ys.length → rowOK xs → rowOK ys → i < xs.length → xs[i]?.getD 0 < ys[i]?.getD 0 → (∀ j, i < j → j < xs.length → xs[j]?.getD 0 = ys[j]?.getD 0) → rval xs < rval ys
  | [], _, i, _, _, _, hi, _, _ => by simp at hi
  | _ :: _, [], _, h, _, _, _, _, _ => by simp at h
  | x :: xs, y :: ys, i, h, hx, hy, hi, hlt, he => by
    have hl : xs.length = ys.length := by simpa using h
    have x1 := hx x List.mem_cons_self
    have y1 := hy y List.mem_cons_self
    have hx' : rowOK xs := fun d hd => hx d (List.mem_cons_of_mem _ hd)
    have hy' : rowOK ys := fun d hd => hy d (List.mem_cons_of_mem _ hd)
    cases i with
    | zero =>
      have e : xs = ys := by
        apply List.ext_getElem hl
        intro k h1 h2
        have := he (k + 1) (by omega) (by simpa using h1)
        simpa [List.getElem?_eq_getElem h1, List.getElem?_eq_getElem h2] using this
      subst e
      simp at hlt
      simp only [rval]; omega
    | succ i =>
      have := rval_lt xs ys i hl hx' hy' (by simpa using hi) (by simpa using hlt) (fun j h1 h2 => by simpa using he (j + 1) (by omega) (by simpa using h2))
      simp only [rval]; omega
theorem rval_eq (xs ys : List Int) (h : xs.length = ys.length) (he : ∀ j, j < xs.length → xs[j]?.getD 0 = ys[j]?.getD 0) : rval xs = rval ys := by
  have e : xs = ys := by
    apply List.ext_getElem h
    intro k h1 h2
    have := he k h1
    simpa [List.getElem?_eq_getElem h1, List.getElem?_eq_getElem h2] using this
  rw [e]
end Go.Proofs.YtdglamiifcagoacDoor
