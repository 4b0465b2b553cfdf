/-
  Plain facts, of no program: cells with the greatest place first, a product laid into them, and what is carried out of them.
-/
import Derived.Test.YtdglamiifcagoacDoorTimesMath
namespace Go.Proofs.YtdglamiifcagoacDoor
def bigV : List Int → Int
  | [] => 0
  | x :: l => x * 10 ^ l.length + bigV l
theorem bigV_zeros : ∀ k, bigV (List.replicate k 0) = 0
  | 0 => rfl
  | k + 1 => by rw [List.replicate_succ, bigV, bigV_zeros k]; simp
theorem bigV_set : ∀ (L : List Int) (k : Nat) (v : Int), k < L.length → bigV (L.set k v) = bigV L + (v - L[k]?.getD 0) * 10 ^ (L.length - 1 - k)
  | [], k, v, h => by simp at h
  | x :: l, 0, v, _ => by
    simp only [List.set_cons_zero, bigV, List.getElem?_cons_zero, Option.getD_some, List.length_cons, Nat.add_sub_cancel, Nat.sub_zero]
    rw [Int.sub_mul]; omega
  | x :: l, k + 1, v, h => by
    have ih := bigV_set l k v (by simpa using h)
    have hl : k < l.length := by simpa using h
    simp only [List.set_cons_succ, bigV, List.getElem?_cons_succ, List.length_set, List.length_cons]
    rw [ih, show l.length + 1 - 1 - (k + 1) = l.length - 1 - k by omega]
    omega
theorem valL_take (l : List UInt8) (i : Nat) (h : i < l.length) : valL (l.take (i + 1)) = 10 * valL (l.take i) + dgt l[i] := by
  rw [List.take_succ_eq_append_getElem h, valL_app]
  simp [valL]; omega
/-- One product of two digits, laid into its cell. -/
theorem cells_step (L : List Int) (B : Int) (a b : List UInt8) (i k : Nat) (hi : i < a.length) (hk : k < b.length) (hL : L.length = a.length + b.length + 1) (x g : Int) (hg : L[i + k + 2]?.getD 0 = g)
    (h : bigV L = B + x * 10 ^ (a.length - 1 - i) * ((valL (b.take k) : Int) * 10 ^ (b.length - k))) :
    bigV (L.set (i + k + 2) (g + x * (dgt b[k] : Int))) = B + x * 10 ^ (a.length - 1 - i) * ((valL (b.take (k + 1)) : Int) * 10 ^ (b.length - (k + 1))) := by
  rw [bigV_set L (i + k + 2) _ (by omega), hg, h, valL_take b k hk]
  have e1 : L.length - 1 - (i + k + 2) = (a.length - 1 - i) + (b.length - (k + 1)) := by omega
  have e2 : b.length - k = (b.length - (k + 1)) + 1 := by omega
  rw [e1, e2, show (10 : Int) ^ ((a.length - 1 - i) + (b.length - (k + 1))) = 10 ^ (a.length - 1 - i) * 10 ^ (b.length - (k + 1)) from Int.pow_add .., Int.pow_succ]
  generalize (10 : Int) ^ (a.length - 1 - i) = p
  generalize (10 : Int) ^ (b.length - (k + 1)) = q
  generalize valL (b.take k) = v
  generalize dgt b[k] = y
  push_cast
  have : g + x * (y : Int) - g = x * y := by omega
  rw [this]
  have r1 : x * p * ((10 * (v : Int) + y) * q) = x * p * ((v : Int) * (q * 10)) + x * (y : Int) * (p * q) := by
    rw [Int.add_mul, Int.mul_add]
    have s1 : 10 * (v : Int) * q = v * (q * 10) := by rw [Int.mul_comm 10, Int.mul_assoc, Int.mul_comm 10]
    have s2 : x * p * ((y : Int) * q) = x * y * (p * q) := by rw [Int.mul_assoc, Int.mul_assoc, ← Int.mul_assoc p, Int.mul_comm p, Int.mul_assoc (y : Int)]
    rw [s1, s2]
  rw [r1]; omega
/-- One digit's row is whole. -/
theorem cells_row (L : List Int) (a b : List UInt8) (i : Nat) (hi : i < a.length) (h : bigV L = (valL (a.take i) : Int) * 10 ^ (a.length - i) * valL b + (dgt a[i] : Int) * 10 ^ (a.length - 1 - i) * ((valL (b.take b.length) : Int) * 10 ^ (b.length - b.length))) :
    bigV L = (valL (a.take (i + 1)) : Int) * 10 ^ (a.length - (i + 1)) * valL b := by
  rw [h, valL_take a i hi, List.take_length, Nat.sub_self, Int.pow_zero, Int.mul_one, show a.length - i = (a.length - (i + 1)) + 1 by omega, show a.length - 1 - i = a.length - (i + 1) by omega, Int.pow_succ]
  generalize (10 : Int) ^ (a.length - (i + 1)) = p
  push_cast
  generalize valL (a.take i) = v
  have e1 : (10 * (v : Int) + (dgt a[i] : Int)) * p * valL b = 10 * (v : Int) * p * valL b + (dgt a[i] : Int) * p * valL b := by rw [Int.add_mul, Int.add_mul]
  have e2 : (v : Int) * (p * 10) = 10 * (v : Int) * p := by rw [← Int.mul_assoc, Int.mul_comm _ 10, ← Int.mul_assoc]
  rw [e1, e2]
/-- One cell's carry. -/
theorem carry_step (L D : List Int) (i : Nat) (c q r : Int) (hi : i < L.length) (hD : D.length = L.length) (hn : L[i]?.getD 0 + c = 10 * q + r)
    (h : bigV (L.drop (i + 1)) = bigV (D.drop (i + 1)) + c * 10 ^ (L.length - (i + 1))) : bigV (L.drop i) = bigV ((D.set i r).drop i) + q * 10 ^ (L.length - i) := by
  rw [List.drop_eq_getElem_cons hi, List.drop_eq_getElem_cons (l := D.set i r) (i := i) (by rw [List.length_set, hD]; exact hi)]
  simp only [bigV, List.length_drop, List.length_set, hD, List.getElem_set_self]
  rw [h, List.drop_set_of_lt (by omega)]
  rw [List.getElem?_eq_getElem hi, Option.getD_some] at hn
  rw [show L.length - i = (L.length - (i + 1)) + 1 by omega, Int.pow_succ]
  generalize (10 : Int) ^ (L.length - (i + 1)) = p
  have e : L[i] = 10 * q + r - c := by omega
  rw [e, Int.sub_mul, Int.add_mul, Int.mul_comm p 10, ← Int.mul_assoc q, Int.mul_comm q 10]
  omega
theorem bigV_pos : ∀ (D : List Int), rowOK D → 0 ≤ bigV D
  | [], _ => by simp [bigV]
  | x :: l, h => by
    have := bigV_pos l (fun d hd => h d (List.mem_cons_of_mem _ hd))
    have h2 : 0 ≤ x * 10 ^ l.length := Int.mul_nonneg (h x List.mem_cons_self).1 (Int.le_of_lt (Int.pow_pos (by omega)))
    rw [bigV]; omega
theorem carry_end (L D : List Int) (c : Int) (hc : 0 ≤ c) (hD : rowOK D) (hv : bigV L < 10 ^ L.length) (h : bigV L = bigV D + c * 10 ^ L.length) : bigV D = bigV L := by
  have h1 := bigV_pos D hD
  rcases Int.lt_or_le 0 c with h2 | h2
  · have : 1 * 10 ^ L.length ≤ c * 10 ^ L.length := Int.mul_le_mul_of_nonneg_right (by omega) (Int.le_of_lt (Int.pow_pos (by omega)))
    omega
  · have : c = 0 := by omega
    rw [h, this]; simp
theorem big_txt : ∀ (D : List Int), rowOK D → (valL (D.map fun x => UInt8.ofNat (48 + x).toNat) : Int) = bigV D ∧ dgL (D.map fun x => UInt8.ofNat (48 + x).toNat)
  | [], _ => ⟨rfl, fun c hc => by simp at hc⟩
  | x :: l, h => by
    have hx := h x List.mem_cons_self
    obtain ⟨h1, h2⟩ := big_txt l (fun d hd => h d (List.mem_cons_of_mem _ hd))
    have hn : (UInt8.ofNat (48 + x).toNat).toNat = (48 + x).toNat := by rw [UInt8.toNat_ofNat']; omega
    constructor
    · rw [List.map_cons, valL_cons, bigV, List.length_map]
      push_cast
      rw [h1, dgt, hn, show (((48 + x).toNat - 48 : Nat) : Int) = x by omega]
    · intro c hc
      rw [List.map_cons] at hc
      rcases List.mem_cons.1 hc with rfl | hc
      · rw [hn]; omega
      · exact h2 c hc
end Go.Proofs.YtdglamiifcagoacDoor
