/-
  Marks, more of them: their cases, one by one; texts and rows of bytes.
-/
import Derived.Test.YtdbipaobanjbbaaDoorUnMath
namespace Go.Proofs.YtdbipaobanjbbaaDoor
open Go.RowKit
set_option linter.unusedVariables false
set_option linter.unusedSimpArgs false
def strO (o : Option (List UInt8)) : ByteArray := ⟨(o.getD []).toArray⟩
theorem un_ret {a a' : ByteArray} {b b' : Bool} (h1 : a = a') (h2 : b = b') : Ending.returned (.tuple #[.string a, .bool b]) = .returned (.tuple #[.string a', .bool b']) := by rw [h1, h2]
theorem un_ret2 {a a' : ByteArray} {b b' : Int} (h1 : a = a') (h2 : b = b') : Ending.returned (.tuple #[.string a, .int .i64 b]) = .returned (.tuple #[.string a', .int .i64 b']) := by rw [h1, h2]
theorem ne_lit {m : ByteArray} {l : List UInt8} (h : m.data.toList ≠ l) : (m.toList == l) = false := by rw [ByteArray.toList_eq, beq_eq_false_iff_ne]; exact h
theorem eq_lit {m : ByteArray} {l : List UInt8} (h : m.data.toList = l) : (m.toList == l) = true := by rw [ByteArray.toList_eq, h]; simp
theorem refB_hash {ds : List UInt8} (h : ds.length ≤ 7) : refB (35 :: ds) = refD ds := by
  unfold refB
  simp [h]
theorem refB_none {m : List UInt8} (h1 : m ≠ [97, 109, 112]) (h2 : m ≠ [108, 116]) (h3 : m ≠ [103, 116]) (h4 : m ≠ [113, 117, 111, 116]) (h5 : m ≠ [97, 112, 111, 115]) (h : ∀ c ds, m = c :: ds → c ≠ 35) : refB m = none := by
  unfold refB
  rw [if_neg h1, if_neg h2, if_neg h3, if_neg h4, if_neg h5]
  cases m with
  | nil => rfl
  | cons c ds => simp only; rw [if_neg (fun e => h c ds rfl e.1)]
theorem refD_yes {ds : List UInt8} {v : Nat} (hv : numA 0 ds = v) (h1 : ds.all digB = true) (h2 : docB (v : Int) = true) : refD ds = some (encL v) := by
  subst hv; unfold refD; rw [if_pos ⟨h1, h2⟩]
theorem refD_doc {ds : List UInt8} {v : Nat} (hv : numA 0 ds = v) (h2 : docB (v : Int) = false) : refD ds = none := by
  subst hv; unfold refD; rw [if_neg (by rw [h2]; simp)]
theorem refD_bad {ds : List UInt8} {d : UInt8} (h : d ∈ ds) (hd : digB d = false) : refD ds = none := by
  unfold refD
  rw [if_neg]
  rintro ⟨ha, _⟩
  rw [List.all_eq_true.1 ha d h] at hd
  cases hd
theorem dig_no {d : UInt8} (h : (d.toNat : Int) < 48 ∨ 57 < (d.toNat : Int)) : digB d = false := decide_eq_false (by omega)
theorem dig_yes {d : UInt8} (h : 48 ≤ (d.toNat : Int)) (h2 : (d.toNat : Int) ≤ 57) : digB d = true := decide_eq_true (by omega)
theorem at_mem {s : ByteArray} {k : Nat} (h : k < s.size) : s[k] ∈ s.data.toList := by
  rw [Array.mem_toList_iff]; exact Array.getElem_mem _
theorem take_next {s : ByteArray} {k : Nat} (h : k < s.size) : s.data.toList.take (k + 1) = s.data.toList.take k ++ [s[k]] := by
  have hl : k < s.data.toList.length := by rw [Array.length_toList]; exact h
  rw [List.take_succ_eq_append_getElem hl]
  rfl
theorem drop_next {s : ByteArray} {k : Nat} (h : k < s.size) : s.data.toList.drop k = s[k] :: s.data.toList.drop (k + 1) := by
  have hl : k < s.data.toList.length := by rw [Array.length_toList]; exact h
  rw [List.drop_eq_getElem_cons hl]
  rfl
theorem num_next (l : List UInt8) (d : UInt8) : numA 0 (l ++ [d]) = numA 0 l * 10 + (d.toNat - 48) := by simp [numA, List.foldl_append]
theorem all_next {l : List UInt8} {d : UInt8} (h : l.all digB = true) (hd : digB d = true) : (l ++ [d]).all digB = true := by
  rw [List.all_append, h]; simp [hd]
theorem num_bd {l : List UInt8} (h : l.all digB = true) (hl : l.length ≤ 7) : numA 0 l ≤ 9999999 := by
  have h1 := num_lt l 0 h
  have h2 : 10 ^ l.length ≤ 10 ^ 7 := Nat.pow_le_pow_right (by decide) hl
  have h3 : (10 : Nat) ^ 7 = 10000000 := by decide
  omega
theorem take_all {s : ByteArray} {k : Nat} (h : s.size ≤ k) : s.data.toList.take k = s.data.toList := List.take_of_length_le (by rw [Array.length_toList]; exact h)
theorem drop_all {s : ByteArray} {k : Nat} (h : s.size ≤ k) : s.data.toList.drop k = [] := List.drop_eq_nil_of_le (by rw [Array.length_toList]; exact h)
theorem take_len {s : ByteArray} {k : Nat} (h : k ≤ s.size) : (s.data.toList.take k).length = k := by
  rw [List.length_take, Array.length_toList]; exact Nat.min_eq_left h
theorem ex_list (s : ByteArray) (a b : Nat) : (s.extract a b).data.toList = (s.data.toList.take b).drop a := by
  rw [ByteArray.data_extract, Array.toList_extract]
  simp [List.extract_eq_take_drop, List.drop_take]
theorem ex_tail (s : ByteArray) (a : Nat) : (s.extract a s.size).data.toList = s.data.toList.drop a := by
  rw [ex_list, take_all (Nat.le_refl _)]
theorem hash_yes {m : ByteArray} (h1 : 1 ≤ m.size) (h : (m.extract 0 1).toList == [35]) : m.data.toList = 35 :: (m.extract 1 m.size).data.toList := by
  rw [ByteArray.toList_eq, ex_list] at h
  rw [ex_tail]
  have hl : m.data.toList.length = m.size := Array.length_toList
  cases hm : m.data.toList with
  | nil => rw [hm] at hl; simp at hl; omega
  | cons c ds => rw [hm] at h; simp at h; simp [h]
theorem hash_no {m : ByteArray} (h : ((m.extract 0 1).toList == [35]) = false) : ∀ c ds, m.data.toList = c :: ds → c ≠ 35 := by
  intro c ds hm e
  rw [ByteArray.toList_eq, ex_list, hm] at h
  simp [e] at h
theorem hash_nil {m : ByteArray} (h : m.size < 1) : ∀ c ds, m.data.toList = c :: ds → c ≠ 35 := by
  intro c ds hm e
  have hl : m.data.toList.length = m.size := Array.length_toList
  rw [hm] at hl; simp at hl; omega
end Go.Proofs.YtdbipaobanjbbaaDoor
