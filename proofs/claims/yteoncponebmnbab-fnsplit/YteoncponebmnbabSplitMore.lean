/-
  What the law over Split wants besides: a name is not empty; the parts around the colon make the text.
-/
import Derived.Test.YteoncponebmnbabSplit
import Derived.Test.YteoncponebmnbabDrawSplit
namespace Go.Proofs.Yteoncponebmnbab
open Go.RowKit
theorem not_empty' {s : ByteArray} (h : 0 < s.size) : s.toList.isEmpty = false := by
  rw [Lib.toList_data]
  cases hs : s.data.toList with
  | nil => have := congrArg List.length hs; rw [Array.length_toList] at this; exact absurd h (by show ¬ 0 < s.data.size; rw [this]; simp)
  | cons a t => rfl
theorem name_size {s : ByteArray} (h : nameB s = true) : 0 < s.size := by
  rcases Nat.eq_zero_or_pos s.size with e | e
  · rw [nameB_none s e] at h; cases h
  · exact e
theorem parts_make {s : ByteArray} {k : Nat} (h : colon s = k) (hk : k < s.size) : s.extract 0 k ++ ⟨#[58]⟩ ++ s.extract (k + 1) s.size = s := by
  apply Go.WideShapes.bytes_inj
  rw [ByteArray.data_append, ByteArray.data_append, Array.toList_append, Array.toList_append, Lib.extract_to_end, Lib.extract_data]
  have hb := (Lib.indexByte_some h).1
  have hk' : k < s.data.toList.length := by rw [Array.length_toList]; exact hk
  have e58 : s.data.toList[k] = 58 := by rw [List.getElem?_eq_getElem hk'] at hb; exact Option.some.inj hb
  have e1 : (s.data.toList.drop 0).take (k - 0) = s.data.toList.take k := by simp
  rw [e1]
  have : s.data.toList.take k ++ [58] ++ s.data.toList.drop (k + 1) = s.data.toList := by
    rw [← e58, List.append_assoc, List.singleton_append, ← List.drop_eq_getElem_cons hk', List.take_append_drop]
  exact this
end Go.Proofs.Yteoncponebmnbab
