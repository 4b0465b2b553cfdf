/-
  Names: which prefix an attribute binds, by the program; it is the one whose binding's name it has.
-/
import Derived.Test.YtogeicckbdfldaaDoorBnMath
import Derived.Test.YtogeicckbdfldaaDoorSplit
namespace Go.Proofs.YtogeicckbdfldaaDoor
open Go.RowKit Go.Joins
set_option linter.unusedVariables false
set_option linter.unusedSimpArgs false
/-- The prefix that an attribute of this name binds. -/
def bdK (nm : ByteArray) : Option ByteArray :=
  if ((spl nm).1.toList == [120, 109, 108, 110, 115]) = true then some (spl nm).2.1 else if (nm.toList == [120, 109, 108, 110, 115]) = true then some ⟨#[]⟩ else none
theorem bi_ret {a a' : ByteArray} {b b' : Bool} (h1 : a' = a) (h2 : b' = b) : Ending.returned (.tuple #[.string a, .bool b]) = .returned (.tuple #[.string a', .bool b']) := by rw [h1, h2]
set_option maxHeartbeats 1000000 in
theorem i_binds (nm : ByteArray) (w : World) (hs : nm.size ≤ 1048576) :
    Calls Tryd.prog 61 #[.string nm] w fun e w' => e = .returned (.tuple #[.string ((bdK nm).getD ⟨#[]⟩), .bool (bdK nm).isSome]) ∧ ∃ q, w' = w.drewN q := by
  have CS := hide (i_split nm w hs)
  obtain ⟨B, hB⟩ : ∃ B, bdK nm = B := ⟨_, rfl⟩
  have hBB := hB
  unfold bdK at hBB
  rw [hB]
  obtain ⟨x, hx⟩ : ∃ x, spl nm = x := ⟨_, rfl⟩
  rw [hx] at CS hBB
  obtain ⟨p, l, k⟩ := x
  simp only at CS hBB
  clear hB hx
  cases f1 : (p.toList == [120, 109, 108, 110, 115])
  · rw [f1, if_neg (by decide)] at hBB
    cases f2 : (nm.toList == [120, 109, 108, 110, 115])
    · rw [f2, if_neg (by decide)] at hBB
      have HB := hide hBB
      clear hBB
      go_enter Tryd.func61, Tryd.ntmps61
      go_wp2_with (go_at_call 17; refine CS.out.mono ?_; rintro e w1 ⟨rfl, q, rfl⟩)
      go_ret2
      exact ⟨bi_ret (by rw [← HB.out]; rfl) (by rw [← HB.out]; rfl), q, rfl⟩
    · rw [f2, if_pos rfl] at hBB
      have HB := hide hBB
      clear hBB
      go_enter Tryd.func61, Tryd.ntmps61
      go_wp2_with (go_at_call 17; refine CS.out.mono ?_; rintro e w1 ⟨rfl, q, rfl⟩)
      go_ret2
      exact ⟨bi_ret (by rw [← HB.out]; rfl) (by rw [← HB.out]; rfl), q, rfl⟩
  · rw [f1, if_pos rfl] at hBB
    have HB := hide hBB
    clear hBB
    go_enter Tryd.func61, Tryd.ntmps61
    go_wp2_with (go_at_call 17; refine CS.out.mono ?_; rintro e w1 ⟨rfl, q, rfl⟩)
    go_ret2
    exact ⟨bi_ret (by rw [← HB.out]; rfl) (by rw [← HB.out]; rfl), q, rfl⟩
theorem bi_lit {m : ByteArray} {l : List UInt8} : (m.toList == l) = true ↔ m.data.toList = l := by rw [ByteArray.toList_eq, beq_iff_eq]
theorem bi_ext {a b : ByteArray} (h : a.data.toList = b.data.toList) : a = b := ByteArray.ext (Array.ext' h)
theorem bi_exl (s : ByteArray) (a b : Nat) : (s.extract a b).data.toList = (s.data.toList.take b).drop a := by
  rw [ByteArray.data_extract, Array.toList_extract]
  simp [List.extract_eq_take_drop, List.drop_take]
theorem bi_rest (s : ByteArray) (a : Nat) : (s.extract a s.size).data.toList = s.data.toList.drop a := by
  rw [bi_exl, List.take_of_length_le (by rw [Array.length_toList]; exact Nat.le_refl _)]
theorem colon_at {s : ByteArray} {k : Nat} (h : colon s = k) : s.data.toList = (pre s).data.toList ++ 58 :: (post s).data.toList := by
  have h1 := Lib.indexByte_some (l := s.data.toList) (c := 58) (o := k) h
  rw [pre_eq h, post_eq h, bi_exl, bi_rest, List.drop_zero]
  have hl : k < s.data.toList.length := (List.getElem?_eq_some_iff.1 h1.1).1
  have he : s.data.toList[k] = 58 := (List.getElem?_eq_some_iff.1 h1.1).2
  conv => lhs; rw [← List.take_append_drop k s.data.toList]
  rw [List.drop_eq_getElem_cons hl, he]
theorem bnN_some {q : ByteArray} (h : q.toList.isEmpty = false) : (bnN q).data.toList = [120, 109, 108, 110, 115, 58] ++ q.data.toList := by
  unfold bnN
  rw [h]
  simp
theorem bnN_col {q : ByteArray} (h : q.toList.isEmpty = false) : colon (bnN q) = 5 := by
  unfold colon
  rw [bnN_some h]
  simp [Lib.indexByte]
theorem bnN_nil {q : ByteArray} (h : q.toList.isEmpty = true) : (bnN q).data.toList = [120, 109, 108, 110, 115] := by
  unfold bnN
  rw [h]
  rfl
theorem bnN_coln {q : ByteArray} (h : q.toList.isEmpty = true) : colon (bnN q) = -1 := by
  unfold colon
  rw [bnN_nil h]
  decide
theorem empty_eq {q : ByteArray} (h : q.toList.isEmpty = true) : q = ⟨#[]⟩ := by
  apply bi_ext
  rw [ByteArray.toList_eq] at h
  simpa using h
/-- A right name binds q just where it is the name of q's binding. -/
theorem bd_iff {nm q : ByteArray} (h : (spl nm).2.2 = true) (hq : nameB ⟨#[]⟩ = false) : bdK nm = some q ↔ bnN q = nm := by
  rcases colon_cases nm with hc | ⟨k, hc, hk⟩
  · have hn : nameB nm = true := by
      cases hb : nameB nm
      · rw [spl_b hc hb] at h; cases h
      · rfl
    have hs := spl_a hc hn
    have h1 : bdK nm = if (nm.toList == [120, 109, 108, 110, 115]) = true then some ⟨#[]⟩ else none := by
      unfold bdK
      rw [hs]
      have : ((noText : ByteArray).toList == [120, 109, 108, 110, 115]) = false := by rw [ByteArray.toList_eq]; rfl
      simp only [this]
      rfl
    rw [h1]
    constructor
    · intro h2
      split at h2
      · rename_i h3
        cases h2
        apply bi_ext
        rw [bi_lit.1 h3]
        exact bnN_nil (by rw [ByteArray.toList_eq]; rfl)
      · cases h2
    · intro h2
      cases hqe : q.toList.isEmpty
      · have := bnN_col hqe
        rw [h2, hc] at this
        cases this
      · rw [if_pos (bi_lit.2 (by rw [← h2]; exact bnN_nil hqe)), empty_eq hqe]
  · have hn : nameB (pre nm) = true ∧ nameB (post nm) = true := by
      unfold spl at h
      rw [if_neg (by omega)] at h
      split at h
      · assumption
      · cases h
    have hs : spl nm = (pre nm, post nm, true) := by
      unfold spl
      rw [if_neg (by omega), if_pos hn]
    have hat := colon_at hc
    have hx : (nm.toList == [120, 109, 108, 110, 115]) = false := by
      cases hb : (nm.toList == [120, 109, 108, 110, 115])
      · rfl
      · have h2 := bi_lit.1 hb
        have : colon nm = -1 := by unfold colon; rw [h2]; decide
        omega
    have h1 : bdK nm = if ((pre nm).toList == [120, 109, 108, 110, 115]) = true then some (post nm) else none := by
      unfold bdK
      rw [hs, hx]
      rfl
    have hpe : (post nm).toList.isEmpty = false := by
      cases hb : (post nm).toList.isEmpty
      · rfl
      · rw [empty_eq hb, hq] at hn; cases hn.2
    rw [h1]
    constructor
    · intro h2
      split at h2
      · rename_i h3
        cases h2
        apply bi_ext
        rw [bnN_some hpe, hat, bi_lit.1 h3]
        simp
      · cases h2
    · intro h2
      cases hqe : q.toList.isEmpty
      · have h5 := bnN_col hqe
        have e := bnN_some hqe
        have hp : (pre nm).data.toList = [120, 109, 108, 110, 115] := by
          rw [← h2]
          unfold pre
          rw [h5, bi_exl, e]
          simp
        have hpo : post nm = q := by
          apply bi_ext
          rw [← h2]
          unfold post
          rw [h5, bi_rest, e]
          simp
        rw [if_pos (bi_lit.2 hp), hpo]
      · have := bnN_coln hqe
        rw [h2] at this
        omega
end Go.Proofs.YtogeicckbdfldaaDoor
