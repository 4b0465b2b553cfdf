/-
  Contracts: the text of marks, by the program.
-/
import Derived.Test.YtdbipaobanjbbaaDoorMkT
import Derived.Test.YtdbipaobanjbbaaDoorBldF
import Derived.Test.YtdbipaobanjbbaaDoorShelf
import Derived.Lib.AppendIntMem
namespace Go.Proofs.YtdbipaobanjbbaaDoor
open Go.RowKit Go.Joins
set_option linter.unusedVariables false
set_option linter.unusedSimpArgs false
theorem p_iInT (x a b : Int) (w : World) (h : a ≤ x ∧ x ≤ b) : Calls Tryd.prog 50 #[.int .i64 x, .int .i64 a, .int .i64 b] w fun e w' => e = .returned (.bool true) ∧ w' = w := by
  obtain ⟨h1, h2⟩ := h
  go_enter Tryd.func50, Tryd.ntmps50
  go_wp2
  go_ret
  exact ⟨by simp_all, rfl⟩
theorem p_iInF (x a b : Int) (w : World) (h : ¬ (a ≤ x ∧ x ≤ b)) : Calls Tryd.prog 50 #[.int .i64 x, .int .i64 a, .int .i64 b] w fun e w' => e = .returned (.bool false) ∧ w' = w := by
  by_cases h1 : a ≤ x
  · have h2 : ¬ x ≤ b := fun e => h ⟨h1, e⟩
    clear h
    go_enter Tryd.func50, Tryd.ntmps50
    go_wp2
    go_ret
    exact ⟨by simp_all, rfl⟩
  · clear h
    go_enter Tryd.func50, Tryd.ntmps50
    go_wp2
    go_ret
    exact ⟨by simp_all, rfl⟩
theorem i_letter (b : Bool) (c : UInt8) (w : World) : Calls Tryd.prog 51 #[.bool b, .string ⟨#[c]⟩] w fun e w' => e = .returned (.string ⟨(fl b c).toArray⟩) ∧ w' = w := by
  cases b
  · go_enter Tryd.func51, Tryd.ntmps51
    go_wp2
    go_ret
    exact ⟨rfl, rfl⟩
  · go_enter Tryd.func51, Tryd.ntmps51
    go_wp2
    go_ret
    exact ⟨rfl, rfl⟩
theorem tab_go {w w1 : World} (h : Lib.TabIs Tryd.prog w "internal/strconv.uint64pow10" .u64 Lib.pow10Tab) (k : Below w.heap.size w w1) : Lib.TabIs Tryd.prog w1 "internal/strconv.uint64pow10" .u64 Lib.pow10Tab := tab_stays (g := 5) (by kernel_rfl) h k (Nat.le_refl _)
theorem mk_drewN (w : World) (q : Nat) : Below w.heap.size w (w.drewN q) := by
  induction q with
  | zero => exact Below.refl _ _
  | succ q ih => exact ih.trans ⟨rfl, rfl, rfl, Nat.le_refl _, fun _ _ => rfl⟩
theorem ret_sb {a a' : ByteArray} {b b' : Bool} (h1 : a = a') (h2 : b = b') : Ending.returned (.tuple #[.string a, .bool b]) = .returned (.tuple #[.string a', .bool b']) := by rw [h1, h2]
def lnV (g : Bool) (dc : Int) (vl : ByteArray) (nl gv : Bool) : ByteArray := if mkB dc vl = true then ⟨(lnP g dc vl nl gv).toArray⟩ else ⟨#[]⟩
set_option maxRecDepth 100000 in
set_option maxHeartbeats 4000000 in
theorem i_markLine (g : Bool) (dc : Int) (vl : ByteArray) (nl gv : Bool) (w : World) (hs : vl.size ≤ 1048576) (hT : Tabs w) (hP : Lib.TabIs Tryd.prog w "internal/strconv.uint64pow10" .u64 Lib.pow10Tab) :
    Calls Tryd.prog 34 #[.agg #[.bool g, .int .i64 dc, .string vl, .bool nl, .bool gv]] w fun e w' => e = .returned (.tuple #[.string (lnV g dc vl nl gv), .bool (mkB dc vl)]) ∧ Below w.heap.size w w' := by
  have HT := hide hT
  have HP := hide hP
  have st : ∀ o, Below w.heap.size w (w.alloc o) := fun o => (Below.refl _ _).alloc (Nat.le_refl _) _
  have HST := hide st
  have CE := hide (fun (w : World) (h : Tabs w) => i_escape true vl w hs h)
  have HX1 : Hid (MB w (w.alloc (.cells #[.bool g, .int .i64 dc, .string vl, .bool nl, .bool gv] 29)) w.heap.size g dc vl nl gv) := hide ⟨st _, cellsAt_new w _ _⟩
  clear hT hP st
  cases hes : escOk vl
  · have HB : Hid (mkB dc vl = false) := hide (by unfold mkB; rw [hes]; simp)
    have HV : Hid (lnV g dc vl nl gv = ⟨#[]⟩) := hide (by unfold lnV; rw [HB.out]; rfl)
    rw [hes, escV_no hes] at CE
    go_enter Tryd.func34, Tryd.ntmps34
    go_wp2_with (first | (go_at_call 49; refine (CE.out _ (escW_tabs HT.out (HST.out _))).mono ?_; rintro e w2 ⟨rfl, hb2⟩; have X2 := hide (mb_go HX1.out hb2); clear hb2))
    go_ret2
    exact ⟨ret_sb HV.out.symm HB.out.symm, X2.out.1⟩
  · rw [hes, escV_yes hes] at CE
    have hv2 : vl.size ≤ 2500 := by
      unfold escOk at hes
      simp only [Bool.and_eq_true, decide_eq_true_eq] at hes
      exact hes.1
    by_cases hdc : -1 ≤ dc ∧ dc ≤ 30
    · have HB : Hid (mkB dc vl = true) := hide (by unfold mkB; rw [hes, decide_eq_true hdc]; rfl)
      have HV : Hid (lnV g dc vl nl gv = ⟨(lnP g dc vl nl gv).toArray⟩) := hide (by unfold lnV; rw [HB.out]; rfl)
      have HDC := hide hdc
      have hil := itoa_len hdc
      have hel := escL_len true vl.data.toList
      rw [bl] at hel
      obtain ⟨E, hE⟩ : ∃ E : ByteArray, (⟨(escL true vl.data.toList).toArray⟩ : ByteArray) = E := ⟨_, rfl⟩
      rw [hE] at CE
      have HEL : Hid (E.data.toList = escL true vl.data.toList) := hide (by rw [← hE])
      have hEs : E.size ≤ 15000 := by rw [← bl, HEL.out]; omega
      have CF := hide (fun (w : World) (h : Lib.TabIs Tryd.prog w "internal/strconv.uint64pow10" .u64 Lib.pow10Tab) => Tryd.strconv_FormatInt_10 dc (by omega) (by omega) w h)
      obtain ⟨D, hD⟩ : ∃ D : ByteArray, (⟨(Lib.itoa dc).toArray⟩ : ByteArray) = D := ⟨_, rfl⟩
      rw [hD] at CF
      have HDL : Hid (D.data.toList = Lib.itoa dc) := hide (by rw [← hD])
      have hds : D.size ≤ 2 := by rw [← bl, HDL.out]; exact hil
      have HLN : Hid (lnP g dc vl nl gv = fl g 103 ++ fl nl 110 ++ fl gv 100 ++ [32] ++ Lib.itoa dc ++ [32] ++ escL true vl.data.toList ++ [10]) := hide rfl
      obtain ⟨F1, hF1⟩ : ∃ F : ByteArray, (⟨(fl g 103).toArray⟩ : ByteArray) = F := ⟨_, rfl⟩
      obtain ⟨F2, hF2⟩ : ∃ F : ByteArray, (⟨(fl nl 110).toArray⟩ : ByteArray) = F := ⟨_, rfl⟩
      obtain ⟨F3, hF3⟩ : ∃ F : ByteArray, (⟨(fl gv 100).toArray⟩ : ByteArray) = F := ⟨_, rfl⟩
      have CF1 := hide (fun (w : World) => i_letter g 103 w)
      have CF2 := hide (fun (w : World) => i_letter nl 110 w)
      have CF3 := hide (fun (w : World) => i_letter gv 100 w)
      rw [hF1] at CF1
      rw [hF2] at CF2
      rw [hF3] at CF3
      have z1 : F1.size ≤ 1 := by rw [← hF1, fl_size]; omega
      have z2 : F2.size ≤ 1 := by rw [← hF2, fl_size]; omega
      have z3 : F3.size ≤ 1 := by rw [← hF3, fl_size]; omega
      have HF : Hid (F1.data.toList = fl g 103 ∧ F2.data.toList = fl nl 110 ∧ F3.data.toList = fl gv 100) := hide ⟨by rw [← hF1], by rw [← hF2], by rw [← hF3]⟩
      have s1 : ¬ 9223372036854775807 < F1.size + F2.size := by omega
      have s2 : ¬ 9223372036854775807 < F1.size + F2.size + F3.size := by omega
      have s3 : ¬ 9223372036854775807 < F1.size + F2.size + F3.size + 1 := by omega
      have s4 : ¬ 9223372036854775807 < F1.size + F2.size + F3.size + 1 + D.size := by omega
      have s5 : ¬ 9223372036854775807 < F1.size + F2.size + F3.size + 1 + D.size + 1 := by omega
      have s6 : ¬ 9223372036854775807 < F1.size + F2.size + F3.size + 1 + D.size + 1 + E.size := by omega
      have s7 : ¬ 9223372036854775807 < F1.size + F2.size + F3.size + 1 + D.size + 1 + E.size + 1 := by omega
      clear hD hE hF1 hF2 hF3 hil hel hes hv2 hdc
      go_enter Tryd.func34, Tryd.ntmps34
      go_wp2_with fail
      refine (CE.out _ (escW_tabs HT.out (HST.out _))).mono ?_
      rintro e w2 ⟨rfl, hb2⟩
      have X2 := hide (mb_go HX1.out hb2)
      clear hb2
      obtain ⟨x0, x1, x2, x3, x4⟩ := mb_cells X2.out
      go_wp2_with (first | (go_at_call 50; refine (p_iInT _ _ _ _ HDC.out).mono ?_; rintro e w3 ⟨rfl, rfl⟩))
      go_quiet ((first | (go_at_call_of 51 (Value.string ⟨#[103]⟩); exact Calls.quiet_of_same (CF1.out _)) | (go_at_call_of 51 (Value.string ⟨#[110]⟩); exact Calls.quiet_of_same (CF2.out _)) | (go_at_call_of 51 (Value.string ⟨#[100]⟩); exact Calls.quiet_of_same (CF3.out _))))
      have X3 := hide (mb_go X2.out (show Below w3.heap.size w3 (w3.drewN nq) from mk_drewN w3 nq))
      obtain ⟨y0, y1, y2, y3, y4⟩ := mb_cells X3.out
      clear x0 x1 x2 x3 x4
      go_wp2_with (first | (go_at_call 52; refine (CF.out _ (tab_go HP.out X3.out.1)).mono ?_; rintro e w4 ⟨rfl, q, os, hw4⟩; have hb4 : Below (w3.drewN nq).heap.size (w3.drewN nq) w4 := (by rw [hw4]; exact Lib.below_grow _ _ (Nat.le_refl _) _ _); have X4 := hide (mb_go X3.out hb4); clear hw4 hb4))
      go_ret2
      refine ⟨ret_sb ?_ HB.out.symm, X4.out.1⟩
      rw [HV.out]
      apply Go.WideShapes.bytes_inj
      rw [HLN.out]
      simp only [bl_app, HF.out.1, HF.out.2.1, HF.out.2.2, HDL.out, HEL.out]
    · have HB : Hid (mkB dc vl = false) := hide (by unfold mkB; rw [decide_eq_false hdc]; rfl)
      have HV : Hid (lnV g dc vl nl gv = ⟨#[]⟩) := hide (by unfold lnV; rw [HB.out]; rfl)
      have HDC := hide hdc
      clear hdc hes hv2
      go_enter Tryd.func34, Tryd.ntmps34
      go_wp2_with fail
      refine (CE.out _ (escW_tabs HT.out (HST.out _))).mono ?_
      rintro e w2 ⟨rfl, hb2⟩
      have X2 := hide (mb_go HX1.out hb2)
      clear hb2
      obtain ⟨x0, x1, x2, x3, x4⟩ := mb_cells X2.out
      go_wp2_with (first | (go_at_call 50; refine (p_iInF _ _ _ _ HDC.out).mono ?_; rintro e w3 ⟨rfl, rfl⟩))
      go_ret2
      exact ⟨ret_sb HV.out.symm HB.out.symm, X2.out.1⟩
end Go.Proofs.YtdbipaobanjbbaaDoor
