/-
  Contracts: the text of marks, by the program.
-/
import Derived.Test.YtfoheoidfcbopaaDoorMkT
import Derived.Test.YtfoheoidfcbopaaDoorBldF
import Derived.Test.YtfoheoidfcbopaaDoorShelf
import Derived.Lib.AppendIntMem
namespace Go.Proofs.YtfoheoidfcbopaaDoor
open Go.RowKit Go.Joins
set_option linter.unusedVariables false
set_option linter.unusedSimpArgs false
theorem p_iInT (x a b : Int) (w : World) (h : a ≤ x ∧ x ≤ b) : Calls Tryd.prog 22 #[.int .i64 x, .int .i64 a, .int .i64 b] w fun e w' => e = .returned (.bool true) ∧ w' = w := by
  obtain ⟨h1, h2⟩ := h
  go_enter Tryd.func22, Tryd.ntmps22
  go_wp2
  go_ret
  exact ⟨by simp_all, rfl⟩
theorem p_iInF (x a b : Int) (w : World) (h : ¬ (a ≤ x ∧ x ≤ b)) : Calls Tryd.prog 22 #[.int .i64 x, .int .i64 a, .int .i64 b] w fun e w' => e = .returned (.bool false) ∧ w' = w := by
  by_cases h1 : a ≤ x
  · have h2 : ¬ x ≤ b := fun e => h ⟨h1, e⟩
    clear h
    go_enter Tryd.func22, Tryd.ntmps22
    go_wp2
    go_ret
    exact ⟨by simp_all, rfl⟩
  · clear h
    go_enter Tryd.func22, Tryd.ntmps22
    go_wp2
    go_ret
    exact ⟨by simp_all, rfl⟩
theorem i_letter (b : Bool) (c : UInt8) (w : World) : Calls Tryd.prog 23 #[.bool b, .string ⟨#[c]⟩] w fun e w' => e = .returned (.string ⟨(fl b c).toArray⟩) ∧ w' = w := by
  cases b
  · go_enter Tryd.func23, Tryd.ntmps23
    go_wp2
    go_ret
    exact ⟨rfl, rfl⟩
  · go_enter Tryd.func23, Tryd.ntmps23
    go_wp2
    go_ret
    exact ⟨rfl, rfl⟩
theorem tab_go {w w1 : World} (h : Lib.TabIs Tryd.prog w "internal/strconv.uint64pow10" .u64 Lib.pow10Tab) (k : Below w.heap.size w w1) : Lib.TabIs Tryd.prog w1 "internal/strconv.uint64pow10" .u64 Lib.pow10Tab := tab_stays (g := 0) (by kernel_rfl) h k (Nat.le_refl _)
theorem mk_drewN (w : World) (q : Nat) : Below w.heap.size w (w.drewN q) := by
  induction q with
  | zero => exact Below.refl _ _
  | succ q ih => exact ih.trans ⟨rfl, rfl, rfl, Nat.le_refl _, fun _ _ => rfl⟩
theorem ret_sb {a a' : ByteArray} {b b' : Bool} (h1 : a = a') (h2 : b = b') : Ending.returned (.tuple #[.string a, .bool b]) = .returned (.tuple #[.string a', .bool b']) := by rw [h1, h2]
def lnV (g : Bool) (dc : Int) (vl : ByteArray) (nl gv : Bool) : ByteArray := if mkB dc vl = true then ⟨(lnP g dc vl nl gv).toArray⟩ else ⟨#[]⟩
set_option maxRecDepth 100000 in
set_option maxHeartbeats 4000000 in
theorem i_markLine (g : Bool) (dc : Int) (vl : ByteArray) (nl gv : Bool) (w : World) (hs : vl.size ≤ 1048576) (hT : Tabs w) (hP : Lib.TabIs Tryd.prog w "internal/strconv.uint64pow10" .u64 Lib.pow10Tab) :
    Calls Tryd.prog 15 #[.agg #[.bool g, .int .i64 dc, .string vl, .bool nl, .bool gv]] w fun e w' => e = .returned (.tuple #[.string (lnV g dc vl nl gv), .bool (mkB dc vl)]) ∧ Below w.heap.size w w' := by
  have HT := hide hT
  have HP := hide hP
  have st : ∀ o, Below w.heap.size w (w.alloc o) := fun o => (Below.refl _ _).alloc (Nat.le_refl _) _
  have HST := hide st
  have CE := hide (fun (w : World) (h : Tabs w) => i_escape true vl w hs h)
  have HX1 : Hid (MB w (w.alloc (.cells #[.bool g, .int .i64 dc, .string vl, .bool nl, .bool gv] 32)) w.heap.size g dc vl nl gv) := hide ⟨st _, cellsAt_new w _ _⟩
  clear hT hP st
  cases hes : escOk vl
  · have HB : Hid (mkB dc vl = false) := hide (by unfold mkB; rw [hes]; simp)
    have HV : Hid (lnV g dc vl nl gv = ⟨#[]⟩) := hide (by unfold lnV; rw [HB.out]; rfl)
    rw [hes, escV_no hes] at CE
    go_enter Tryd.func15, Tryd.ntmps15
    go_wp2_with (first | (go_at_call 21; refine (CE.out _ (escW_tabs HT.out (HST.out _))).mono ?_; rintro e w2 ⟨rfl, hb2⟩; have X2 := hide (mb_go HX1.out hb2); clear hb2))
    go_ret2
    exact ⟨ret_sb HV.out.symm HB.out.symm, X2.out.1⟩
  · rw [hes, escV_yes hes] at CE
    have hv2 : vl.size ≤ 2500 := by
      unfold escOk at hes
      simp only [Bool.and_eq_true, decide_eq_true_eq] at hes
      exact hes.1
    by_cases hdc : -1 ≤ dc ∧ dc ≤ 30
    · have HB : Hid (mkB dc vl = true) := hide (by unfold mkB; rw [hes, decide_eq_true hdc]; rfl)
      have HV : Hid (lnV g dc vl nl gv = ⟨(lnP g dc vl nl gv).toArray⟩) := hide (by unfold lnV; rw [HB.out]; rfl)
      have HDC := hide hdc
      have hil := itoa_len hdc
      have hel := escL_len true vl.data.toList
      rw [bl] at hel
      obtain ⟨E, hE⟩ : ∃ E : ByteArray, (⟨(escL true vl.data.toList).toArray⟩ : ByteArray) = E := ⟨_, rfl⟩
      rw [hE] at CE
      have HEL : Hid (E.data.toList = escL true vl.data.toList) := hide (by rw [← hE])
      have hEs : E.size ≤ 15000 := by rw [← bl, HEL.out]; omega
      have CF := hide (fun (w : World) (h : Lib.TabIs Tryd.prog w "internal/strconv.uint64pow10" .u64 Lib.pow10Tab) => Tryd.strconv_FormatInt_10 dc (by omega) (by omega) w h)
      obtain ⟨D, hD⟩ : ∃ D : ByteArray, (⟨(Lib.itoa dc).toArray⟩ : ByteArray) = D := ⟨_, rfl⟩
      rw [hD] at CF
      have HDL : Hid (D.data.toList = Lib.itoa dc) := hide (by rw [← hD])
      have hds : D.size ≤ 2 := by rw [← bl, HDL.out]; exact hil
      have HLN : Hid (lnP g dc vl nl gv = fl g 103 ++ fl nl 110 ++ fl gv 100 ++ [32] ++ Lib.itoa dc ++ [32] ++ escL true vl.data.toList ++ [10]) := hide rfl
      obtain ⟨F1, hF1⟩ : ∃ F : ByteArray, (⟨(fl g 103).toArray⟩ : ByteArray) = F := ⟨_, rfl⟩
      obtain ⟨F2, hF2⟩ : ∃ F : ByteArray, (⟨(fl nl 110).toArray⟩ : ByteArray) = F := ⟨_, rfl⟩
      obtain ⟨F3, hF3⟩ : ∃ F : ByteArray, (⟨(fl gv 100).toArray⟩ : ByteArray) = F := ⟨_, rfl⟩
      have CF1 := hide (fun (w : World) => i_letter g 103 w)
      have CF2 := hide (fun (w : World) => i_letter nl 110 w)
      have CF3 := hide (fun (w : World) => i_letter gv 100 w)
      rw [hF1] at CF1
      rw [hF2] at CF2
      rw [hF3] at CF3
      have z1 : F1.size ≤ 1 := by rw [← hF1, fl_size]; omega
      have z2 : F2.size ≤ 1 := by rw [← hF2, fl_size]; omega
      have z3 : F3.size ≤ 1 := by rw [← hF3, fl_size]; omega
      have HF : Hid (F1.data.toList = fl g 103 ∧ F2.data.toList = fl nl 110 ∧ F3.data.toList = fl gv 100) := hide ⟨by rw [← hF1], by rw [← hF2], by rw [← hF3]⟩
      have s1 : ¬ 9223372036854775807 < F1.size + F2.size := by omega
      have s2 : ¬ 9223372036854775807 < F1.size + F2.size + F3.size := by omega
      have s3 : ¬ 9223372036854775807 < F1.size + F2.size + F3.size + 1 := by omega
      have s4 : ¬ 9223372036854775807 < F1.size + F2.size + F3.size + 1 + D.size := by omega
      have s5 : ¬ 9223372036854775807 < F1.size + F2.size + F3.size + 1 + D.size + 1 := by omega
      have s6 : ¬ 9223372036854775807 < F1.size + F2.size + F3.size + 1 + D.size + 1 + E.size := by omega
      have s7 : ¬ 9223372036854775807 < F1.size + F2.size + F3.size + 1 + D.size + 1 + E.size + 1 := by omega
      clear hD hE hF1 hF2 hF3 hil hel hes hv2 hdc
      go_enter Tryd.func15, Tryd.ntmps15
      go_wp2_with fail
      refine (CE.out _ (escW_tabs HT.out (HST.out _))).mono ?_
      rintro e w2 ⟨rfl, hb2⟩
      have X2 := hide (mb_go HX1.out hb2)
      clear hb2
      obtain ⟨x0, x1, x2, x3, x4⟩ := mb_cells X2.out
      go_wp2_with (first | (go_at_call 22; refine (p_iInT _ _ _ _ HDC.out).mono ?_; rintro e w3 ⟨rfl, rfl⟩))
      go_quiet ((first | (go_at_call_of 23 (Value.string ⟨#[103]⟩); exact Calls.quiet_of_same (CF1.out _)) | (go_at_call_of 23 (Value.string ⟨#[110]⟩); exact Calls.quiet_of_same (CF2.out _)) | (go_at_call_of 23 (Value.string ⟨#[100]⟩); exact Calls.quiet_of_same (CF3.out _))))
      have X3 := hide (mb_go X2.out (show Below w3.heap.size w3 (w3.drewN nq) from mk_drewN w3 nq))
      obtain ⟨y0, y1, y2, y3, y4⟩ := mb_cells X3.out
      clear x0 x1 x2 x3 x4
      go_wp2_with (first | (go_at_call 24; refine (CF.out _ (tab_go HP.out X3.out.1)).mono ?_; rintro e w4 ⟨rfl, q, os, hw4⟩; have hb4 : Below (w3.drewN nq).heap.size (w3.drewN nq) w4 := (by rw [hw4]; exact Lib.below_grow _ _ (Nat.le_refl _) _ _); have X4 := hide (mb_go X3.out hb4); clear hw4 hb4))
      go_ret2
      refine ⟨ret_sb ?_ HB.out.symm, X4.out.1⟩
      rw [HV.out]
      apply Go.WideShapes.bytes_inj
      rw [HLN.out]
      simp only [bl_app, HF.out.1, HF.out.2.1, HF.out.2.2, HDL.out, HEL.out]
    · have HB : Hid (mkB dc vl = false) := hide (by unfold mkB; rw [decide_eq_false hdc]; rfl)
      have HV : Hid (lnV g dc vl nl gv = ⟨#[]⟩) := hide (by unfold lnV; rw [HB.out]; rfl)
      have HDC := hide hdc
      clear hdc hes hv2
      go_enter Tryd.func15, Tryd.ntmps15
      go_wp2_with fail
      refine (CE.out _ (escW_tabs HT.out (HST.out _))).mono ?_
      rintro e w2 ⟨rfl, hb2⟩
      have X2 := hide (mb_go HX1.out hb2)
      clear hb2
      obtain ⟨x0, x1, x2, x3, x4⟩ := mb_cells X2.out
      go_wp2_with (first | (go_at_call 22; refine (p_iInF _ _ _ _ HDC.out).mono ?_; rintro e w3 ⟨rfl, rfl⟩))
      go_ret2
      exact ⟨ret_sb HV.out.symm HB.out.symm, X2.out.1⟩
theorem bd_go9 {T e : TypeId} {B b : Nat} {bs : List Value} {w w' : World} (h : Lib.IsBuilder T e B b bs w) (hb : Below w.heap.size w w') : Lib.IsBuilder T e B b bs w' := by
  rcases h with ⟨hB, v, hbk, hown, hne⟩ | ⟨hB, v, hbk, hown, hne⟩
  · exact .inl ⟨hB, v, (hb.block b (Array.getElem?_eq_some_iff.1 hbk).1).trans hbk, gOwn_after hown hb, hne⟩
  · exact .inr ⟨hB, v, (hb.block b (Array.getElem?_eq_some_iff.1 hbk).1).trans hbk, gOwn_after hown hb, hne⟩
set_option maxHeartbeats 2000000 in
set_option maxRecDepth 100000 in
/-- A text written to a builder: with room for longer ones. -/
theorem bd_strG (B b : Nat) (bs : List Value) (s : ByteArray) (w : World) (h : Lib.IsBuilder 41 5 B b bs w) (hlen : bs.length + s.size ≤ 1073741824) (hBw : B ≤ w.heap.size) :
    Calls Tryd.prog 16 #[.pointer (some ⟨b, 0, none⟩), .string s] w fun e w' => e = .returned (.tuple #[.int .i64 s.size, .nilIface]) ∧ Lib.IsBuilder 41 5 B b (bs ++ Lib.strCells s) w' ∧ Below B w w' := by
  obtain ⟨i0, hi, hz0, hz1, hz2⟩ := info_parts bdByte
  go_enter Tryd.func16, Tryd.ntmps16
  go_wp2_with fail
  refine (bd_check B b bs _ h).mono ?_
  rintro e w1 ⟨rfl, h1, hb1⟩
  obtain ⟨hB, v, hbk, hown, hne⟩ := h1
  have c0 : w1.cell? ⟨b, 0, none⟩ = some (.pointer (some ⟨b, 0, none⟩)) := by rw [Lib.cell_of_heap hbk]; rfl
  have c1 : w1.cell? ⟨b, 1, none⟩ = some v := by rw [Lib.cell_of_heap hbk]; rfl
  have hsz := hb1.size
  have hlt : b < w1.heap.size := (Array.getElem?_eq_some_iff.1 hbk).1
  go_wp2_with (at_builtin; refine Lib.wpList_append_own_string _ rfl (.tmp 12) (.tmp 13) 39 9 rfl B 5 i0 Tryd.underlying39 Tryd.underlying9 hi hz0 hz1 hz2 _ _ _ rfl hown s rfl (by unfold maxLen; omega) (by omega) (by omega) ?_; intro v' w2 hown' hgrow _; have hb2 : w2.heap[b]? = some (.cells #[.pointer (some ⟨b, 0, none⟩), v] 41 (0, 0)) := (hgrow.block b (by omega) (fun e => hne e.symm)).trans hbk; have d0 : w2.cell? ⟨b, 0, none⟩ = some (.pointer (some ⟨b, 0, none⟩)) := (by rw [Lib.cell_of_heap hb2]; rfl); have d1 : w2.cell? ⟨b, 1, none⟩ = some v := (by rw [Lib.cell_of_heap hb2]; rfl); have f1 : w2.frozen? ⟨b, 1, none⟩ = false := Lib.frozen_of_heap hb2 1; obtain ⟨ad9, c9, hv9⟩ := bd_shape hown'; rw [hv9] at hown' ⊢; clear hv9)
  go_ret2
  refine ⟨rfl, .inr ?_, ?_⟩
  · exact Lib.BuilderAt.put (T := 41) (e := 5) hB hb2 (bs' := bs ++ Lib.strCells s) (by simpa [Lib.strCells_length] using hown') (by decide)
  · exact (hb1.grown hgrow (by omega) (fun k hk => (hown.lt k hk).1)).setCell (p := ⟨b, 1, none⟩) hB _
set_option maxRecDepth 100000 in
set_option maxHeartbeats 8000000 in
theorem i_marksText (M : Mk) (n : Nat) (a : Option Addr) (cap : Nat) (w : World) (hM : M.n = n) (hz : mkTot M ≤ 1048576) (hr : MkAt w a M w.heap.size) (hT : Tabs w) (hP : Lib.TabIs Tryd.prog w "internal/strconv.uint64pow10" .u64 Lib.pow10Tab) :
    Calls Tryd.prog 7 #[.slice a n cap] w fun e w' => e = .returned (.string (mkV M)) ∧ Below w.heap.size w w' := by
  have HM := hide hM
  have HR := hide hr
  have HT := hide hT
  have HP := hide hP
  have HZ := hide (mk_sz hz)
  have hn : n ≤ 1048576 := by rw [← hM]; exact (mk_sz hz).1
  clear hr hM hz hT hP
  by_cases hb2 : 200 < n
  · have HV := hide (mkV_big (M := M) (by rw [HM.out]; exact hb2))
    have hb3 : (200 : Int) < (n : Int) := by omega
    go_enter Tryd.func7, Tryd.ntmps7
    go_wp2
    go_ret
    exact ⟨ret_s9 HV.out.symm, Below.refl _ _⟩
  · have hb3 : ¬ (200 : Int) < (n : Int) := by omega
    go_enter Tryd.func7, Tryd.ntmps7
    go_wp2
    go_loopw [13] (fun iv wr => ∃ k : Nat, k ≤ n ∧ iv = .int .i64 k ∧ Lib.IsBuilder 41 5 w.heap.size w.heap.size (Lib.byteCells (txM M k)) wr ∧ Below w.heap.size w wr ∧ Hid (∀ j, j < k → okM M j = true)) (fun iv _ => n - (intOf iv).toNat)
    case atStart => exact ⟨0, Nat.zero_le _, rfl, Lib.fresh_isBuilder _ _ w, (Below.refl _ _).alloc (Nat.le_refl _) _, hide (fun j h => by omega)⟩
    case round =>
      obtain ⟨k, hk, rfl, hI, hb, HA⟩ := hrel
      have htl := tx_len k HA.out
      have htk : k * 15010 ≤ 200 * 15010 := Nat.mul_le_mul_right _ (by omega)
      have hbc := Lib.byteCells_length (txM M k)
      have HI := hide hI
      have HB := hide hb
      have hww := hb.size
      have hbl := bd_lt hI
      by_cases hlt : k < n
      · obtain ⟨b, off, rfl, hbs, hc⟩ := HR.out (by rw [HM.out]; omega)
        obtain ⟨h0, h1, h2, h3, h4⟩ := hc k (by rw [HM.out]; omega)
        have c0 := (hb.cell (p := ⟨b, off + k * 5, none⟩) hbs).trans h0
        have c1 := (hb.cell (p := ⟨b, off + k * 5 + 1, none⟩) hbs).trans h1
        have c2 := (hb.cell (p := ⟨b, off + k * 5 + 2, none⟩) hbs).trans h2
        have c3 := (hb.cell (p := ⟨b, off + k * 5 + 3, none⟩) hbs).trans h3
        have c4 := (hb.cell (p := ⟨b, off + k * 5 + 4, none⟩) hbs).trans h4
        have hvs : (M.VL k).size ≤ 1048576 := by have := HZ.out.2 k (by rw [HM.out]; omega); unfold mkSz at this; omega
        have hin : (k : Int) < (n : Int) := by omega
        have HST := hide (fun (o : Obj) => (Below.refl wr.heap.size wr).alloc (Nat.le_refl _) o)
        have CL := hide (fun (W : World) (hW : Below wr.heap.size wr W) => i_markLine (M.G k) (M.DC k) (M.VL k) (M.NL k) (M.GV k) W hvs (escW_tabs HT.out (HB.out.trans (hW.mono HB.out.size))) (tab_go HP.out (HB.out.trans (hW.mono HB.out.size))))
        have HTX : Hid (txM M (k + 1) = txM M k ++ lnP (M.G k) (M.DC k) (M.VL k) (M.NL k) (M.GV k)) := hide rfl
        have HOK : Hid (okM M k = mkB (M.DC k) (M.VL k)) := hide rfl
        clear hc hb hI h0 h1 h2 h3 h4
        cases hok : okM M k
        · have HV := hide (mkV_bad (M := M) (k := k) (by rw [HM.out]; exact hlt) hok)
          have HLV : Hid (lnV (M.G k) (M.DC k) (M.VL k) (M.NL k) (M.GV k) = ⟨#[]⟩) := hide (by unfold lnV; rw [← HOK.out, hok]; rfl)
          rw [← HOK.out, hok, HLV.out] at CL
          go_wp2_with (first | (go_at_call 15; refine (CL.out _ (HST.out _)).mono ?_; rintro e w2 ⟨rfl, hb2⟩; have HB2 := hide ((HB.out.alloc HB.out.size _).trans (hb2.mono (by simp; omega))); clear hb2))
          go_ret
          exact ⟨ret_s9 HV.out.symm, HB2.out⟩
        · obtain ⟨hdc, hes, hv2⟩ := ok_parts hok
          have HA2 : Hid (∀ j, j < k + 1 → okM M j = true) := hide (fun j hj => by
            by_cases e : j = k
            · subst e; exact hok
            · exact HA.out j (by omega))
          have HLV : Hid (lnV (M.G k) (M.DC k) (M.VL k) (M.NL k) (M.GV k) = ⟨(lnP (M.G k) (M.DC k) (M.VL k) (M.NL k) (M.GV k)).toArray⟩) := hide (by unfold lnV; rw [← HOK.out, hok]; rfl)
          rw [← HOK.out, hok, HLV.out] at CL
          have hll := ln_len (g := M.G k) (nl := M.NL k) (gv := M.GV k) hdc hv2
          obtain ⟨X, hX⟩ : ∃ X : ByteArray, (⟨(lnP (M.G k) (M.DC k) (M.VL k) (M.NL k) (M.GV k)).toArray⟩ : ByteArray) = X := ⟨_, rfl⟩
          rw [hX] at CL
          have HXC : Hid (Lib.strCells X = Lib.byteCells (lnP (M.G k) (M.DC k) (M.VL k) (M.NL k) (M.GV k))) := hide (by rw [← hX]; rfl)
          have hxs : X.size ≤ 15010 := by rw [← hX]; simpa [ByteArray.size] using hll
          have hlen : (txM M k).length + X.size ≤ 3100000 := by omega
          clear hX hll hes hv2 hdc HLV
          go_wp2_with fail
          refine (CL.out _ (HST.out _)).mono ?_
          rintro e w2 ⟨rfl, hb2⟩
          have hb02 : Below wr.heap.size wr w2 := (HST.out _).trans (hb2.mono (by simp))
          have HI2 := hide (bd_go9 HI.out hb02)
          have HB2 := hide (HB.out.trans (hb02.mono HB.out.size))
          have hs2 := hb02.size
          clear hb2 hb02
          go_wp2_with (first | (go_at_call 16; refine (bd_strG w.heap.size w.heap.size _ X _ HI2.out (by rw [hbc]; omega) (by omega)).mono ?_; rintro e w3 ⟨rfl, hI3, hb3⟩; have HI3 := hide hI3; have HB3 := hide (HB2.out.trans hb3); clear hI3 hb3))
          go_roundw
          case rel =>
            refine ⟨k + 1, by omega, by go_num, ?_, HB3.out, HA2⟩
            rw [HTX.out, bc_app, ← HXC.out]
            exact HI3.out
          case measure => simp [intOf]; omega
      · have hkn : k = n := by omega
        subst hkn
        have HV := hide (mkV_all (M := M) (by rw [HM.out]; omega) (by rw [HM.out]; exact HA.out))
        rw [HM.out] at HV
        clear hI hb
        go_wp2_with (first | (go_at_call 17; refine (Tryd.Builder_String_any w.heap.size w.heap.size (txM M k) _ HI.out (by omega)).mono ?_; rintro e w3 ⟨rfl, hb3⟩; have HB3 := hide (HB.out.trans hb3); clear hb3))
        go_ret
        exact ⟨ret_s9 HV.out.symm, HB3.out⟩
end Go.Proofs.YtfoheoidfcbopaaDoor
