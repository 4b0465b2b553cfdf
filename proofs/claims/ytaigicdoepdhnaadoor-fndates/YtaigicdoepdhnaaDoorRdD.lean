/-
  Contract: the program's ReadDate.
-/
import Derived.Test.YtaigicdoepdhnaaDoorRdZ
import Derived.Test.YtaigicdoepdhnaaDoorRdMath2
import Derived.Test.YtaigicdoepdhnaaDoorHeldDate
import Derived.Deep.DeepCutAuto
import Derived.Deep.RegionWith
import Derived.Deep.RegionHeld3
namespace Go.Proofs.YtaigicdoepdhnaaDoor
open Go.RowKit
set_option linter.unusedSimpArgs false
set_option linter.unusedVariables false
/-- What ReadDate answers. -/
def rdV (s : ByteArray) : Value := if rdOk s = true then .tuple #[.agg #[.int .i64 (f0 s), .int .i64 (f1 s), .int .i64 (f2 s), .int .i64 (f3 s), .int .i64 (f4 s), .int .i64 (f5 s), .bool (zI (tailA s)).1, .int .i64 (zI (tailA s)).2.1], .bool true] else .tuple #[.agg #[.int .i64 0, .int .i64 0, .int .i64 0, .int .i64 0, .int .i64 0, .int .i64 0, .bool false, .int .i64 0], .bool false]
theorem rdV_no {s : ByteArray} (h : rdOk s = false) : rdV s = .tuple #[.agg #[.int .i64 0, .int .i64 0, .int .i64 0, .int .i64 0, .int .i64 0, .int .i64 0, .bool false, .int .i64 0], .bool false] := by simp [rdV, h]
theorem i_sh19T (s : ByteArray) (w : World) (hs : s.size ≤ maxLen) (h : shB s p19 = true) : Calls Tryd.prog 17 #[.string s, .string ⟨#[48, 48, 48, 48, 45, 48, 48, 45, 48, 48, 84, 48, 48, 58, 48, 48, 58, 48, 48]⟩] w fun e w' => e = .returned (.bool true) ∧ ∃ n, w' = w.drewN n := by
  have q := i_shape s p19 w hs (by decide)
  rw [h] at q; exact q
theorem i_sh19F (s : ByteArray) (w : World) (hs : s.size ≤ maxLen) (h : shB s p19 = false) : Calls Tryd.prog 17 #[.string s, .string ⟨#[48, 48, 48, 48, 45, 48, 48, 45, 48, 48, 84, 48, 48, 58, 48, 48, 58, 48, 48]⟩] w fun e w' => e = .returned (.bool false) ∧ ∃ n, w' = w.drewN n := by
  have q := i_shape s p19 w hs (by decide)
  rw [h] at q; exact q
theorem ext_all (s : ByteArray) : s.extract 0 s.size = s := by
  apply ByteArray.ext
  simp
def RdIn (w w1 : World) : Prop := HeldD w1 w.heap.size 0 0 0 0 0 0 false 0 ∧ Below w.heap.size w w1
theorem rdin_new {w w1 : World} {T : TypeId} {n : Nat} (h : w1 = (w.alloc (.cells #[.int .i64 0, .int .i64 0, .int .i64 0, .int .i64 0, .int .i64 0, .int .i64 0, .bool false, .int .i64 0] T)).drewN n) : RdIn w w1 := by
  subst h
  exact ⟨heldD_new w 0 0 0 0 0 0 false 0 T, below_drawn (below_box w _) n⟩
theorem rdin_go {w w1 w2 : World} (h : RdIn w w1) (k : Below w1.heap.size w1 w2) : RdIn w w2 := ⟨heldD_below h.1 k, below_go h.2 k⟩
theorem rdin_drew {w w1 w2 : World} {n : Nat} (h : RdIn w w1) (e : w2 = w1.drewN n) : RdIn w w2 := by
  subst e; exact rdin_go h ⟨rfl, rfl, rfl, Nat.le_refl _, fun _ _ => rfl⟩
theorem rdin_dalloc {w w1 : World} (h : RdIn w w1) (o : Obj) : RdIn w (w1.drew.alloc o) := by
  have k := below_box w1.drew o
  exact rdin_go h ⟨k.os, k.tape, k.output, k.size, k.block⟩
theorem rdin_dd {w w1 : World} (h : RdIn w w1) : RdIn w w1.drew := rdin_go h ⟨rfl, rfl, rfl, Nat.le_refl _, fun _ _ => rfl⟩
theorem rdin_alloc {w w1 : World} (h : RdIn w w1) (o : Obj) : RdIn w (w1.alloc o) := rdin_go h (below_box w1 o)
theorem rdin_ad {w w1 : World} (h : RdIn w w1) (o : Obj) : RdIn w (w1.alloc o).drew := rdin_dd (rdin_alloc h o)
theorem below_boxN (w : World) (o : Obj) (n : Nat) : Below w.heap.size w ((w.alloc o).drewN n) := below_drawn (below_box w o) n
set_option maxHeartbeats 4000000 in
theorem i_rdate (s : ByteArray) (w : World) (hs : s.size ≤ 1048576) (ht : MTab 0 w) : Calls Tryd.prog 7 #[.string s] w fun e w' => e = .returned (rdV s) ∧ Below w.heap.size w w' := by
  have HT := hide ht
  clear ht
  by_cases hsz : s.size < 19
  · have HV := hide (rdV_no (rd_short hsz))
    have HSH : Hid (shB s p19 = false) := hide (shB_size (by have e2 : p19.size = 19 := rfl; omega))
    have HMX : Hid (s.size ≤ maxLen) := hide (by unfold maxLen; omega)
    go_enter Tryd.func7, Tryd.ntmps7
    go_wp2_with fail
    all_goals (try (exfalso; omega))
    refine (i_sh19F s _ HMX.out HSH.out).mono ?_
    rintro e w1 ⟨rfl, n, hw⟩
    have HI := hide (rdin_new hw)
    clear hw
    obtain ⟨⟨r0, r1, r2, r3, r4, r5, r6, r7⟩, f0, f1, f2, f3, f4, f5, f6, f7⟩ := heldD_cells HI.out.1
    have HZ := hide (heldD_cells (heldD_set HI.out.1 0 0 0 0 0 0 false 0)).1
    go_wp2
    obtain ⟨q0, q1, q2, q3, q4, q5, q6, q7⟩ := HZ.out
    exact bodyPost_ret (v := .tuple #[.agg #[.int .i64 0, .int .i64 0, .int .i64 0, .int .i64 0, .int .i64 0, .int .i64 0, .bool false, .int .i64 0], .bool false]) (by simp [results, Tryd.results7, go_sem, q0, q1, q2, q3, q4, q5, q6, q7]) rfl ⟨by rw [HV.out], below_set8 HI.out.2 (Nat.le_refl _) _ _ _ _ _ _ _ _⟩
  · have h19 : 19 ≤ s.size := by omega
    have h19i : (19 : Int) ≤ (s.size : Int) := by omega
    have HMX : Hid ((s.extract 0 19).size ≤ maxLen) := hide (by rw [ext_size s 0 19 (by omega)]; unfold maxLen; omega)
    have HMS : Hid (s.size ≤ maxLen) := hide (by unfold maxLen; omega)
    have hss : s.size = 19 ∨ 19 < s.size := by omega
    have HES : Hid (s.size = 19 → headA s = s) := hide (fun q => by rw [head_size h19, ← q]; exact ext_all s)
    cases hsh : shB (headA s) p19
    · have HV := hide (rdV_no (show rdOk s = false by simp [rdOk, hsh]))
      have HSH := hide hsh
      clear hsh
      have HS1 : Hid (shB (s.extract 0 19) p19 = false) := hide (by rw [← head_size h19]; exact HSH.out)
      have HS2 : Hid (s.size = 19 → shB s p19 = false) := hide (fun q => by have e := HES.out q; have e2 := HSH.out; rw [e] at e2; exact e2)
      rcases hss with hss | hss
      all_goals
        go_enter Tryd.func7, Tryd.ntmps7
        go_wp2_with fail
        all_goals (try (exfalso; omega))
        all_goals
          first
            | (go_at_call_of 17 (Value.string (s.extract 0 19)); refine (i_sh19F (s.extract 0 19) _ HMX.out HS1.out).mono ?_)
            | refine (i_sh19F s _ HMS.out (HS2.out (by omega))).mono ?_
          rintro e w1 ⟨rfl, n, hw⟩
          have HI := hide (rdin_new hw)
          clear hw
          obtain ⟨⟨r0, r1, r2, r3, r4, r5, r6, r7⟩, f0, f1, f2, f3, f4, f5, f6, f7⟩ := heldD_cells HI.out.1
          have HZ := hide (heldD_cells (heldD_set HI.out.1 0 0 0 0 0 0 false 0)).1
          go_wp2
          obtain ⟨q0, q1, q2, q3, q4, q5, q6, q7⟩ := HZ.out
          exact bodyPost_ret (v := .tuple #[.agg #[.int .i64 0, .int .i64 0, .int .i64 0, .int .i64 0, .int .i64 0, .int .i64 0, .bool false, .int .i64 0], .bool false]) (by simp [results, Tryd.results7, go_sem, q0, q1, q2, q3, q4, q5, q6, q7]) rfl ⟨by rw [HV.out], below_set8 HI.out.2 (Nat.le_refl _) _ _ _ _ _ _ _ _⟩
    · have HDD := hide hsh
      have hall : allD s = true := by have q := shape_is h19; rw [hsh] at q; cases e : allD s with | true => rfl | false => rw [e] at q; simp at q
      simp only [allD, Bool.and_eq_true] at hall
      obtain ⟨d0, d1, d2, d3, d4, d5⟩ := hall
      obtain ⟨x0, hx0⟩ : ∃ x, s.extract 0 4 = x := ⟨_, rfl⟩
      rw [hx0] at d0
      have HX0 : Hid (x0.size ≤ 4) := hide (by rw [← hx0, ext_size s 0 4 (by omega)]; omega)
      have HD0 := hide d0
      have EX0 := hide hx0
      obtain ⟨x1, hx1⟩ : ∃ x, s.extract 5 7 = x := ⟨_, rfl⟩
      rw [hx1] at d1
      have HX1 : Hid (x1.size ≤ 4) := hide (by rw [← hx1, ext_size s 5 7 (by omega)]; omega)
      have HD1 := hide d1
      have EX1 := hide hx1
      obtain ⟨x2, hx2⟩ : ∃ x, s.extract 8 10 = x := ⟨_, rfl⟩
      rw [hx2] at d2
      have HX2 : Hid (x2.size ≤ 4) := hide (by rw [← hx2, ext_size s 8 10 (by omega)]; omega)
      have HD2 := hide d2
      have EX2 := hide hx2
      obtain ⟨x3, hx3⟩ : ∃ x, s.extract 11 13 = x := ⟨_, rfl⟩
      rw [hx3] at d3
      have HX3 : Hid (x3.size ≤ 4) := hide (by rw [← hx3, ext_size s 11 13 (by omega)]; omega)
      have HD3 := hide d3
      have EX3 := hide hx3
      obtain ⟨x4, hx4⟩ : ∃ x, s.extract 14 16 = x := ⟨_, rfl⟩
      rw [hx4] at d4
      have HX4 : Hid (x4.size ≤ 4) := hide (by rw [← hx4, ext_size s 14 16 (by omega)]; omega)
      have HD4 := hide d4
      have EX4 := hide hx4
      obtain ⟨x5, hx5⟩ : ∃ x, s.extract 17 19 = x := ⟨_, rfl⟩
      rw [hx5] at d5
      have HX5 : Hid (x5.size ≤ 4) := hide (by rw [← hx5, ext_size s 17 19 (by omega)]; omega)
      have HD5 := hide d5
      have EX5 := hide hx5
      obtain ⟨t, htl⟩ : ∃ t, s.extract 19 s.size = t := ⟨_, rfl⟩
      have HTL : Hid (tailA s = t) := hide htl
      have hts : t.size ≤ 1048576 := by rw [← htl, ext_size s 19 s.size (by omega)]; omega
      obtain ⟨R, hR⟩ : ∃ R, zI t = R := ⟨_, rfl⟩
      have ER := hide hR
      obtain ⟨g9, z9, o9⟩ := R
      have HTS := hide hts
      have e4 : (4 : Int) ≤ (s.size : Int) := by omega
      have e7 : (7 : Int) ≤ (s.size : Int) := by omega
      have e10 : (10 : Int) ≤ (s.size : Int) := by omega
      have e13 : (13 : Int) ≤ (s.size : Int) := by omega
      have e16 : (16 : Int) ≤ (s.size : Int) := by omega
      have HRD : Hid (rdOk s = (o9 && dateB (numB x0) (numB x1) (numB x2) (numB x3) (numB x4) (numB x5) g9 z9)) := hide (by
        unfold rdOk f0 f1 f2 f3 f4 f5
        rw [HDD.out, HTL.out, ER.out, EX0.out, EX1.out, EX2.out, EX3.out, EX4.out, EX5.out]
        rfl)
      have HRV : Hid (rdOk s = true → rdV s = .tuple #[.agg #[.int .i64 (numB x0), .int .i64 (numB x1), .int .i64 (numB x2), .int .i64 (numB x3), .int .i64 (numB x4), .int .i64 (numB x5), .bool g9, .int .i64 z9], .bool true]) := hide (fun q => by
        unfold rdV f0 f1 f2 f3 f4 f5
        rw [if_pos q, HTL.out, ER.out, EX0.out, EX1.out, EX2.out, EX3.out, EX4.out, EX5.out])
      have HSH := hide hsh
      have HS1 : Hid (shB (s.extract 0 19) p19 = true) := hide (by rw [← head_size h19]; exact HSH.out)
      have HS2 : Hid (s.size = 19 → shB s p19 = true) := hide (fun q => by have e := HES.out q; have e2 := HSH.out; rw [e] at e2; exact e2)
      clear hsh hR hts d0 d1 d2 d3 d4 d5
      have HTT : Hid (s.extract 19 s.size = t) := hide HTL.out
      have HTE : Hid (s.size = 19 → t = ByteArray.empty) := hide (fun q => ByteArray.size_eq_zero_iff.1 (by rw [← htl, ext_size s 19 s.size (by omega)]; omega))
      rcases hss with hss | hss
      · have hte := HTE.out hss
        subst hte
        go_enter Tryd.func7, Tryd.ntmps7
        go_wp2_with fail
        all_goals (try (exfalso; omega))
        first
          | (go_at_call_of 17 (Value.string (s.extract 0 19)); refine (i_sh19T (s.extract 0 19) _ HMX.out HS1.out).mono ?_)
          | refine (i_sh19T s _ HMS.out (HS2.out (by omega))).mono ?_
        rintro e w1 ⟨rfl, n, hw⟩
        have HI := hide (rdin_new hw)
        clear hw
        go_wp2_with fail
        refine (i_zoneR _ _ HTS.out).mono ?_
        rintro e w2 ⟨rfl, n2, hw2⟩
        have HI2 := hide (rdin_drew HI.out hw2)
        clear hw2
        rw [ER.out]
        go_wp2_with fail
        go_cut [8] (fun v wx => ∃ q, v = .pointer (some ⟨q, 0, none⟩) ∧ HeldD wx q (numB x0) (numB x1) (numB x2) (numB x3) (numB x4) (numB x5) g9 z9 ∧ RdIn w wx)
        case first =>
          go_region_held3 (fun w' => RdIn w w') (first | assumption | exact rdin_dd HI2.out | exact rdin_ad HI2.out _ | exact rdin_alloc (by assumption) _ | exact rdin_alloc HI2.out _) (first | (go_at_call_of 19 (Value.string x0); refine (i_num x0 _ HX0.out HD0.out).mono ?_; rintro e w' ⟨rfl, rfl⟩) | (go_at_call_of 19 (Value.string x1); refine (i_num x1 _ HX1.out HD1.out).mono ?_; rintro e w' ⟨rfl, rfl⟩) | (go_at_call_of 19 (Value.string x2); refine (i_num x2 _ HX2.out HD2.out).mono ?_; rintro e w' ⟨rfl, rfl⟩) | (go_at_call_of 19 (Value.string x3); refine (i_num x3 _ HX3.out HD3.out).mono ?_; rintro e w' ⟨rfl, rfl⟩) | (go_at_call_of 19 (Value.string x4); refine (i_num x4 _ HX4.out HD4.out).mono ?_; rintro e w' ⟨rfl, rfl⟩) | (go_at_call_of 19 (Value.string x5); refine (i_num x5 _ HX5.out HD5.out).mono ?_; rintro e w' ⟨rfl, rfl⟩))
          all_goals
            go_wp2_with fail
            go_meet
            exact ⟨_, rfl, by first | exact heldD_new w2 (numB x0) (numB x1) (numB x2) (numB x3) (numB x4) (numB x5) g9 z9 _ | exact heldD_new w2.drew (numB x0) (numB x1) (numB x2) (numB x3) (numB x4) (numB x5) g9 z9 _, by first | exact rdin_ad HI2.out _ | exact rdin_dalloc HI2.out _⟩
        case rest =>
          obtain ⟨q, rfl, hq, hri⟩ := hcut
          have HQ := hide hq
          have HI3 := hide hri
          clear hq hri HI HI2
          cases o9
          · have HV := hide (rdV_no (show rdOk s = false by rw [HRD.out]; rfl))
            obtain ⟨⟨r0, r1, r2, r3, r4, r5, r6, r7⟩, f0, f1, f2, f3, f4, f5, f6, f7⟩ := heldD_cells HI3.out.1
            have HZ := hide (heldD_cells (heldD_set HI3.out.1 0 0 0 0 0 0 false 0)).1
            go_wp2
            obtain ⟨q0, q1, q2, q3, q4, q5, q6, q7⟩ := HZ.out
            exact bodyPost_ret (v := .tuple #[.agg #[.int .i64 0, .int .i64 0, .int .i64 0, .int .i64 0, .int .i64 0, .int .i64 0, .bool false, .int .i64 0], .bool false]) (by simp [results, Tryd.results7, go_sem, q0, q1, q2, q3, q4, q5, q6, q7]) rfl ⟨by rw [HV.out], below_set8 HI3.out.2 (Nat.le_refl _) _ _ _ _ _ _ _ _⟩
          · cases hdb : dateB (numB x0) (numB x1) (numB x2) (numB x3) (numB x4) (numB x5) g9 z9
            · have HV := hide (rdV_no (show rdOk s = false by rw [HRD.out, hdb]; rfl))
              obtain ⟨⟨a0, a1, a2, a3, a4, a5, a6, a7⟩, _⟩ := heldD_cells HQ.out
              go_wp2_with fail
              refine (i_dateok (numB x0) (numB x1) (numB x2) (numB x3) (numB x4) (numB x5) g9 z9 _ (mtab_go HT.out HI3.out.2)).mono ?_
              rw [hdb]
              rintro e w3 ⟨rfl, hb3⟩
              have HI4 := hide (rdin_go HI3.out hb3)
              clear hb3 a0 a1 a2 a3 a4 a5 a6 a7
              obtain ⟨⟨r0, r1, r2, r3, r4, r5, r6, r7⟩, f0, f1, f2, f3, f4, f5, f6, f7⟩ := heldD_cells HI4.out.1
              have HZ := hide (heldD_cells (heldD_set HI4.out.1 0 0 0 0 0 0 false 0)).1
              go_wp2
              obtain ⟨q0, q1, q2, q3, q4, q5, q6, q7⟩ := HZ.out
              exact bodyPost_ret (v := .tuple #[.agg #[.int .i64 0, .int .i64 0, .int .i64 0, .int .i64 0, .int .i64 0, .int .i64 0, .bool false, .int .i64 0], .bool false]) (by simp [results, Tryd.results7, go_sem, q0, q1, q2, q3, q4, q5, q6, q7]) rfl ⟨by rw [HV.out], below_set8 HI4.out.2 (Nat.le_refl _) _ _ _ _ _ _ _ _⟩
            · have HV := hide (HRV.out (show rdOk s = true by rw [HRD.out, hdb]; rfl))
              obtain ⟨⟨a0, a1, a2, a3, a4, a5, a6, a7⟩, _⟩ := heldD_cells HQ.out
              go_wp2_with fail
              refine (i_dateok (numB x0) (numB x1) (numB x2) (numB x3) (numB x4) (numB x5) g9 z9 _ (mtab_go HT.out HI3.out.2)).mono ?_
              rw [hdb]
              rintro e w3 ⟨rfl, hb3⟩
              have HI4 := hide (rdin_go HI3.out hb3)
              have HQ4 := hide (heldD_below HQ.out hb3)
              clear hb3 a0 a1 a2 a3 a4 a5 a6 a7
              obtain ⟨⟨r0, r1, r2, r3, r4, r5, r6, r7⟩, f0, f1, f2, f3, f4, f5, f6, f7⟩ := heldD_cells HI4.out.1
              obtain ⟨⟨a0, a1, a2, a3, a4, a5, a6, a7⟩, _⟩ := heldD_cells HQ4.out
              have HZ := hide (heldD_cells (heldD_set HI4.out.1 (numB x0) (numB x1) (numB x2) (numB x3) (numB x4) (numB x5) g9 z9)).1
              go_wp2
              obtain ⟨q0, q1, q2, q3, q4, q5, q6, q7⟩ := HZ.out
              exact bodyPost_ret (v := .tuple #[.agg #[.int .i64 (numB x0), .int .i64 (numB x1), .int .i64 (numB x2), .int .i64 (numB x3), .int .i64 (numB x4), .int .i64 (numB x5), .bool g9, .int .i64 z9], .bool true]) (by simp [results, Tryd.results7, go_sem, q0, q1, q2, q3, q4, q5, q6, q7]) rfl ⟨by rw [HV.out], below_set8 HI4.out.2 (Nat.le_refl _) _ _ _ _ _ _ _ _⟩
      · clear HTE
        go_enter Tryd.func7, Tryd.ntmps7
        go_wp2_with fail
        all_goals (try (exfalso; omega))
        first
          | (go_at_call_of 17 (Value.string (s.extract 0 19)); refine (i_sh19T (s.extract 0 19) _ HMX.out HS1.out).mono ?_)
          | refine (i_sh19T s _ HMS.out (HS2.out (by omega))).mono ?_
        rintro e w1 ⟨rfl, n, hw⟩
        have HI := hide (rdin_new hw)
        clear hw
        go_wp2_with fail
        refine (i_zoneR _ _ HTS.out).mono ?_
        rintro e w2 ⟨rfl, n2, hw2⟩
        have HI2 := hide (rdin_drew HI.out hw2)
        clear hw2
        rw [ER.out]
        go_wp2_with fail
        go_cut [8] (fun v wx => ∃ q, v = .pointer (some ⟨q, 0, none⟩) ∧ HeldD wx q (numB x0) (numB x1) (numB x2) (numB x3) (numB x4) (numB x5) g9 z9 ∧ RdIn w wx)
        case first =>
          go_region_held3 (fun w' => RdIn w w') (first | assumption | exact rdin_dd HI2.out | exact rdin_ad HI2.out _ | exact rdin_alloc (by assumption) _ | exact rdin_alloc HI2.out _) (first | (go_at_call_of 19 (Value.string x0); refine (i_num x0 _ HX0.out HD0.out).mono ?_; rintro e w' ⟨rfl, rfl⟩) | (go_at_call_of 19 (Value.string x1); refine (i_num x1 _ HX1.out HD1.out).mono ?_; rintro e w' ⟨rfl, rfl⟩) | (go_at_call_of 19 (Value.string x2); refine (i_num x2 _ HX2.out HD2.out).mono ?_; rintro e w' ⟨rfl, rfl⟩) | (go_at_call_of 19 (Value.string x3); refine (i_num x3 _ HX3.out HD3.out).mono ?_; rintro e w' ⟨rfl, rfl⟩) | (go_at_call_of 19 (Value.string x4); refine (i_num x4 _ HX4.out HD4.out).mono ?_; rintro e w' ⟨rfl, rfl⟩) | (go_at_call_of 19 (Value.string x5); refine (i_num x5 _ HX5.out HD5.out).mono ?_; rintro e w' ⟨rfl, rfl⟩))
          all_goals
            go_wp2_with fail
            go_meet
            exact ⟨_, rfl, by first | exact heldD_new w2 (numB x0) (numB x1) (numB x2) (numB x3) (numB x4) (numB x5) g9 z9 _ | exact heldD_new w2.drew (numB x0) (numB x1) (numB x2) (numB x3) (numB x4) (numB x5) g9 z9 _, by first | exact rdin_ad HI2.out _ | exact rdin_dalloc HI2.out _⟩
        case rest =>
          obtain ⟨q, rfl, hq, hri⟩ := hcut
          have HQ := hide hq
          have HI3 := hide hri
          clear hq hri HI HI2
          cases o9
          · have HV := hide (rdV_no (show rdOk s = false by rw [HRD.out]; rfl))
            obtain ⟨⟨r0, r1, r2, r3, r4, r5, r6, r7⟩, f0, f1, f2, f3, f4, f5, f6, f7⟩ := heldD_cells HI3.out.1
            have HZ := hide (heldD_cells (heldD_set HI3.out.1 0 0 0 0 0 0 false 0)).1
            go_wp2
            obtain ⟨q0, q1, q2, q3, q4, q5, q6, q7⟩ := HZ.out
            exact bodyPost_ret (v := .tuple #[.agg #[.int .i64 0, .int .i64 0, .int .i64 0, .int .i64 0, .int .i64 0, .int .i64 0, .bool false, .int .i64 0], .bool false]) (by simp [results, Tryd.results7, go_sem, q0, q1, q2, q3, q4, q5, q6, q7]) rfl ⟨by rw [HV.out], below_set8 HI3.out.2 (Nat.le_refl _) _ _ _ _ _ _ _ _⟩
          · cases hdb : dateB (numB x0) (numB x1) (numB x2) (numB x3) (numB x4) (numB x5) g9 z9
            · have HV := hide (rdV_no (show rdOk s = false by rw [HRD.out, hdb]; rfl))
              obtain ⟨⟨a0, a1, a2, a3, a4, a5, a6, a7⟩, _⟩ := heldD_cells HQ.out
              go_wp2_with fail
              refine (i_dateok (numB x0) (numB x1) (numB x2) (numB x3) (numB x4) (numB x5) g9 z9 _ (mtab_go HT.out HI3.out.2)).mono ?_
              rw [hdb]
              rintro e w3 ⟨rfl, hb3⟩
              have HI4 := hide (rdin_go HI3.out hb3)
              clear hb3 a0 a1 a2 a3 a4 a5 a6 a7
              obtain ⟨⟨r0, r1, r2, r3, r4, r5, r6, r7⟩, f0, f1, f2, f3, f4, f5, f6, f7⟩ := heldD_cells HI4.out.1
              have HZ := hide (heldD_cells (heldD_set HI4.out.1 0 0 0 0 0 0 false 0)).1
              go_wp2
              obtain ⟨q0, q1, q2, q3, q4, q5, q6, q7⟩ := HZ.out
              exact bodyPost_ret (v := .tuple #[.agg #[.int .i64 0, .int .i64 0, .int .i64 0, .int .i64 0, .int .i64 0, .int .i64 0, .bool false, .int .i64 0], .bool false]) (by simp [results, Tryd.results7, go_sem, q0, q1, q2, q3, q4, q5, q6, q7]) rfl ⟨by rw [HV.out], below_set8 HI4.out.2 (Nat.le_refl _) _ _ _ _ _ _ _ _⟩
            · have HV := hide (HRV.out (show rdOk s = true by rw [HRD.out, hdb]; rfl))
              obtain ⟨⟨a0, a1, a2, a3, a4, a5, a6, a7⟩, _⟩ := heldD_cells HQ.out
              go_wp2_with fail
              refine (i_dateok (numB x0) (numB x1) (numB x2) (numB x3) (numB x4) (numB x5) g9 z9 _ (mtab_go HT.out HI3.out.2)).mono ?_
              rw [hdb]
              rintro e w3 ⟨rfl, hb3⟩
              have HI4 := hide (rdin_go HI3.out hb3)
              have HQ4 := hide (heldD_below HQ.out hb3)
              clear hb3 a0 a1 a2 a3 a4 a5 a6 a7
              obtain ⟨⟨r0, r1, r2, r3, r4, r5, r6, r7⟩, f0, f1, f2, f3, f4, f5, f6, f7⟩ := heldD_cells HI4.out.1
              obtain ⟨⟨a0, a1, a2, a3, a4, a5, a6, a7⟩, _⟩ := heldD_cells HQ4.out
              have HZ := hide (heldD_cells (heldD_set HI4.out.1 (numB x0) (numB x1) (numB x2) (numB x3) (numB x4) (numB x5) g9 z9)).1
              go_wp2
              obtain ⟨q0, q1, q2, q3, q4, q5, q6, q7⟩ := HZ.out
              exact bodyPost_ret (v := .tuple #[.agg #[.int .i64 (numB x0), .int .i64 (numB x1), .int .i64 (numB x2), .int .i64 (numB x3), .int .i64 (numB x4), .int .i64 (numB x5), .bool g9, .int .i64 z9], .bool true]) (by simp [results, Tryd.results7, go_sem, q0, q1, q2, q3, q4, q5, q6, q7]) rfl ⟨by rw [HV.out], below_set8 HI4.out.2 (Nat.le_refl _) _ _ _ _ _ _ _ _⟩
end Go.Proofs.YtaigicdoepdhnaaDoor
