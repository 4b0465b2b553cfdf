/-
  The walk of FnBound.
-/
import Derived.Test.YtogeicckbdfldaaDoorFbA
import Derived.Test.YtogeicckbdfldaaDoorDrBn
namespace Go.Proofs.YtogeicckbdfldaaDoor
open Go.RowKit Go.Joins
set_option linter.unusedVariables false
set_option linter.unusedSimpArgs false
set_option maxHeartbeats 8000000 in
set_option maxRecDepth 100000 in
theorem fb_walk (a : Option Addr) (n cap : Nat) (zs : List Int) (w : World) (hl : zs.length = n) (hz : ∀ x ∈ zs, 0 ≤ x ∧ x ≤ 255) (hn : n ≤ 1048576) (hs : SrcAt w a zs w.heap.size) (hT : Tabs w) :
    Calls Tryd.prog 5 #[.slice a n cap] w fun e w' => e = .returned (.bool true) ∧ Below w.heap.size w w' := by
  have hn' : ¬ (1048576 : Int) < (n : Int) := by omega
  have HT := hide hT
  have CD := hide (d_boundat a n cap zs w (fun G => grow_at G a n cap zs) hl hz hn hs)
  clear hs hl hz hT
  go_enter Tryd.func5, Tryd.ntmps5
  go_wp2_with (go_at_call 6; go_in)
  refine CD.out.mono ?_
  rintro e w1 ⟨ad, m, c, D, x, p, rfl, hD, ⟨hm1, hm2⟩, hp8, htot, hdc, hb1⟩
  have B1 := hide hb1
  have HT1 := hide (tabs_below HT.out hb1)
  have HD := hide hD
  have HTO := hide htot
  have HDC := hide hdc
  clear hb1 hD htot hdc CD
  have BI := hide (fun (y : Int) (w9 : World) (hb : Hid (Below w1.heap.size w1 w9)) => i_boundat D m ad c y p w9 (by omega) HD.out HTO.out (dcAt_up (dcAt_go HDC.out hb.out) hb.out.size) (tabs_below HT1.out hb.out))
  have BS := hide (fun (w9 : World) (hb : Hid (Below w1.heap.size w1 w9)) => s_boundat D m ad c x p w9 (by omega) HD.out HTO.out (dcAt_up (dcAt_go HDC.out hb.out) hb.out.size))
  have OS := hide (fun (w9 : World) (hb : Hid (Below w1.heap.size w1 w9)) => s_docok D m ad c w9 HD.out HTO.out (dcAt_up (dcAt_go HDC.out hb.out) hb.out.size))
  have H0 : Hid (Below w1.heap.size w1 w1) := hide (Below.refl _ _)
  have BI0 := hide (BI.out x w1 H0)
  obtain ⟨sv, hsv⟩ : ∃ sv, baV D x p = sv := ⟨_, rfl⟩
  obtain ⟨kv, hkv⟩ : ∃ kv, baK D x p = kv := ⟨_, rfl⟩
  rw [hsv, hkv] at BI0 BS
  have HSV := hide hsv
  have HKV := hide hkv
  clear hsv hkv
  go_wp2_with fail
  refine BI0.out.mono ?_
  rintro e w2 ⟨rfl, hb2⟩
  have B2 := hide hb2
  clear hb2 BI0
  go_wp2_with fail
  refine (BS.out _ B2).mono ?_
  rintro e w3 ⟨rfl, hb3⟩
  have B3 := hide (B2.out.trans (hb3.mono B2.out.size))
  clear hb3
  have OS3 := hide (OS.out w3 B3)
  cases hd : docokB D
  · rw [hd] at OS3
    go_wp2_with fail
    refine OS3.out.mono ?_
    rintro e w4 ⟨rfl, hb4⟩
    have B4 := hide (B1.out.trans ((B3.out.trans (hb4.mono B3.out.size)).mono B1.out.size))
    clear hb4
    go_wp2
    go_ret
    exact ⟨rfl, B4.out⟩
  · rw [hd] at OS3
    go_wp2_with fail
    refine OS3.out.mono ?_
    rintro e w4 ⟨rfl, hb4⟩
    have B4 := hide (B3.out.trans (hb4.mono B3.out.size))
    clear hb4 OS3
    by_cases hx1 : x < 1
    · go_wp2
      go_ret
      exact ⟨rfl, B1.out.trans (B4.out.mono B1.out.size)⟩
    · by_cases hxm : (m : Int) ≤ x
      · go_wp2
        go_ret
        exact ⟨rfl, B1.out.trans (B4.out.mono B1.out.size)⟩
      · obtain ⟨x, rfl⟩ : ∃ y : Nat, x = (y : Int) := ⟨x.toNat, by omega⟩
        have hxn : x < D.n := by rw [HD.out]; omega
        have hx0 : 1 ≤ x := by omega
        have hxi : (x : Int) < (m : Int) := by omega
        obtain ⟨b, off, rfl, hbs, hrow⟩ := HDC.out (by rw [HD.out]; omega)
        obtain ⟨ad9, cp9, hc9, hat9, -⟩ := hrow x hxn
        have HC9 := hide hc9
        have HAT := hide hat9
        obtain ⟨d0, d1, d2, d3⟩ := dcCells_go hc9 hbs B4.out
        have hac := ((dc_sz HTO.out).2 x hxn).1
        have HNX := hide (fun (k : Nat) (hk : k < D.AC x) => at_notx hd hxn hk)
        have HFI := hide (fun (i : Nat) (hi : i < D.AC x) => bn_first (p := p) hd hxn hi)
        have HAB := hide (bn_above (p := p) hd hx0 hxn)
        obtain ⟨AC, hAC⟩ : ∃ AC, D.AC x = AC := ⟨_, rfl⟩
        have HACE := hide hAC
        rw [hAC] at d3 HNX HFI HAB hac
        clear hc9 hat9 hrow hAC
        go_wp2
        go_loopw [10] (fun iv wr => ∃ i : Nat, i ≤ AC ∧ iv = .int .i64 i ∧ Hid (Below w1.heap.size w1 wr) ∧ Hid (atF (D.AN x) (bnN p) (AC - i) i = atF (D.AN x) (bnN p) AC 0)) (fun iv _ => AC - (intOf iv).toNat)
        case atStart => exact ⟨0, Nat.zero_le _, rfl, B4, hide rfl⟩
        case round =>
          clear d0 d1 d2 d3
          obtain ⟨i, hi, rfl, BR, HF⟩ := hrel
          obtain ⟨c0, c1, c2, c3⟩ := dcCells_go HC9.out hbs BR.out
          rw [HACE.out] at c3
          by_cases hlt : i < AC
          · obtain ⟨bA, oA, rfl, hbA, hcA⟩ := HAT.out (by rw [HACE.out]; omega)
            have a0 := (BR.out.cell (p := ⟨bA, oA + i * 2, none⟩) hbA).trans (hcA i (by rw [HACE.out]; exact hlt)).1
            have a1 := (BR.out.cell (p := ⟨bA, oA + i * 2 + 1, none⟩) hbA).trans (hcA i (by rw [HACE.out]; exact hlt)).2
            have HB9 : Hid (Below w1.heap.size w1 (wr.alloc (.cells #[.string (D.AN x i), .string (D.AV x i)] AT))) := hide (BR.out.alloc BR.out.size _)
            clear hcA
            have hii : (i : Int) < (AC : Int) := by omega
            obtain ⟨NI, hNI⟩ : ∃ NI, D.AN x i = NI := ⟨_, rfl⟩
            obtain ⟨VI, hVI⟩ : ∃ VI, D.AV x i = VI := ⟨_, rfl⟩
            have HX1 := hide (HFI.out i hlt)
            have HX2 := hide (HNX.out i hlt)
            have HX3 := hide (fun (h : D.AN x i ≠ bnN p) => HF.out.symm.trans (atF_no hlt h))
            have HX4 := hide HF.out
            rw [hNI] at HX1
            rw [hVI, HSV.out, HKV.out] at HX1
            rw [hNI] at HX2 HX3 a0 HB9
            rw [hVI] at a1 HB9
            clear hNI hVI
            cases hpe : p.toList.isEmpty
            · have hnn : bnN p = ⟨#[120, 109, 108, 110, 115, 58]⟩ ++ p := by unfold bnN; rw [hpe]; rfl
              have hps : ¬ 9223372036854775807 < 6 + p.size := by omega
              cases hx5 : (NI.toList == [120, 109, 108, 110, 115])
              all_goals
                by_cases hN : NI = ⟨#[120, 109, 108, 110, 115, 58]⟩ ++ p
                · have fN : (NI.toList == ((⟨#[120, 109, 108, 110, 115, 58]⟩ : ByteArray) ++ p).toList) = true := by rw [hN]; simp
                  cases hxm : (p.toList == [120, 109, 108])
                  · have HY := hide (HX1.out (by rw [hnn]; exact hN) HX4.out hxm)
                    rw [hpe] at HY
                    obtain ⟨y1, y2⟩ := HY.out
                    clear hN HY HX1 hnn
                    cases hve : VI.toList.isEmpty
                    · rw [hve] at y2
                      have hv2 : ¬ VI.toList = [] := fun e => by rw [e] at hve; cases hve
                      have y3 : kv = true := y2
                      subst y1
                      subst y3
                      clear y2
                      go_wp2
                      go_ret
                      exact ⟨rfl, B1.out.trans (HB9.out.mono B1.out.size)⟩
                    · rw [hve] at y2
                      have hv2 : VI.toList = [] := List.isEmpty_iff.1 hve
                      have y3 : kv = false := y2
                      subst y1
                      subst y3
                      clear y2
                      go_wp2
                      go_ret
                      exact ⟨rfl, B1.out.trans (HB9.out.mono B1.out.size)⟩
                  · clear hN HX1 hnn
                    go_wp2
                    go_ret
                    exact ⟨rfl, B1.out.trans (HB9.out.mono B1.out.size)⟩
                · have fN : (NI.toList == ((⟨#[120, 109, 108, 110, 115, 58]⟩ : ByteArray) ++ p).toList) = false := by rw [beq_eq_false_iff_ne]; exact fun e => hN (bn_ext e)
                  have HX := hide (HX3.out (by rw [hnn]; exact hN))
                  clear hN hnn
                  go_wp2
                  go_roundw
                  case rel => exact ⟨i + 1, by omega, by go_num, HB9, hide (HX.out.symm)⟩
                  case measure => simp [intOf]; omega
            · have hpp : p = ⟨#[]⟩ := empty_eq hpe
              have hnn : bnN p = ⟨#[120, 109, 108, 110, 115]⟩ := by unfold bnN; rw [hpe]; rfl
              have hxm : (p.toList == [120, 109, 108]) = false := by rw [hpp, ByteArray.toList_eq]; rfl
              have hps : ¬ 9223372036854775807 < 6 + p.size := by omega
              have hapx : (⟨#[120, 109, 108, 110, 115, 58]⟩ : ByteArray) ++ p = ⟨#[120, 109, 108, 110, 115, 58]⟩ := by rw [hpp]; rfl
              have fN : (NI.toList == ((⟨#[120, 109, 108, 110, 115, 58]⟩ : ByteArray) ++ p).toList) = false := by rw [beq_eq_false_iff_ne, hapx]; exact fun e => HX2.out (bn_ext e)
              have hl5 : (⟨#[120, 109, 108, 110, 115]⟩ : ByteArray).toList = [120, 109, 108, 110, 115] := by rw [ByteArray.toList_eq]
              clear hpp hapx
              cases hx5 : (NI.toList == [120, 109, 108, 110, 115])
              · have HX := hide (HX3.out (by rw [hnn]; intro e; rw [e, hl5] at hx5; simp at hx5))
                clear hnn HX1
                go_wp2
                go_roundw
                case rel => exact ⟨i + 1, by omega, by go_num, HB9, hide (HX.out.symm)⟩
                case measure => simp [intOf]; omega
              · have HY := hide (HX1.out (by rw [hnn]; exact bn_ext (by rw [hl5]; exact (beq_iff_eq.1 hx5))) HX4.out hxm)
                rw [hpe] at HY
                obtain ⟨y1, y2⟩ := HY.out
                have y3 : kv = true := y2
                clear HY HX1 hnn y2
                subst y1
                subst y3
                cases hve : sv.toList.isEmpty
                · have hv2 : ¬ sv.toList = [] := fun e => by rw [e] at hve; cases hve
                  go_wp2
                  go_ret
                  exact ⟨rfl, B1.out.trans (HB9.out.mono B1.out.size)⟩
                · have hv2 : sv.toList = [] := List.isEmpty_iff.1 hve
                  go_wp2
                  go_ret
                  exact ⟨rfl, B1.out.trans (HB9.out.mono B1.out.size)⟩
          · have hiA : i = AC := by omega
            have HNO := hide (HAB.out (by rw [← HF.out, hiA]; exact atF_end (Nat.le_refl _)))
            rw [HSV.out, HKV.out] at HNO
            have CU := hide (BI.out (D.U x) wr BR)
            rw [HNO.out.1, HNO.out.2] at CU
            clear HF hiA
            go_wp2_with fail
            refine CU.out.mono ?_
            rintro e w8 ⟨rfl, hb8⟩
            have B8 := hide (B1.out.trans ((BR.out.trans (hb8.mono BR.out.size)).mono B1.out.size))
            clear hb8
            go_wp2
            go_ret
            exact ⟨rfl, B8.out⟩
end Go.Proofs.YtogeicckbdfldaaDoor
