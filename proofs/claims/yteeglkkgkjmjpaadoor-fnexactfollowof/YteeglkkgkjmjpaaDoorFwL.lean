/-
  The walk of FnExactFollowOf: at every row of nodes the two answers are the same, and the row is as it was; the answer owns its memory.
-/
import Derived.Test.YteeglkkgkjmjpaaDoorFwS
import Derived.Test.YteeglkkgkjmjpaaDoorPilA
namespace Go.Proofs.YteeglkkgkjmjpaaDoor
open Go.RowKit Go.Joins
set_option linter.unusedVariables false
set_option linter.unusedSimpArgs false
set_option maxRecDepth 100000 in
set_option maxHeartbeats 8000000 in
theorem fw_walk (D : Pn) (n : Nat) (a : Option Addr) (cap : Nat) (x : Int) (w : World) (hD : D.n = n) (hz : PnSz D) (hr : PnAt w a D w.heap.size) (hT : TzT w) :
    Calls Tryd.prog 6 #[.slice a n cap, .int .i64 x] w fun e w' => e = .returned (.bool true) ∧ Below w.heap.size w w' := by
  have HX := hide hD
  have HR := hide hr
  have HT := hide hT
  have HS := hide (l_szPs D n a cap w hD hz hr)
  by_cases hbig : (pnTot D : Int) ≤ 1048576
  · have HL := hide (dn_yes hbig)
    have hb9 : pnTot D ≤ 1048576 := by omega
    have HZ := hide hb9
    have hl2 : n ≤ 1048576 := by rw [← hD]; exact (pn_sz hb9).1
    have HNR : Hid (∀ j, j < n → (D.KL j).length ≤ 1048576) := hide (fun j hj => ((pn_sz hb9).2 j (by omega)).2)
    have HAC : Hid (sumN (fun j => (D.KL j).length) n ≤ 1048576) := hide (by rw [← hD]; exact sumN_kl hb9)
    have hl9 : (0 : Int) ≤ 1048576 - (pnTot D : Int) := by omega
    have hkl := flV_len (D := D) (x := x)
    have CS := hide (fun (a' : Option Addr) (c' : Nat) (w' : World) (h : PnAt w' a' D w'.heap.size) => s_followOf D n a' c' x w' hD hb9 h)
    have CI := hide (fun (a' : Option Addr) (c' : Nat) (w' : World) (h : PnAt w' a' D w'.heap.size) (hT' : TzT w') => i_followOf D n a' c' x w' hD hb9 h hT')
    unfold IntAns IntR at CS CI
    obtain ⟨L, hL⟩ : ∃ L, flV D x = L := ⟨_, rfl⟩
    rw [hL] at CS CI hkl
    have hn : L.length ≤ 1048576 := by omega
    have hc1 : ¬ (1 + (L.length : Int)) < 0 := by omega
    clear hr hD hz hT hb9 hkl hL
    go_enter Tryd.func6, Tryd.ntmps6
    go_wp2_with fail
    refine HS.out.mono ?_
    rintro e w1 ⟨rfl, hb1⟩
    rw [HL.out]
    have HA1 := hide (pnAt_up (pnAt_go HR.out hb1) hb1.size)
    have HB1 := hide hb1
    clear hb1
    go_wp2_with fail
    refine (l_toPs D n a cap _ HX.out hl2 HNR.out HA1.out).mono ?_
    rintro e w2 ⟨g2, rfl, hg2, hr2, hb2⟩
    have HB2 := hide (HB1.out.trans (hb2.mono HB1.out.size))
    have HR2 := hide hr2
    clear hr2 hb2
    go_wp2_with fail
    refine (CS.out _ _ _ HR2.out).mono ?_
    rintro e w3 ⟨adA, cA, rfl, hoA, hb3⟩
    have OA := hide hoA
    have HB3 := hide (HB2.out.trans (hb3.mono HB2.out.size))
    have HA3 := hide (pnAt_up (pnAt_go HR.out HB3.out) HB3.out.size)
    clear hoA hb3
    go_wp2_with fail
    refine (l_toPs2 D n a cap _ HX.out hl2 HNR.out HA3.out).mono ?_
    rintro e w4 ⟨g4, rfl, hg4, hr4, hsh4, hb4⟩
    have HB4 := hide (HB3.out.trans (hb4.mono HB3.out.size))
    have HB34 := hide hb4
    have HR4 := hide hr4
    have HSH4 := hide hsh4
    have OA4 := hide (own_below' OA.out hb4)
    clear hr4 hsh4 hb4
    go_wp2_with fail
    refine (CI.out _ _ _ HR4.out (tzT_go HT.out HB4.out (Nat.le_refl _))).mono ?_
    rintro e w5 ⟨adB, cB, rfl, hoB, hb5⟩
    have OB := hide hoB
    have HB45 := hide hb5
    have HB5 := hide (HB4.out.trans (hb5.mono HB4.out.size))
    have OA5 := hide (own_below' OA4.out hb5)
    clear hoB hb5
    go_wp2_with fail
    refine (eq_same adB adA L.length cB cA L _ rfl hn (own_rowAt' rfl OB.out) (own_rowAt' rfl OA5.out)).mono ?_
    rintro e w6 ⟨rfl, q6, rfl⟩
    have HB6 := hide (drew_go HB5.out q6)
    have HB46 := hide (drew_go HB45.out q6)
    have HA6 := hide (pnAt_up (pnAt_go HR.out HB6.out) HB6.out.size)
    go_wp2_with fail
    refine (l_toPs D n a cap (w5.drewN q6) HX.out hl2 HNR.out HA6.out).mono ?_
    rintro e w7 ⟨g7, rfl, hg7, hr7, hb7⟩
    have hb7' : Below w5.heap.size w5 w7 := ⟨hb7.os, hb7.tape, hb7.output, hb7.size, hb7.block⟩
    have HB7 := hide (HB5.out.trans (hb7'.mono HB5.out.size))
    have HB47 := hide (HB45.out.trans (hb7'.mono HB45.out.size))
    have HR7 := hide hr7
    have HR47 := hide (pnAt_up (pnAt_go HR4.out HB47.out) HB47.out.size)
    have OA7 := hide (own_below' OA5.out hb7')
    have OB7 := hide (own_below' OB.out hb7')
    clear hr7 hb7 hb7'
    go_wp2_with fail
    refine (l_eqPs D n _ _ _ _ _ HX.out hl2 HNR.out HR47.out HR7.out).mono ?_
    rintro e w8 ⟨rfl, hb8⟩
    have HB8 := hide (HB7.out.trans (hb8.mono HB7.out.size))
    have HB48 := hide (HB47.out.trans (hb8.mono HB47.out.size))
    have OA8 := hide (own_below' OA7.out hb8)
    have OB8 := hide (own_below' OB7.out hb8)
    have HSH8 := hide (shI_go HSH4.out (chg_below (lo := 0) (hi := 0) HB48.out) (.inr (Nat.zero_le _)))
    clear hb8
    go_wp2_with fail
    refine (l_markPs g4 n n (fun j => (D.KL j).length) w3.heap.size w4.heap.size _ hl2 HAC.out HSH8.out).mono ?_
    rintro e w9 ⟨kk, rfl, hkk, hc9⟩
    have hkk2 : ¬ kk < 0 := by omega
    have HB9 := hide (below_chg HB8.out (Nat.le_refl _) HB3.out.size hc9)
    have OA9 := hide (own_chg OA8.out hc9 (fun j hj => .inl (OA.out.lt j hj).2))
    have OB9 := hide (own_chg OB8.out hc9 (fun j hj => .inr (OB.out.lt j hj).1))
    clear hc9
    go_wp2_with fail
    refine (eq_same adB adA L.length cB cA L _ rfl hn (own_rowAt' rfl OB9.out) (own_rowAt' rfl OA9.out)).mono ?_
    rintro e w10 ⟨rfl, q10, rfl⟩
    go_wp2_with fail
    refine (mark_any w4.heap.size adB L.length cB L (w9.drewN q10) rfl hn (show (w9.drewN q10).ownsRow w4.heap.size 2 1 (.slice adB L.length cB) L.length (L.map (Value.int .i64)) from OB9.out)).mono ?_
    rintro e w11 ⟨rfl, ho11, hb11⟩
    have O11 := hide ho11
    have hb11' : Below w4.heap.size w9 w11 := ⟨hb11.os, hb11.tape, hb11.output, hb11.size, hb11.block⟩
    have OA11 := hide (own_stays OA9.out hb11' (fun j hj => Nat.lt_of_lt_of_le (OA.out.lt j hj).2 HB34.out.size))
    have HB11 := hide (HB9.out.trans (hb11'.mono HB4.out.size))
    clear ho11 hb11 hb11'
    go_wp2_with fail
    refine (held_ints adB L.length cB _ hn (own_rowAt' (upFrom_len 1 _) O11.out)).mono ?_
    rintro e w12 ⟨rfl, q12, rfl⟩
    have HB12 := hide (drew_go HB11.out q12)
    have HA12 := hide (pnAt_up (pnAt_go HR.out HB12.out) HB12.out.size)
    go_wp2_with fail
    refine (l_toPs D n a cap (w11.drewN q12) HX.out hl2 HNR.out HA12.out).mono ?_
    rintro e w13 ⟨g13, rfl, hg13, hr13, hb13⟩
    have hb13' : Below w11.heap.size w11 w13 := ⟨hb13.os, hb13.tape, hb13.output, hb13.size, hb13.block⟩
    have HB13 := hide (HB11.out.trans (hb13'.mono HB11.out.size))
    have HR13 := hide hr13
    have OA13 := hide (own_below' OA11.out hb13')
    have O13 := hide (own_below' O11.out hb13')
    clear hr13 hb13 hb13'
    go_wp2_with fail
    refine (CI.out _ _ _ HR13.out (tzT_go HT.out HB13.out (Nat.le_refl _))).mono ?_
    rintro e w14 ⟨adC, cC, rfl, hoC, hb14⟩
    have OC := hide hoC
    have HB14 := hide (HB13.out.trans (hb14.mono HB13.out.size))
    have OA14 := hide (own_below' OA13.out hb14)
    have O14 := hide (own_below' O13.out hb14)
    clear hoC hb14
    go_wp2_with fail
    refine (eq_same adC adA L.length cC cA L _ rfl hn (own_rowAt' rfl OC.out) (own_rowAt' rfl OA14.out)).mono ?_
    rintro e w15 ⟨rfl, q15, rfl⟩
    go_wp2_with fail
    refine (held_ints adB L.length cB _ hn (show RowAt .i64 (w14.drewN q15) adB (upFrom 1 L.length) (w14.drewN q15).heap.size from own_rowAt' (upFrom_len 1 _) O14.out)).mono ?_
    rintro e w16 ⟨rfl, q16, rfl⟩
    go_wp2
    go_ret
    exact ⟨rfl, ⟨HB14.out.os, HB14.out.tape, HB14.out.output, HB14.out.size, HB14.out.block⟩⟩
  · have HL := hide (dn_no hbig)
    clear hr hD hz hT
    go_enter Tryd.func6, Tryd.ntmps6
    go_wp2_with fail
    refine HS.out.mono ?_
    rintro e w1 ⟨rfl, hb1⟩
    rw [HL.out]
    have HB1 := hide hb1
    clear hb1
    go_wp2
    go_ret
    exact ⟨rfl, HB1.out⟩
end Go.Proofs.YteeglkkgkjmjpaaDoor
