/-
  The walk of FnExactMarksText: at every row of marks the two answers are the same, and the row is as it was.
-/
import Derived.Test.YtfoheoidfcbopaaDoorMkI
namespace Go.Proofs.YtfoheoidfcbopaaDoor
open Go.RowKit Go.Joins
set_option linter.unusedVariables false
set_option linter.unusedSimpArgs false
set_option maxRecDepth 100000 in
set_option maxHeartbeats 4000000 in
theorem mk_walk (D : Mk) (n : Nat) (a : Option Addr) (cap : Nat) (w : World) (hD : D.n = n) (hz : MkSz D) (hr : MkAt w a D w.heap.size) (hT : Tabs w) (hP : Lib.TabIs Tryd.prog w "internal/strconv.uint64pow10" .u64 Lib.pow10Tab) :
    Calls Tryd.prog 3 #[.slice a n cap] w fun e w' => e = .returned (.bool true) ∧ Below w.heap.size w w' := by
  have HX := hide hD
  have HR := hide hr
  have HTB := hide hT
  have HPW := hide hP
  have HS := hide (l_szMks D n a cap w hD hz hr)
  by_cases hbig : (mkTot D : Int) ≤ 1048576
  · have HL := hide (dn_yes hbig)
    have hb9 : mkTot D ≤ 1048576 := by omega
    have HZ := hide hb9
    have hl2 : n ≤ 1048576 := by rw [← hD]; exact (mk_sz hb9).1
    have hl9 : (0 : Int) ≤ 1048576 - (mkTot D : Int) := by omega
    clear hr hD hz hb9 hT hP
    go_enter Tryd.func3, Tryd.ntmps3
    go_wp2_with fail
    refine HS.out.mono ?_
    rintro e w1 ⟨rfl, hb1⟩
    rw [HL.out]
    have HA1 := hide (mkAt_up (mkAt_go HR.out hb1) hb1.size)
    have HB1 := hide hb1
    clear hb1
    go_wp2_with fail
    refine (l_toMks D n a cap _ HX.out hl2 HA1.out).mono ?_
    rintro e w2 ⟨g2, rfl, hg2, hr2, hb2⟩
    have HB2 := hide (HB1.out.trans (hb2.mono HB1.out.size))
    have HR2 := hide hr2
    clear hr2 hb2
    go_wp2_with fail
    refine (s_marksText D n _ _ _ HX.out HZ.out HR2.out).mono ?_
    rintro e w3 ⟨rfl, hb3⟩
    have HB3 := hide (HB2.out.trans (hb3.mono HB2.out.size))
    have HA3 := hide (mkAt_up (mkAt_go HR.out HB3.out) HB3.out.size)
    clear hb3
    obtain ⟨V, hV⟩ : ∃ V, mkV D = V := ⟨_, rfl⟩
    rw [hV]
    have HV := hide hV
    clear hV
    go_wp2_with fail
    refine (l_toMks D n a cap _ HX.out hl2 HA3.out).mono ?_
    rintro e w4 ⟨g4, rfl, hg4, hr4, hb4⟩
    have HB4 := hide (HB3.out.trans (hb4.mono HB3.out.size))
    have HR4 := hide hr4
    clear hr4 hb4
    go_wp2_with fail
    refine (i_marksText D n _ _ _ HX.out HZ.out HR4.out (escW_tabs HTB.out HB4.out) (tab_go HPW.out HB4.out)).mono ?_
    rintro e w5 ⟨rfl, hb5⟩
    rw [HV.out]
    have HB5 := hide (HB4.out.trans (hb5.mono HB4.out.size))
    have HR5 := hide (mkAt_up (mkAt_go HR4.out hb5) hb5.size)
    have HA5 := hide (mkAt_up (mkAt_go HR.out HB5.out) HB5.out.size)
    clear hb5
    go_wp2_with fail
    refine (l_toMks D n a cap _ HX.out hl2 HA5.out).mono ?_
    rintro e w6 ⟨g6, rfl, hg6, hr6, hb6⟩
    have HB6 := hide (HB5.out.trans (hb6.mono HB5.out.size))
    have HR6 := hide hr6
    have HR56 := hide (mkAt_up (mkAt_go HR5.out hb6) hb6.size)
    clear hr6 hb6
    go_wp2_with fail
    refine (l_eqMks D n _ _ _ _ _ HX.out hl2 HR56.out HR6.out).mono ?_
    rintro e w7 ⟨rfl, hb7⟩
    have HB7 := hide (HB6.out.trans (hb7.mono HB6.out.size))
    clear hb7
    go_wp2
    go_ret
    exact ⟨rfl, HB7.out⟩
  · have HL := hide (dn_no hbig)
    clear hr hD hz hT hP
    go_enter Tryd.func3, Tryd.ntmps3
    go_wp2_with fail
    refine HS.out.mono ?_
    rintro e w1 ⟨rfl, hb1⟩
    rw [HL.out]
    have HB1 := hide hb1
    clear hb1
    go_wp2
    go_ret
    exact ⟨rfl, HB1.out⟩
end Go.Proofs.YtfoheoidfcbopaaDoor
