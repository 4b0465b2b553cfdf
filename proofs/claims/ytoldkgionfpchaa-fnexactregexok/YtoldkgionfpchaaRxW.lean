/-
  The walk of FnExactRegexOk: at every list of nodes the two answers are the same, and the list is as it was.
-/
import Derived.Test.YtoldkgionfpchaaRxI
import Derived.Test.YtoldkgionfpchaaRxEq
namespace Go.Proofs.Ytoldkgionfpchaa
open Go.RowKit Go.Joins
set_option linter.unusedVariables false
set_option linter.unusedSimpArgs false
set_option maxRecDepth 100000 in
set_option maxHeartbeats 4000000 in
theorem rx_walk (X : Rx) (len : Nat) (a : Option Addr) (cap : Nat) (w : World) (hX : X.len = len) (hlen : len ≤ maxLen) (hnr : ∀ j, j < len → X.NR j ≤ maxLen) (hr : RxAt w a X w.heap.size) :
    Calls Try.prog 3 #[.slice a len cap] w fun e w' => e = .returned (.bool true) ∧ Below w.heap.size w w' := by
  have HX := hide hX
  have HR := hide hr
  have HS := hide (l_szNs X a cap w (by rw [hX]; exact hlen) (by rw [hX]; exact hnr) hr)
  rw [hX] at HS
  by_cases hbig : rxTot X ≤ 1048576
  · have HL := hide (rxLeft_yes hbig)
    have hl2 : len ≤ 1048576 := by unfold rxTot at hbig; omega
    have HNR : Hid (∀ j, j < len → X.NR j ≤ 1048576) := hide (fun j hj => by have := sumN_at X.NR (a := j) (b := X.len) (by omega); unfold rxTot at hbig; omega)
    have HNM : Hid (∀ j, j < len → X.NR j ≤ maxLen) := hide hnr
    have HLM := hide hlen
    have hl9 : (0 : Int) ≤ 1048576 - (rxTot X : Int) := by omega
    clear hr hX hnr hlen
    go_enter Try.func3, Try.ntmps3
    go_wp2_with fail
    refine HS.out.mono ?_
    rintro e w1 ⟨rfl, hb1⟩
    rw [HL.out]
    have HA1 := hide (rxAt_up (rxAt_go HR.out hb1) hb1.size)
    have HB1 := hide hb1
    clear hb1
    go_wp2_with fail
    refine (l_toNs X len a cap _ HX.out hl2 HNR.out HA1.out).mono ?_
    rintro e w2 ⟨g2, rfl, hg2, hr2, hb2⟩
    have HB2 := hide (HB1.out.trans (hb2.mono HB1.out.size))
    have HR2 := hide hr2
    clear hr2 hb2
    go_wp2_with fail
    refine (s_regex X len _ _ _ HX.out HLM.out HNM.out HR2.out).mono ?_
    rintro e w3 ⟨rfl, hb3⟩
    have HB3 := hide (HB2.out.trans (hb3.mono HB2.out.size))
    have HA3 := hide (rxAt_up (rxAt_go HR.out HB3.out) HB3.out.size)
    clear hb3
    obtain ⟨V, hV⟩ : ∃ V, rxB X = V := ⟨_, rfl⟩
    rw [hV]
    have HV := hide hV
    clear hV
    go_wp2_with fail
    refine (l_toNs X len a cap _ HX.out hl2 HNR.out HA3.out).mono ?_
    rintro e w4 ⟨g4, rfl, hg4, hr4, hb4⟩
    have HB4 := hide (HB3.out.trans (hb4.mono HB3.out.size))
    have HR4 := hide hr4
    clear hr4 hb4
    go_wp2_with fail
    refine (i_regex X len _ _ _ HX.out HLM.out HNM.out HR4.out).mono ?_
    rintro e w5 ⟨rfl, hb5⟩
    rw [HV.out]
    have HB5 := hide (HB4.out.trans (hb5.mono HB4.out.size))
    have HR5 := hide (rxAt_up (rxAt_go HR4.out hb5) hb5.size)
    have HA5 := hide (rxAt_up (rxAt_go HR.out HB5.out) HB5.out.size)
    clear hb5
    go_wp2_with fail
    refine (l_toNs X len a cap _ HX.out hl2 HNR.out HA5.out).mono ?_
    rintro e w6 ⟨g6, rfl, hg6, hr6, hb6⟩
    have HB6 := hide (HB5.out.trans (hb6.mono HB5.out.size))
    have HR6 := hide hr6
    have HR56 := hide (rxAt_up (rxAt_go HR5.out hb6) hb6.size)
    clear hr6 hb6
    go_wp2_with fail
    refine (l_eqNs X len _ _ _ _ _ HX.out hl2 HNR.out HR56.out HR6.out).mono ?_
    rintro e w7 ⟨rfl, hb7⟩
    have HB7 := hide (HB6.out.trans (hb7.mono HB6.out.size))
    clear hb7
    go_wp2
    go_ret
    exact ⟨rfl, HB7.out⟩
  · have HL := hide (rxLeft_no hbig)
    clear hr hX hnr hlen
    go_enter Try.func3, Try.ntmps3
    go_wp2_with fail
    refine HS.out.mono ?_
    rintro e w1 ⟨rfl, hb1⟩
    rw [HL.out]
    have HB1 := hide hb1
    clear hb1
    go_wp2
    go_ret
    exact ⟨rfl, HB1.out⟩
end Go.Proofs.Ytoldkgionfpchaa
