/-
  The walk of FnExactMatches.
-/
import Derived.Test.YtbijilnbbbicmaaDoorMsD
namespace Go.Proofs.YtbijilnbbbicmaaDoor
open Go.RowKit Go.Joins
set_option linter.unusedVariables false
set_option linter.unusedSimpArgs false
set_option maxRecDepth 100000 in
set_option maxHeartbeats 8000000 in
theorem mt_walk (X : Rx) (len : Nat) (a : Option Addr) (cap : Nat) (s : ByteArray) (w : World) (hX : X.len = len) (hlen : len ≤ maxLen) (hnr : ∀ j, j < len → X.NR j ≤ maxLen) (hr : RxAt w a X w.heap.size) (hs : s.size ≤ maxLen) (hT : Tabs w) :
    Calls Tryd.prog 3 #[.slice a len cap, .string s] w fun e w' => e = .returned (.bool true) ∧ Below w.heap.size w w' := by
  have HX := hide hX
  have HR := hide hr
  have HTb := hide hT
  have HS := hide (l_szNs X a cap w (by rw [hX]; exact hlen) (by rw [hX]; exact hnr) hr)
  rw [hX] at HS
  unfold maxLen at hs
  by_cases hsb : (1048576 : Int) < (s.size : Int)
  · clear hr hX hnr hlen hT
    go_enter Tryd.func3, Tryd.ntmps3
    go_wp2
    go_ret
    exact ⟨rfl, Below.refl _ _⟩
  · have hs2 : s.size ≤ 1048576 := by omega
    by_cases hbig : rxTot X ≤ 1048576
    · have HL := hide (rxLeft_yes hbig)
      have hl2 : len ≤ 1048576 := by unfold rxTot at hbig; omega
      have HNR : Hid (∀ j, j < len → X.NR j ≤ 1048576) := hide (fun j hj => by have := sumN_at X.NR (a := j) (b := X.len) (by omega); unfold rxTot at hbig; omega)
      have HNM : Hid (∀ j, j < len → X.NR j ≤ maxLen) := hide hnr
      have HLM := hide hlen
      have hl9 : (0 : Int) ≤ 1048576 - (rxTot X : Int) := by omega
      clear hr hX hnr hlen hT
      go_enter Tryd.func3, Tryd.ntmps3
      go_wp2_with fail
      refine HS.out.mono ?_
      rintro e w1 ⟨rfl, hb1⟩
      rw [HL.out]
      have HA1 := hide (rxAt_up (rxAt_go HR.out hb1) hb1.size)
      have HB1 := hide hb1
      clear hb1
      go_wp2_with fail
      refine (l_toNs X len a cap _ HX.out hl2 HNR.out HA1.out).mono ?_
      rintro e w2 ⟨g2, rfl, hg2, hr2, hb2⟩
      have HB2 := hide (HB1.out.trans (hb2.mono HB1.out.size))
      have HR2 := hide hr2
      clear hr2 hb2
      go_wp2_with fail
      refine (s_matches X len _ _ s (outL (rns s)) _ (rns s).isSome _ HX.out HLM.out HNM.out HR2.out hs2 rfl rfl rfl).mono ?_
      rintro e w3 ⟨z3, rfl, hz3, hb3⟩
      have HB3 := hide (HB2.out.trans (hb3.mono HB2.out.size))
      have HA3 := hide (rxAt_up (rxAt_go HR.out HB3.out) HB3.out.size)
      have HZ3 := hide hz3
      clear hb3 hz3
      go_wp2_with fail
      refine (l_toNs X len a cap _ HX.out hl2 HNR.out HA3.out).mono ?_
      rintro e w4 ⟨g4, rfl, hg4, hr4, hb4⟩
      have HB4 := hide (HB3.out.trans (hb4.mono HB3.out.size))
      have HR4 := hide hr4
      clear hr4 hb4
      go_wp2_with fail
      refine (i_matches X len _ _ s (outL (rns s)) (rns s).isSome _ HX.out HLM.out HNM.out HR4.out hs2 (tabs_below HTb.out HB4.out) rfl rfl).mono ?_
      rintro e w5 ⟨z5, rfl, hz5, hb5⟩
      have hzz : z3 = z5 := mt_same HZ3.out hz5
      subst hzz
      have HB5 := hide (HB4.out.trans (hb5.mono HB4.out.size))
      have HR5 := hide (rxAt_up (rxAt_go HR4.out hb5) hb5.size)
      have HA5 := hide (rxAt_up (rxAt_go HR.out HB5.out) HB5.out.size)
      clear hb5 hz5
      go_wp2_with fail
      refine (l_toNs X len a cap _ HX.out hl2 HNR.out HA5.out).mono ?_
      rintro e w6 ⟨g6, rfl, hg6, hr6, hb6⟩
      have HB6 := hide (HB5.out.trans (hb6.mono HB5.out.size))
      have HR6 := hide hr6
      have HR56 := hide (rxAt_up (rxAt_go HR5.out hb6) hb6.size)
      clear hr6 hb6
      go_wp2_with fail
      refine (l_eqNs X len _ _ _ _ _ HX.out hl2 HNR.out HR56.out HR6.out).mono ?_
      rintro e w7 ⟨rfl, hb7⟩
      have HB7 := hide (HB6.out.trans (hb7.mono HB6.out.size))
      clear hb7
      go_wp2
      go_ret
      exact ⟨rfl, HB7.out⟩
    · have HL := hide (rxLeft_no hbig)
      clear hr hX hnr hlen hT
      go_enter Tryd.func3, Tryd.ntmps3
      go_wp2_with fail
      refine HS.out.mono ?_
      rintro e w1 ⟨rfl, hb1⟩
      rw [HL.out]
      have HB1 := hide hb1
      clear hb1
      go_wp2
      go_ret
      exact ⟨rfl, HB1.out⟩
end Go.Proofs.YtbijilnbbbicmaaDoor
