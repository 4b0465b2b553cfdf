/-
  Contracts: the text of an expression, by the specification and by the program; the walk of FnExactRegexText.
-/
import Derived.Test.YtdkldcobgjagkaaDoorTeO
import Derived.Test.YtdkldcobgjagkaaDoorTeU
import Derived.Test.YtdkldcobgjagkaaDoorRxI
import Derived.Test.YtdkldcobgjagkaaDoorRxEq
namespace Go.Proofs.YtdkldcobgjagkaaDoor
open Go.RowKit Go.Joins
set_option linter.unusedVariables false
set_option linter.unusedSimpArgs false
/-- The text of an expression. -/
def rxT (X : Rx) : ByteArray := if rxB X = true then txX X (-1) (X.len - 1) else ⟨#[]⟩
theorem rx_ok {X : Rx} (h : rxB X = true) : (1 ≤ X.len ∧ X.len ≤ 120) ∧ NdOk X X.len ∧ trX X (X.len - 1) = some 0 := by
  unfold rxB at h
  rw [Bool.and_eq_true, Bool.and_eq_true, Bool.and_eq_true, decide_eq_true_iff, decide_eq_true_iff, decide_eq_true_iff, List.all_eq_true] at h
  obtain ⟨h1, h2, h3, h4⟩ := h
  refine ⟨h1, fun j hj => ?_, h3⟩
  have hn := h2 j (by simpa using hj)
  refine ⟨fun h5 => node_cnt hn h5, fun k2 => ?_, ?_⟩
  · unfold nodeX nodeB at hn
    rw [if_neg (by omega), if_pos k2, Bool.and_eq_true] at hn
    have hr := hn.1
    unfold rowB at hr
    rw [Bool.and_eq_true, decide_eq_true_iff] at hr
    refine ⟨hr.1.1, hr.1.2, fun i hi => ?_⟩
    have hg := hr.2
    unfold rgsB at hg
    rw [List.all_eq_true] at hg
    have hx := hg i (by simpa using hi)
    unfold rgB at hx
    rw [Bool.and_eq_true, Bool.and_eq_true, decide_eq_true_iff] at hx
    exact ⟨hx.1, hx.2.1, hx.2.2⟩
  · unfold nodeX nodeB at hn
    by_cases k1 : X.K j = 1
    · exact .inl k1
    · rw [if_neg k1] at hn
      by_cases k2 : X.K j = 2
      · exact .inr (.inl k2)
      · rw [if_neg k2] at hn
        by_cases k3 : X.K j = 3 ∨ X.K j = 4
        · rcases k3 with k | k
          · exact .inr (.inr (.inl k))
          · exact .inr (.inr (.inr (.inl k)))
        · rw [if_neg k3] at hn
          by_cases k5 : X.K j = 5
          · exact .inr (.inr (.inr (.inr k5)))
          · rw [if_neg k5] at hn
            cases hn
set_option maxHeartbeats 4000000 in
theorem s_regexT (X : Rx) (len : Nat) (a : Option Addr) (cap : Nat) (w : World) (hX : X.len = len) (hlen : len ≤ maxLen) (hnr : ∀ j, j < len → X.NR j ≤ maxLen) (hr : RxAt w a X w.heap.size) :
    Calls Tryd.prog 11 #[.slice a len cap] w fun e w' => e = .returned (.string (rxT X)) ∧ Below w.heap.size w w' := by
  have C := hide (s_regex X len a cap w hX hlen hnr hr)
  have HR := hide hr
  have HX := hide hX
  cases hb : rxB X
  · have HV : Hid (rxT X = ⟨#[]⟩) := hide (by unfold rxT; rw [hb]; rfl)
    rw [hb] at C
    clear hr hnr hX hb hlen
    go_enter Tryd.func11, Tryd.ntmps11
    go_wp2_with (go_at_call 16; refine C.out.mono ?_; rintro e w2 ⟨rfl, hb2⟩; have HB2 := hide hb2; clear hb2)
    go_ret
    exact ⟨ret_s9 HV.out.symm, HB2.out⟩
  · obtain ⟨h1, h2, h3⟩ := rx_ok hb
    rw [hX] at h1 h2 h3
    have HV : Hid (rxT X = txX X (-1) (len - 1)) := hide (by unfold rxT; rw [hb, hX]; rfl)
    obtain ⟨b, off, rfl, hbw, hrow⟩ := hr (by omega)
    have hi : (len : Int) - 1 = ((len - 1 : Nat) : Int) := by omega
    have CT : Hid (∀ w2, Below w.heap.size w w2 → Calls Tryd.prog 24 #[.slice (some ⟨b, off, none⟩) len cap, .int .i64 ((len : Int) - 1), .int .i64 (-1)] w2 fun e w' => e = .returned (.string (txX X (-1) (len - 1))) ∧ Below w2.heap.size w2 w') := hide (fun w2 h => by
      rw [hi]
      exact s_text X len hX h1.2 h2 b off cap len (len - 1) 0 (-1) (by omega) (by omega) (.inl rfl) h3 w2 (Nat.lt_of_lt_of_le hbw h.size) (rxRow_up (rxRow_go hrow hbw h) h.size))
    rw [hb] at C
    have hl1 : (1 : Int) ≤ len := by omega
    have hl2 : (len : Int) ≤ 120 := by omega
    clear hr hnr hX hb hrow hi h3 h2 hlen
    go_enter Tryd.func11, Tryd.ntmps11
    go_wp2_with (first | (go_at_call 16; refine C.out.mono ?_; rintro e w2 ⟨rfl, hb2⟩; have HB2 := hide hb2; clear hb2) | (go_at_call 24; refine (CT.out _ HB2.out).mono ?_; rintro e w3 ⟨rfl, hb3⟩; have HB3 := hide (HB2.out.trans (hb3.mono HB2.out.size)); clear hb3))
    go_ret
    exact ⟨ret_s9 HV.out.symm, HB3.out⟩
set_option maxHeartbeats 4000000 in
theorem i_regexT (X : Rx) (len : Nat) (a : Option Addr) (cap : Nat) (w : World) (hX : X.len = len) (hlen : len ≤ maxLen) (hnr : ∀ j, j < len → X.NR j ≤ maxLen) (hr : RxAt w a X w.heap.size) (hp : PwT w) :
    Calls Tryd.prog 13 #[.slice a len cap] w fun e w' => e = .returned (.string (rxT X)) ∧ Below w.heap.size w w' := by
  have C := hide (i_regex X len a cap w hX hlen hnr hr)
  have HR := hide hr
  have HX := hide hX
  have HP := hide hp
  cases hb : rxB X
  · have HV : Hid (rxT X = ⟨#[]⟩) := hide (by unfold rxT; rw [hb]; rfl)
    rw [hb] at C
    clear hr hnr hX hb hlen hp
    go_enter Tryd.func13, Tryd.ntmps13
    go_wp2_with (go_at_call 19; refine C.out.mono ?_; rintro e w2 ⟨rfl, hb2⟩; have HB2 := hide hb2; clear hb2)
    go_ret
    exact ⟨ret_s9 HV.out.symm, HB2.out⟩
  · obtain ⟨h1, h2, h3⟩ := rx_ok hb
    rw [hX] at h1 h2 h3
    have HV : Hid (rxT X = txX X (-1) (len - 1)) := hide (by unfold rxT; rw [hb, hX]; rfl)
    obtain ⟨b, off, rfl, hbw, hrow⟩ := hr (by omega)
    have hi : (len : Int) - 1 = ((len - 1 : Nat) : Int) := by omega
    have CT : Hid (∀ w2, Below w.heap.size w w2 → Calls Tryd.prog 26 #[.slice (some ⟨b, off, none⟩) len cap, .int .i64 ((len : Int) - 1)] w2 fun e w' => e = .returned (.string (ntX X (len - 1))) ∧ Below w2.heap.size w2 w') := hide (fun w2 h => by
      rw [hi]
      exact i_node X len hX h1.2 h2 b off cap len (len - 1) 0 (by omega) (by omega) h3 w2 (Nat.lt_of_lt_of_le hbw h.size) (rxRow_up (rxRow_go hrow hbw h) h.size) (pw_go HP.out h))
    rw [hb] at C
    have hl1 : (1 : Int) ≤ len := by omega
    have hl2 : (len : Int) ≤ 120 := by omega
    have hl3 : (0 : Int) ≤ (len : Int) - 1 := by omega
    have hl4 : (len : Int) - 1 < len := by omega
    have hl5 : ((len : Int) - 1).toNat = len - 1 := by omega
    obtain ⟨ad, cp, hc, -⟩ := hrow (len - 1) (by omega)
    have c0 := hc.1
    have C0 : Hid (∀ w2, Below w.heap.size w w2 → w2.cell? ⟨b, off + (len - 1) * 7, none⟩ = some (.int .i64 (X.K (len - 1)))) := hide (fun w2 h => (h.cell (p := ⟨b, off + (len - 1) * 7, none⟩) hbw).trans c0)
    have HK1 := hide (tx_e (X := X) (n := len - 1))
    have HK2 := hide (tx_m (X := X) (n := len - 1))
    obtain ⟨K, hK⟩ : ∃ K, X.K (len - 1) = K := ⟨_, rfl⟩
    rw [hK] at C0 HK1 HK2
    clear hr hnr hX hb hrow hi h3 h2 hlen hp hc c0 hK
    by_cases k1 : K = 1
    · rw [HK1.out k1] at HV
      have k1b : (K == 1) = true := by rw [beq_iff_eq]; exact k1
      clear k1
      go_enter Tryd.func13, Tryd.ntmps13
      go_wp2_with (first | (go_at_call 19; refine C.out.mono ?_; rintro e w2 ⟨rfl, hb2⟩; have HB2 := hide hb2; have q0 := C0.out w2 hb2; clear hb2))
      go_ret
      exact ⟨ret_s9 HV.out.symm, HB2.out⟩
    · rw [HK2.out k1] at HV
      have k1b : (K == 1) = false := by rw [beq_eq_false_iff_ne]; exact k1
      clear k1
      go_enter Tryd.func13, Tryd.ntmps13
      go_wp2_with (first | (go_at_call 19; refine C.out.mono ?_; rintro e w2 ⟨rfl, hb2⟩; have HB2 := hide hb2; have q0 := C0.out w2 hb2; clear hb2) | (go_at_call 26; refine (CT.out _ HB2.out).mono ?_; rintro e w3 ⟨rfl, hb3⟩; have HB3 := hide (HB2.out.trans (hb3.mono HB2.out.size)); clear hb3))
      go_ret
      exact ⟨ret_s9 HV.out.symm, HB3.out⟩
set_option maxRecDepth 100000 in
set_option maxHeartbeats 4000000 in
theorem te_walk (X : Rx) (len : Nat) (a : Option Addr) (cap : Nat) (w : World) (hX : X.len = len) (hlen : len ≤ maxLen) (hnr : ∀ j, j < len → X.NR j ≤ maxLen) (hr : RxAt w a X w.heap.size) (hp : PwT w) :
    Calls Tryd.prog 4 #[.slice a len cap] w fun e w' => e = .returned (.bool true) ∧ Below w.heap.size w w' := by
  have HX := hide hX
  have HR := hide hr
  have HP := hide hp
  have HS := hide (l_szNs X a cap w (by rw [hX]; exact hlen) (by rw [hX]; exact hnr) hr)
  rw [hX] at HS
  by_cases hbig : rxTot X ≤ 1048576
  · have HL := hide (rxLeft_yes hbig)
    have hl2 : len ≤ 1048576 := by unfold rxTot at hbig; omega
    have HNR : Hid (∀ j, j < len → X.NR j ≤ 1048576) := hide (fun j hj => by have := sumN_at X.NR (a := j) (b := X.len) (by omega); unfold rxTot at hbig; omega)
    have HNM : Hid (∀ j, j < len → X.NR j ≤ maxLen) := hide hnr
    have HLM := hide hlen
    have hl9 : (0 : Int) ≤ 1048576 - (rxTot X : Int) := by omega
    clear hr hX hnr hlen hp
    go_enter Tryd.func4, Tryd.ntmps4
    go_wp2_with fail
    refine HS.out.mono ?_
    rintro e w1 ⟨rfl, hb1⟩
    rw [HL.out]
    have HA1 := hide (rxAt_up (rxAt_go HR.out hb1) hb1.size)
    have HB1 := hide hb1
    clear hb1
    go_wp2_with fail
    refine (l_toNs X len a cap _ HX.out hl2 HNR.out HA1.out).mono ?_
    rintro e w2 ⟨g2, rfl, hg2, hr2, hb2⟩
    have HB2 := hide (HB1.out.trans (hb2.mono HB1.out.size))
    have HR2 := hide hr2
    clear hr2 hb2
    go_wp2_with fail
    refine (s_regexT X len _ _ _ HX.out HLM.out HNM.out HR2.out).mono ?_
    rintro e w3 ⟨rfl, hb3⟩
    have HB3 := hide (HB2.out.trans (hb3.mono HB2.out.size))
    have HA3 := hide (rxAt_up (rxAt_go HR.out HB3.out) HB3.out.size)
    clear hb3
    obtain ⟨V, hV⟩ : ∃ V, rxT X = V := ⟨_, rfl⟩
    rw [hV]
    have HV := hide hV
    clear hV
    go_wp2_with fail
    refine (l_toNs X len a cap _ HX.out hl2 HNR.out HA3.out).mono ?_
    rintro e w4 ⟨g4, rfl, hg4, hr4, hb4⟩
    have HB4 := hide (HB3.out.trans (hb4.mono HB3.out.size))
    have HR4 := hide hr4
    clear hr4 hb4
    go_wp2_with fail
    refine (i_regexT X len _ _ _ HX.out HLM.out HNM.out HR4.out (pw_go HP.out HB4.out)).mono ?_
    rintro e w5 ⟨rfl, hb5⟩
    rw [HV.out]
    have HB5 := hide (HB4.out.trans (hb5.mono HB4.out.size))
    have HR5 := hide (rxAt_up (rxAt_go HR4.out hb5) hb5.size)
    have HA5 := hide (rxAt_up (rxAt_go HR.out HB5.out) HB5.out.size)
    clear hb5
    go_wp2_with fail
    refine (l_toNs X len a cap _ HX.out hl2 HNR.out HA5.out).mono ?_
    rintro e w6 ⟨g6, rfl, hg6, hr6, hb6⟩
    have HB6 := hide (HB5.out.trans (hb6.mono HB5.out.size))
    have HR6 := hide hr6
    have HR56 := hide (rxAt_up (rxAt_go HR5.out hb6) hb6.size)
    clear hr6 hb6
    go_wp2_with fail
    refine (l_eqNs X len _ _ _ _ _ HX.out hl2 HNR.out HR56.out HR6.out).mono ?_
    rintro e w7 ⟨rfl, hb7⟩
    have HB7 := hide (HB6.out.trans (hb7.mono HB6.out.size))
    clear hb7
    go_wp2
    go_ret
    exact ⟨rfl, HB7.out⟩
  · have HL := hide (rxLeft_no hbig)
    clear hr hX hnr hlen hp
    go_enter Tryd.func4, Tryd.ntmps4
    go_wp2_with fail
    refine HS.out.mono ?_
    rintro e w1 ⟨rfl, hb1⟩
    rw [HL.out]
    have HB1 := hide hb1
    clear hb1
    go_wp2
    go_ret
    exact ⟨rfl, HB1.out⟩
end Go.Proofs.YtdkldcobgjagkaaDoor
