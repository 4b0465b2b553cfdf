/-
  Contracts: the shortest text of an expression, by the specification and by the program; the walk of FnExactShortest.
-/
import Derived.Test.YtdkldcobgjagkaaShU
import Derived.Test.YtdkldcobgjagkaaShO
import Derived.Test.YtdkldcobgjagkaaOfRs
import Derived.Test.YtdkldcobgjagkaaRxI
import Derived.Test.YtdkldcobgjagkaaRxEq
namespace Go.Proofs.Ytdkldcobgjagkaa
open Go.RowKit Go.Joins
set_option linter.unusedVariables false
set_option linter.unusedSimpArgs false
theorem rx_ok {X : Rx} (h : rxB X = true) : (1 ≤ X.len ∧ X.len ≤ 120) ∧ NdOk X X.len ∧ trX X (X.len - 1) = some 0 := by
  unfold rxB at h
  rw [Bool.and_eq_true, Bool.and_eq_true, Bool.and_eq_true, decide_eq_true_iff, decide_eq_true_iff, decide_eq_true_iff, List.all_eq_true] at h
  obtain ⟨h1, h2, h3, h4⟩ := h
  refine ⟨h1, fun j hj => ?_, h3⟩
  have hn := h2 j (by simpa using hj)
  refine ⟨fun h5 => node_cnt hn h5, fun k2 => ?_, ?_⟩
  · unfold nodeX nodeB at hn
    rw [if_neg (by omega), if_pos k2, Bool.and_eq_true] at hn
    have hr := hn.1
    unfold rowB at hr
    rw [Bool.and_eq_true, decide_eq_true_iff] at hr
    refine ⟨hr.1.1, hr.1.2, fun i hi => ?_⟩
    have hg := hr.2
    unfold rgsB at hg
    rw [List.all_eq_true] at hg
    have hx := hg i (by simpa using hi)
    unfold rgB at hx
    rw [Bool.and_eq_true, Bool.and_eq_true, decide_eq_true_iff] at hx
    exact ⟨hx.1, hx.2.1, hx.2.2⟩
  · unfold nodeX nodeB at hn
    by_cases k1 : X.K j = 1
    · exact .inl k1
    · rw [if_neg k1] at hn
      by_cases k2 : X.K j = 2
      · exact .inr (.inl k2)
      · rw [if_neg k2] at hn
        by_cases k3 : X.K j = 3 ∨ X.K j = 4
        · rcases k3 with k | k
          · exact .inr (.inr (.inl k))
          · exact .inr (.inr (.inr (.inl k)))
        · rw [if_neg k3] at hn
          by_cases k5 : X.K j = 5
          · exact .inr (.inr (.inr (.inr k5)))
          · rw [if_neg k5] at hn
            cases hn
theorem rx_nd {X : Rx} (h : rxB X = true) : ∀ j, j < X.len → nodeX X j = true := by
  unfold rxB at h
  rw [Bool.and_eq_true, Bool.and_eq_true, Bool.and_eq_true, decide_eq_true_iff, decide_eq_true_iff, decide_eq_true_iff, List.all_eq_true] at h
  exact fun j hj => h.2.1 j (by simpa using hj)
/-- The shortest text of an expression. -/
noncomputable def shT (X : Rx) : ByteArray := if rxB X = true then (match shX X (X.len - 1) with | some p => resT (goR [] p) | none => ⟨#[]⟩) else ⟨#[]⟩
noncomputable def shB (X : Rx) : Bool := if rxB X = true then (match shX X (X.len - 1) with | some p => resB (goR [] p) | none => false) else false
theorem sh_wrong {X : Rx} (h : rxB X = false) : shT X = ⟨#[]⟩ ∧ shB X = false := by unfold shT shB; rw [h]; exact ⟨rfl, rfl⟩
theorem sh_none {X : Rx} (h : rxB X = true) (h2 : shX X (X.len - 1) = none) : shT X = ⟨#[]⟩ ∧ shB X = false := by unfold shT shB; rw [h, h2]; exact ⟨rfl, rfl⟩
theorem sh_some {X : Rx} {p : List Int} (h : rxB X = true) (h2 : shX X (X.len - 1) = some p) : shT X = resT (goR [] p) ∧ shB X = resB (goR [] p) := by unfold shT shB; rw [h, h2]; exact ⟨rfl, rfl⟩
theorem ret_2s {a b : ByteArray} {x y : Bool} (h : a = b) (h2 : x = y) : Ending.returned (.tuple #[.string a, .bool x]) = .returned (.tuple #[.string b, .bool y]) := by rw [h, h2]
theorem ir_rowAt {B : Nat} {w : World} {ad : Option Addr} {c : Nat} {L : List Int} (h : IR B w ad c L) : RowAt .i64 w ad L w.heap.size := by
  intro hne
  have h0 : 0 < L.length := List.length_pos_iff.2 hne
  obtain ⟨g, rfl, hg, -⟩ := ir_at h 0 h0
  refine ⟨g, 0, rfl, hg, fun j hj => ?_⟩
  obtain ⟨g2, e, -, hc⟩ := ir_at h j hj
  simp only [Option.some.injEq, Addr.mk.injEq] at e
  rw [e.1, Nat.zero_add]
  exact hc
set_option maxHeartbeats 4000000 in
theorem s_shortest (X : Rx) (len : Nat) (a : Option Addr) (cap : Nat) (w : World) (hX : X.len = len) (hlen : len ≤ maxLen) (hnr : ∀ j, j < len → X.NR j ≤ maxLen) (hr : RxAt w a X w.heap.size) :
    Calls Try.prog 5 #[.slice a len cap] w fun e w' => e = .returned (.tuple #[.string (shT X), .bool (shB X)]) ∧ Below w.heap.size w w' := by
  have C := hide (s_regex X len a cap w hX hlen hnr hr)
  have HR := hide hr
  have HX := hide hX
  cases hb : rxB X
  · have HV := hide (sh_wrong hb)
    rw [hb] at C
    clear hr hnr hX hb hlen
    go_enter Try.func5, Try.ntmps5
    go_wp2_with (go_at_call 10; refine C.out.mono ?_; rintro e w2 ⟨rfl, hb2⟩; have HB2 := hide hb2; clear hb2)
    go_ret2
    exact ⟨ret_2s HV.out.1.symm HV.out.2.symm, HB2.out⟩
  · obtain ⟨h1, h2, h3⟩ := rx_ok hb
    have h4 := rx_nd hb
    rw [hX] at h1 h2 h3 h4
    have HV0 := hide (sh_none hb)
    have HV1 := hide (fun p => sh_some (p := p) hb)
    rw [hX] at HV0 HV1
    obtain ⟨b, off, rfl, hbw, hrow⟩ := hr (by omega)
    have hi : (len : Int) - 1 = ((len - 1 : Nat) : Int) := by omega
    have CT : Hid (∀ w2, Below w.heap.size w w2 → Calls Try.prog 11 #[.slice (some ⟨b, off, none⟩) len cap, .int .i64 ((len : Int) - 1)] w2 (ShAns X (len - 1) 40000 w2)) := hide (fun w2 h => by
      rw [hi]
      exact sp_more (s_short X len hX h1.2 h2 h4 b off cap len (len - 1) 0 (by omega) (by omega) h3 w2 (Nat.lt_of_lt_of_le hbw h.size) (rxRow_up (rxRow_go hrow hbw h) h.size)) (by omega))
    rw [hb] at C
    have hl1 : (1 : Int) ≤ len := by omega
    have hl2 : (len : Int) ≤ 120 := by omega
    clear hr hnr hX hb hrow hi h3 h2 hlen h4
    go_enter Try.func5, Try.ntmps5
    go_wp2_with (go_at_call 10; refine C.out.mono ?_; rintro e w2 ⟨rfl, hb2⟩; have HB2 := hide hb2; clear hb2)
    refine (CT.out _ HB2.out).mono ?_
    rintro e w3 ⟨a3, c3, m3, M3, o3, rfl, hm3, hv3, hl3, hi3, hb3⟩
    have HB3 := hide (HB2.out.trans (hb3.mono HB2.out.size))
    have HI3 := hide (ir_rowAt hi3)
    have HV3 := hide hv3
    have HM3 := hide hm3
    clear hi3 hb3 hv3 hm3
    cases o3
    · have HF := hide (HV0.out (shv_f HV3.out))
      go_wp2
      go_ret2
      exact ⟨ret_2s HF.out.1.symm HF.out.2.symm, HB3.out⟩
    · have HF := hide (HV1.out _ (shv_t HV3.out))
      have CO := hide (s_of_row a3 m3 c3 M3 w3 HM3.out.symm (by omega) HI3.out)
      go_wp2_with (go_at_call 12; refine CO.out.mono ?_; rintro e w4 ⟨rfl, hb4⟩; have HB4 := hide (HB3.out.trans (hb4.mono HB3.out.size)); clear hb4)
      go_ret2
      exact ⟨ret_2s HF.out.1.symm HF.out.2.symm, HB4.out⟩
set_option maxHeartbeats 4000000 in
theorem i_shortest (X : Rx) (len : Nat) (a : Option Addr) (cap : Nat) (w : World) (hX : X.len = len) (hlen : len ≤ maxLen) (hnr : ∀ j, j < len → X.NR j ≤ maxLen) (hr : RxAt w a X w.heap.size) :
    Calls Try.prog 7 #[.slice a len cap] w fun e w' => e = .returned (.tuple #[.string (shT X), .bool (shB X)]) ∧ Below w.heap.size w w' := by
  have C := hide (i_regex X len a cap w hX hlen hnr hr)
  have HR := hide hr
  have HX := hide hX
  cases hb : rxB X
  · have HV := hide (sh_wrong hb)
    rw [hb] at C
    clear hr hnr hX hb hlen
    go_enter Try.func7, Try.ntmps7
    go_wp2_with (go_at_call 14; refine C.out.mono ?_; rintro e w2 ⟨rfl, hb2⟩; have HB2 := hide hb2; clear hb2)
    go_ret2
    exact ⟨ret_2s HV.out.1.symm HV.out.2.symm, HB2.out⟩
  · obtain ⟨h1, h2, h3⟩ := rx_ok hb
    have h4 := rx_nd hb
    rw [hX] at h1 h2 h3 h4
    have HV0 := hide (sh_none hb)
    have HV1 := hide (fun p => sh_some (p := p) hb)
    rw [hX] at HV0 HV1
    obtain ⟨b, off, rfl, hbw, hrow⟩ := hr (by omega)
    have hi : (len : Int) - 1 = ((len - 1 : Nat) : Int) := by omega
    have CT : Hid (∀ w2, Below w.heap.size w w2 → Calls Try.prog 15 #[.slice (some ⟨b, off, none⟩) len cap, .int .i64 ((len : Int) - 1)] w2 (ShAns X (len - 1) 40000 w2)) := hide (fun w2 h => by
      rw [hi]
      exact sp_more (i_short X len hX h1.2 h2 b off cap len (len - 1) 0 (by omega) (by omega) h3 w2 (Nat.lt_of_lt_of_le hbw h.size) (rxRow_up (rxRow_go hrow hbw h) h.size)) (by omega))
    rw [hb] at C
    have hl1 : (1 : Int) ≤ len := by omega
    have hl2 : (len : Int) ≤ 120 := by omega
    clear hr hnr hX hb hrow hi h3 h2 hlen h4
    go_enter Try.func7, Try.ntmps7
    go_wp2_with (go_at_call 14; refine C.out.mono ?_; rintro e w2 ⟨rfl, hb2⟩; have HB2 := hide hb2; clear hb2)
    refine (CT.out _ HB2.out).mono ?_
    rintro e w3 ⟨a3, c3, m3, M3, o3, rfl, hm3, hv3, hl3, hi3, hb3⟩
    have HB3 := hide (HB2.out.trans (hb3.mono HB2.out.size))
    have HI3 := hide (ir_rowAt hi3)
    have HV3 := hide hv3
    have HM3 := hide hm3
    clear hi3 hb3 hv3 hm3
    cases o3
    · have HF := hide (HV0.out (shv_f HV3.out))
      go_wp2
      go_ret2
      exact ⟨ret_2s HF.out.1.symm HF.out.2.symm, HB3.out⟩
    · have HF := hide (HV1.out _ (shv_t HV3.out))
      have CO := hide (i_of_row a3 m3 c3 M3 w3 HM3.out.symm (by omega) HI3.out)
      go_wp2_with (go_at_call 16; refine CO.out.mono ?_; rintro e w4 ⟨rfl, hb4⟩; have HB4 := hide (HB3.out.trans (hb4.mono HB3.out.size)); clear hb4)
      go_ret2
      exact ⟨ret_2s HF.out.1.symm HF.out.2.symm, HB4.out⟩
set_option maxRecDepth 100000 in
set_option maxHeartbeats 4000000 in
theorem sh_walk (X : Rx) (len : Nat) (a : Option Addr) (cap : Nat) (w : World) (hX : X.len = len) (hlen : len ≤ maxLen) (hnr : ∀ j, j < len → X.NR j ≤ maxLen) (hr : RxAt w a X w.heap.size) :
    Calls Try.prog 3 #[.slice a len cap] w fun e w' => e = .returned (.bool true) ∧ Below w.heap.size w w' := by
  have HX := hide hX
  have HR := hide hr
  have HS := hide (l_szNs X a cap w (by rw [hX]; exact hlen) (by rw [hX]; exact hnr) hr)
  rw [hX] at HS
  by_cases hbig : rxTot X ≤ 1048576
  · have HL := hide (rxLeft_yes hbig)
    have hl2 : len ≤ 1048576 := by unfold rxTot at hbig; omega
    have HNR : Hid (∀ j, j < len → X.NR j ≤ 1048576) := hide (fun j hj => by have := sumN_at X.NR (a := j) (b := X.len) (by omega); unfold rxTot at hbig; omega)
    have HNM : Hid (∀ j, j < len → X.NR j ≤ maxLen) := hide hnr
    have HLM := hide hlen
    have hl9 : (0 : Int) ≤ 1048576 - (rxTot X : Int) := by omega
    clear hr hX hnr hlen
    go_enter Try.func3, Try.ntmps3
    go_wp2_with fail
    refine HS.out.mono ?_
    rintro e w1 ⟨rfl, hb1⟩
    rw [HL.out]
    have HA1 := hide (rxAt_up (rxAt_go HR.out hb1) hb1.size)
    have HB1 := hide hb1
    clear hb1
    go_wp2_with fail
    refine (l_toNs X len a cap _ HX.out hl2 HNR.out HA1.out).mono ?_
    rintro e w2 ⟨g2, rfl, hg2, hr2, hb2⟩
    have HB2 := hide (HB1.out.trans (hb2.mono HB1.out.size))
    have HR2 := hide hr2
    clear hr2 hb2
    go_wp2_with fail
    refine (s_shortest X len _ _ _ HX.out HLM.out HNM.out HR2.out).mono ?_
    rintro e w3 ⟨rfl, hb3⟩
    have HB3 := hide (HB2.out.trans (hb3.mono HB2.out.size))
    have HA3 := hide (rxAt_up (rxAt_go HR.out HB3.out) HB3.out.size)
    clear hb3
    obtain ⟨V, hV⟩ : ∃ V, shT X = V := ⟨_, rfl⟩
    obtain ⟨VB, hVB⟩ : ∃ VB, shB X = VB := ⟨_, rfl⟩
    rw [hV, hVB]
    have HV := hide hV
    have HVB := hide hVB
    clear hV hVB
    go_wp2_with fail
    refine (l_toNs X len a cap _ HX.out hl2 HNR.out HA3.out).mono ?_
    rintro e w4 ⟨g4, rfl, hg4, hr4, hb4⟩
    have HB4 := hide (HB3.out.trans (hb4.mono HB3.out.size))
    have HR4 := hide hr4
    clear hr4 hb4
    go_wp2_with fail
    refine (i_shortest X len _ _ _ HX.out HLM.out HNM.out HR4.out).mono ?_
    rintro e w5 ⟨rfl, hb5⟩
    rw [HV.out, HVB.out]
    have HB5 := hide (HB4.out.trans (hb5.mono HB4.out.size))
    have HR5 := hide (rxAt_up (rxAt_go HR4.out hb5) hb5.size)
    have HA5 := hide (rxAt_up (rxAt_go HR.out HB5.out) HB5.out.size)
    clear hb5
    go_wp2_with fail
    refine (l_toNs X len a cap _ HX.out hl2 HNR.out HA5.out).mono ?_
    rintro e w6 ⟨g6, rfl, hg6, hr6, hb6⟩
    have HB6 := hide (HB5.out.trans (hb6.mono HB5.out.size))
    have HR6 := hide hr6
    have HR56 := hide (rxAt_up (rxAt_go HR5.out hb6) hb6.size)
    clear hr6 hb6
    go_wp2_with fail
    refine (l_eqNs X len _ _ _ _ _ HX.out hl2 HNR.out HR56.out HR6.out).mono ?_
    rintro e w7 ⟨rfl, hb7⟩
    have HB7 := hide (HB6.out.trans (hb7.mono HB6.out.size))
    clear hb7
    go_wp2
    go_ret
    exact ⟨rfl, HB7.out⟩
  · have HL := hide (rxLeft_no hbig)
    clear hr hX hnr hlen
    go_enter Try.func3, Try.ntmps3
    go_wp2_with fail
    refine HS.out.mono ?_
    rintro e w1 ⟨rfl, hb1⟩
    rw [HL.out]
    have HB1 := hide hb1
    clear hb1
    go_wp2
    go_ret
    exact ⟨rfl, HB1.out⟩
end Go.Proofs.Ytdkldcobgjagkaa
