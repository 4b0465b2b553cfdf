/-
  Contract: does an expression take a text, by the specification? The walk of FnExactMatches.
-/
import Derived.Test.YtbijilnbbbicmaaDoorMsC
import Derived.Test.YtbijilnbbbicmaaDoorMaJ
import Derived.Test.YtbijilnbbbicmaaDoorRxI
import Derived.Test.YtbijilnbbbicmaaDoorRxEq
namespace Go.Proofs.YtbijilnbbbicmaaDoor
open Go.RowKit Go.Joins
set_option linter.unusedVariables false
set_option linter.unusedSimpArgs false
theorem ms_first (m : Nat) : ∀ b, b ≤ m → ((List.replicate (m + 1) false).set 0 true)[b]?.getD false = decide (b = 0) := fun b hb => by
  rw [set_at _ _ _ (by simp)]
  by_cases e : b = 0
  · subst e; simp
  · rw [if_neg e, ms_rep, decide_eq_false e]
theorem ms_last {R : Nat → Nat → Prop} {m : Nat} {G : List Bool} (h : Fwd ((List.replicate (m + 1) false).set 0 true) G m R) : G[m]?.getD false = true ↔ R 0 m := by
  rw [h m (Nat.le_refl _)]
  constructor
  · rintro ⟨a, ha, hf, hr⟩
    rw [ms_first m a ha] at hf
    have : a = 0 := of_decide_eq_true hf
    subst this; exact hr
  · intro hr
    exact ⟨0, Nat.zero_le _, by rw [ms_first m 0 (Nat.zero_le _)]; rfl, hr⟩
set_option maxRecDepth 100000 in
set_option maxHeartbeats 8000000 in
theorem s_matches (X : Rx) (len : Nat) (a : Option Addr) (cap : Nat) (s : ByteArray) (C : List Int) (m : Nat) (bb : Bool) (w : World) (hX : X.len = len) (hlen : len ≤ maxLen) (hnr : ∀ j, j < len → X.NR j ≤ maxLen) (hr : RxAt w a X w.heap.size) (hs : s.size ≤ 1048576) (hC : outL (rns s) = C) (hbb : (rns s).isSome = bb) (hm : C.length = m) :
    Calls Tryd.prog 5 #[.slice a len cap, .string s] w (MtA X C bb w) := by
  obtain ⟨i0, hi0, hz0, hz1, hz2⟩ := info_parts infoBo
  have CR := hide (s_runes_lb s C bb w hs hC hbb)
  rw [hm] at CR
  have hm2 : m ≤ 20000 := by rw [← hm, ← hC]; exact outL_len s
  have CO := hide (fun w2 (h : Below w.heap.size w w2) => s_regex X len a cap w2 hX hlen hnr (rxAt_up (rxAt_go hr h) h.size))
  have HR := hide hr
  have HX := hide hX
  have HML := hide hm
  clear hC hbb hs hm
  cases bb
  · clear hr hnr hX hlen CO
    go_enter Tryd.func5, Tryd.ntmps5
    go_wp2_with (go_at_call 10; refine CR.out.mono ?_; rintro e w1 ⟨ad, c, rfl, ho, hb1⟩; have HB1 := hide hb1; clear ho hb1)
    go_ret
    exact ⟨false, rfl, ⟨fun e => (by cases e), fun e => (by cases e.2.1)⟩, HB1.out⟩
  · cases hb : rxB X
    · have HV : Hid (rxB X = false) := hide hb
      rw [hb] at CO
      clear hr hnr hX hlen hb
      go_enter Tryd.func5, Tryd.ntmps5
      go_wp2_with (first | (go_at_call 10; refine CR.out.mono ?_; rintro e w1 ⟨ad, c, rfl, ho, hb1⟩; have HB1 := hide hb1; clear ho hb1) | (go_at_call 11; refine (CO.out _ HB1.out).mono ?_; rintro e w2 ⟨rfl, hb2⟩; have HB2 := hide (HB1.out.trans (hb2.mono HB1.out.size)); clear hb2))
      go_ret
      exact ⟨false, rfl, ⟨fun e => (by cases e), fun e => (by have := e.1; rw [HV.out] at this; cases this)⟩, HB2.out⟩
    · have HV : Hid (rxB X = true) := hide hb
      by_cases h3 : (300 : Int) < (m : Int)
      · rw [hb] at CO
        clear hr hnr hX hlen hb
        go_enter Tryd.func5, Tryd.ntmps5
        go_wp2_with (first | (go_at_call 10; refine CR.out.mono ?_; rintro e w1 ⟨ad, c, rfl, ho, hb1⟩; have HB1 := hide hb1; clear ho hb1) | (go_at_call 11; refine (CO.out _ HB1.out).mono ?_; rintro e w2 ⟨rfl, hb2⟩; have HB2 := hide (HB1.out.trans (hb2.mono HB1.out.size)); clear hb2))
        go_ret
        exact ⟨false, rfl, ⟨fun e => (by cases e), fun e => (by have := e.2.2.1; rw [HML.out] at this; omega)⟩, HB2.out⟩
      · obtain ⟨h1, h2, h3', h4, h5, h6⟩ := rx_okM hb
        rw [hX] at h1 h2 h3' h4 h5 h6
        obtain ⟨b, off, rfl, hbw, hrow⟩ := hr (by omega)
        have CT := hide (fun sa sc => s_step X C len m hX h1.2 HML.out (by omega) h2 h5 h6 b off cap sa sc len (len - 1) 0 (by omega) (by omega) h3')
        have HRW := hide hrow
        have hi : (len : Int) - 1 = ((len - 1 : Nat) : Int) := by omega
        have hwz : IntKind.i64.wrap ((len : Int) - 1) = (len : Int) - 1 := by rw [IntKind.wrap_i64]; omega
        have hl1 : (1 : Int) ≤ (len : Int) := by omega
        have hl2 : (len : Int) ≤ 120 := by omega
        have CS : Hid (∀ f fa fc sa sc (W : World), Below w.heap.size w W → f.length = m + 1 → RowAt .i64 W sa C W.heap.size → BoAt W fa f W.heap.size → Calls Tryd.prog 12 #[.slice (some ⟨b, off, none⟩) len cap, .int .i64 ((len : Int) - 1), .slice sa m sc, .slice fa ((m : Nat) + 1) fc] W (StA m (tkX X (clX X C) (len - 1)) f W)) := hide (fun f fa fc sa sc W hW hf hs ha => by rw [hi]; exact CT.out sa sc f fa fc W (Nat.lt_of_lt_of_le hbw hW.size) (rxRow_up (rxRow_go HRW.out hbw hW) hW.size) hs hf ha)
        rw [hb] at CO
        clear hr hnr hX hlen hb hrow h2 h3' h4 h5 h6 CT hi h1
        have hm3 : (m : Int) + 1 ≤ 301 := by omega
        have hmw : IntKind.i64.wrap ((m : Int) + 1) = (m : Int) + 1 := by rw [IntKind.wrap_i64]; omega
        go_enter Tryd.func5, Tryd.ntmps5
        go_wp2_with (first
          | (go_at_call 10; refine CR.out.mono ?_; rintro e w1 ⟨ad, c, rfl, ho, hb1⟩; have HO1 := hide (own_rowAt' HML.out ho); have HB1 := hide hb1; clear ho hb1)
          | (go_at_call 11; refine (CO.out _ HB1.out).mono ?_; rintro e w2 ⟨rfl, hb2⟩; have HO2 := hide (row_go9 HO1.out hb2); have HB2 := hide (HB1.out.trans (hb2.mono HB1.out.size)); clear hb2)
          | (at_make; refine wpList_make_full _ rfl _ _ 37 rfl w2.heap.size 4 i0 (.bool false) 1 Tryd.underlying37 hi0 hz0 hz1 .i64 .i64 _ _ (m + 1) rfl rfl (by go_num) (by go_num) (by rw [hz2]; omega) (by unfold maxLen; omega) (Nat.le_refl _) ?_; intro w3 hown hgrow; rw [ms_made] at hown; have HX3 : Hid (BoX w2.heap.size w3 w2.heap.size (m + 1) (m + 1) (List.replicate (m + 1) false)) := hide ⟨by rw [List.length_replicate], hown⟩; have hb3 : Below w2.heap.size w2 w3 := ((Below.refl _ _).grown hgrow (Nat.le_refl _) (fun k h => by cases h)); have HO3 := hide (row_go9 HO2.out hb3); have HB3 := hide (HB2.out.trans (hb3.mono HB2.out.size)); have u0 := (boX_at HX3.out).2.2 0 (by omega); have uz := boX_frozen HX3.out 0; have hm0 : (0 : Int) < ((m : Nat) + 1 : Int) := (by omega); clear hown hgrow hb3)
          | (go_at_call 12; refine (CS.out _ _ _ _ _ _ (HB3.out.setCell (p := ⟨w2.heap.size, 0, none⟩) HB2.out.size (.bool true)) (boX_set HX3.out 0 true).1 (by have hset : Below w2.heap.size w3 (w3.setCell ⟨w2.heap.size, 0, none⟩ (.bool true)) := (Below.refl _ _).setCell (p := ⟨w2.heap.size, 0, none⟩) (Nat.le_refl _) (.bool true); intro h0; obtain ⟨b9, o9, e9, hb9, hc9⟩ := HO2.out h0; exact ⟨b9, o9, e9, (by have := HX3.out; have h8 := (boX_at HX3.out).2.1; simp; omega), fun j hj => (hset.cell (p := ⟨b9, o9 + j, none⟩) hb9).trans ((HO3.out h0).elim fun b8 h8 => h8.elim fun o8 h8 => (by have e8 := h8.1; rw [e9] at e8; simp only [Option.some.injEq, Addr.mk.injEq] at e8; obtain ⟨rfl, rfl, -⟩ := e8; exact h8.2.2 j hj))⟩) (boX_bo (boX_set HX3.out 0 true))).mono ?_; rintro e w4 ⟨g4, c4, G4, rfl, hx4, hf4, hb4⟩; have y0 := (boX_at hx4).2.2 m (by omega); have HF4 := hide (ms_last hf4); have HB4 := hide ((HB3.out.setCell (p := ⟨w2.heap.size, 0, none⟩) HB2.out.size (.bool true)).trans (hb4.mono (HB3.out.setCell (p := ⟨w2.heap.size, 0, none⟩) HB2.out.size (.bool true)).size)); obtain ⟨z, hz⟩ : ∃ z, G4[m]?.getD false = z := ⟨_, rfl⟩; rw [hz] at y0 HF4; have hm4 : (m : Int) < ((m : Nat) + 1 : Int) := (by omega); clear hx4 hf4 hb4 hz))
        go_ret
        refine ⟨z, rfl, ?_, HB4.out⟩
        rw [HF4.out]
        unfold MtP
        rw [HX.out, HML.out]
        exact ⟨fun e => ⟨HV.out, rfl, by omega, e⟩, fun e => e.2.2.2⟩
/-- Both answer alike. -/
theorem mt_same {X : Rx} {C : List Int} {bb z1 z2 : Bool} (h1 : z1 = true ↔ MtP X C bb) (h2 : z2 = true ↔ MtP X C bb) : z1 = z2 := by
  cases z1 <;> cases z2
  · rfl
  · have := h1.2 (h2.1 rfl); cases this
  · have := h2.2 (h1.1 rfl); cases this
  · rfl
end Go.Proofs.YtbijilnbbbicmaaDoor
