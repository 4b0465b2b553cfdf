/-
  Contract: does the machine take a text?
-/
import Derived.Test.YtbijilnbbbicmaaDoorMaH
import Derived.Test.YtbijilnbbbicmaaDoorRunesLaw0
namespace Go.Proofs.YtbijilnbbbicmaaDoor
open Go.RowKit Go.Joins Go.Maps
set_option linter.unusedVariables false
set_option linter.unusedSimpArgs false
def TkA (X : Rx) (M : List Sp) (C : List Int) (bb : Bool) (S : Nat → Bool) (w : World) (e : Ending) (w' : World) : Prop := ∃ z, e = .returned (.bool z) ∧ (z = true ↔ bb = true ∧ C.length ≤ 300 ∧ Hr M (clX X C) C.length S 0) ∧ Below w.heap.size w w'
set_option maxRecDepth 100000 in
set_option maxHeartbeats 8000000 in
theorem i_takes (X : Rx) (len : Nat) (hX : X.len = len) (hlen : len ≤ 120) (hnr : ∀ j, j < len → X.NR j ≤ maxLen) (b0 off cap B R : Nat) (M : List Sp) (K b : Nat) (s : ByteArray) (C : List Int) (N : Nat) (bb : Bool) (hs : s.size ≤ 1048576) (hC : outL (rns s) = C) (hbb : (rns s).isSome = bb) (hN : C.length = N) (hM : M.length = K) (hK1 : 1 ≤ K) (hK4 : K ≤ 400000) (hW : Wf X M) (S : Nat → Bool) (hcl : Clo M S) (w : World) (hT : Tabs w) (hr : RxRow w b0 off X B) (hb0 : b0 < B) (h : MA B w R (.slice (some ⟨b0, off, none⟩) len cap) (.map (some b)) (.int .i64 0) M) (hps : PS w b S K) :
    Calls Tryd.prog 16 #[.pointer (some ⟨R, 0, none⟩), .string s] w (TkA X M C bb S w) := by
  have CR := hide (i_runes_lb s C bb w hs hT hC hbb)
  have hB := (ma_lt h).1
  have HM := hide h
  have HR := hide hr
  have HW := hide hW
  have HPS := hide hps
  have HCL := hide hcl
  have HML := hide hM
  have HNL := hide hN
  have HXL := hide hX
  have HNR := hide hnr
  rw [hN] at CR
  have hN2 : N ≤ 20000 := by rw [← hN, ← hC]; exact outL_len s
  clear hC hbb hT h hr hW hps hcl hM hN hX hnr
  go_enter Tryd.func16, Tryd.ntmps16
  go_wp2_with fail
  refine CR.out.mono ?_
  rintro e w1 ⟨ad, c, rfl, ho, hb1⟩
  have HO := hide (own_rowAt' HNL.out ho)
  have HB1 := hide hb1
  have hsz1 := hb1.size
  clear ho hb1 CR
  cases bb
  · go_wp2
    go_ret
    exact ⟨false, rfl, ⟨fun e => (by cases e), fun e => (by cases e.1)⟩, HB1.out⟩
  · by_cases h3 : (300 : Int) < (N : Int)
    · go_wp2
      go_ret
      exact ⟨false, rfl, ⟨fun e => (by cases e), fun e => (by have := e.2.1; rw [HNL.out] at this; omega)⟩, HB1.out⟩
    · obtain ⟨sa, sc, d0, d1, d2, d3, -⟩ := ma_at (ma_go HM.out HB1.out)
      go_wp2
      clear sa sc d0 d1 d2 d3
      go_loopw [7, 30] (fun v7 v30 wr => ∃ (i bh : Nat) (Sh : Nat → Bool), v7 = .map (some bh) ∧ v30 = .int .i64 i ∧ i ≤ N ∧ Hid (PS wr bh Sh K) ∧ Hid (Clo M Sh) ∧ Hid (Hr M (clX X C) N Sh i ↔ Hr M (clX X C) N S 0) ∧ Hid (Below w1.heap.size w1 wr)) (fun _ v _ => N - (intOf v).toNat)
      case atStart => exact ⟨0, b, S, rfl, rfl, Nat.zero_le _, hide (ps_kp HPS.out (kp_bl HB1.out (fun _ => False)) (fun e => e)), HCL, hide Iff.rfl, hide (Below.refl _ _)⟩
      case round =>
        obtain ⟨i, bh, Sh, rfl, rfl, hi, HP, HC, HH, HB⟩ := hrel
        have HMr := hide (ma_go (ma_go HM.out HB1.out) HB.out)
        by_cases hlt : i < N
        · obtain ⟨g, o, rfl, hg, hc⟩ := HO.out (by intro e; have := HNL.out; rw [e] at this; simp at this; omega)
          obtain ⟨ch, hch⟩ : ∃ ch, C[i]?.getD 0 = ch := ⟨_, rfl⟩
          have hci : wr.cell? ⟨g, o + i, none⟩ = some (.int .i64 ch) := (HB.out.cell (p := ⟨g, o + i, none⟩) hg).trans (by rw [hc i (by rw [HNL.out]; exact hlt), ← hch])
          have HCH := hide hch
          have CA := hide (i_after X len HXL.out hlen HNR.out b0 off cap B R (.map (some bh)) (.int .i64 0) M K bh ch HML.out hK4 HW.out Sh wr)
          have CA2 := hide (fun ve => i_after X len HXL.out hlen HNR.out b0 off cap B R (.map (some b)) (.int .i64 0) M K bh ch HML.out hK4 HW.out Sh wr (rxRow_go (rxRow_go HR.out hb0 (HB1.out.mono hB)) hb0 (HB.out.mono (Nat.le_trans hB hsz1))) hb0 HMr.out ve)
          clear hc CA hch
          go_wp2_with (go_at_call 31; refine (CA2.out HP.out).mono ?_; rintro e w4 ⟨T4, rfl, hp4, hc4, ha4, hb4⟩; have HP4 := hide hp4; have HC4 := hide hc4; have HA4 := hide ha4; have HB4 := hide (HB.out.trans (hb4.mono HB.out.size)); clear hp4 hc4 ha4 hb4)
          go_roundw
          case rel =>
            refine ⟨i + 1, wr.heap.size, T4, rfl, by go_num, by omega, HP4, HC4, hide ?_, HB4⟩
            rw [← HH.out]
            refine hr_step hlt HC.out (fun x => ?_)
            have e : (fun n => clX X C n i) = dX X ch := by
              funext n
              rw [clX_at (by rw [HNL.out]; exact hlt), HCH.out]
              rfl
            rw [e]
            exact HA4.out x
          case measure => simp [intOf]; omega
        · have hin : i = N := by omega
          subst hin
          obtain ⟨sa, sc, d0, d1, d2, d3, -⟩ := ma_at HMr.out
          obtain ⟨n, D, hown, hn, hmap, hh, hSK⟩ := HP.out
          have HOW := hide hown
          have hkey : keyOf Tryd.prog 2 (.int .i64 (0 : Int)) = some (.int .i64 (0 : Int)) := keyI (p := 0) (by omega)
          obtain ⟨z, hz⟩ : ∃ z, Sh 0 = z := ⟨_, rfl⟩
          have HHas : Maps.has D (.int .i64 (0 : Int)) = z := (ps_has hh 0).trans hz
          have HZ := hide hz
          clear hown hmap hh hSK hz
          go_wp2_with (at_lookup; refine wpList_lookup_own_unit _ rfl _ _ 45 rfl 2 68 lawI Tryd.underlying45 (zeroU _) bh n _ rfl HOW.out _ _ rfl hkey ?_; rw [HHas])
          go_ret
          refine ⟨z, rfl, ?_, (HB1.out.trans (HB.out.mono hsz1)).alloc (Nat.le_trans hsz1 HB.out.size) _⟩
          rw [HNL.out, ← HH.out, hr_end HC.out (fun n i hc => by have := clX_lt hc; rw [HNL.out] at this; exact this), HZ.out]
          exact ⟨fun e => ⟨rfl, by omega, e⟩, fun e => e.2.2⟩
end Go.Proofs.YtbijilnbbbicmaaDoor
