/-
  Contract: the specification's differences of digits.
-/
import Derived.Test.YtdglamiifcagoabDoorSumS
namespace Go.Proofs.YtdglamiifcagoabDoor
open Go.RowKit
set_option linter.unusedSimpArgs false
set_option linter.unusedVariables false
theorem conv_own8 {w : World} {B g cap : Nat} (d : List Int) (h : w.ownsRow B 5 1 (.slice (some ⟨g, 0, none⟩) (txtL d).length cap) (txtL d).length ((txtL d).map (Value.int .u8))) :
    (convert 22 9 (.slice (some ⟨g, 0, none⟩) (txtL d).length cap)).run Tryd.prog w = .ok (.string (strOfNums (txtL d))) w := by
  refine run_convert_bytes_arg (P := Tryd.prog) w 22 5 Tryd.underlying22 Tryd.underlying5 g 0 (txtL d).length cap (txtL d) rfl (fun i hi => ?_) 9 Tryd.underlying9
  rw [Nat.zero_add, h.cellAt i (by omega)]
  simp [List.getElem?_eq_getElem hi]
set_option maxHeartbeats 2000000 in
theorem s_less (x y : ByteArray) (w : World) (hxy : x.size = y.size) (hx : x.size ≤ 200) (dx : dgL x.data.toList) (dy : dgL y.data.toList) (hle : valL y.data.toList ≤ valL x.data.toList) :
    Calls Tryd.prog 21 #[.string x, .string y] w fun e w' => ∃ z : ByteArray, z.size ≤ 201 ∧ dgL z.data.toList ∧ valL z.data.toList = valL x.data.toList - valL y.data.toList ∧ e = .returned (.string z) ∧ Below w.heap.size w w' := by
  obtain ⟨i0, hi, hz0, hz1, hz2⟩ := info_parts8
  have HDX := hide dx
  have HDY := hide dy
  have hy : y.size ≤ 200 := by omega
  have HXY := hide hxy
  have HLE := hide hle
  have hmade := World.ownsRow_made (base := w.heap.size) (e := 5) (size := 1) w #[] 0 (Nat.le_refl _) (Nat.zero_le _) rfl
  have HM := hide hmade
  clear dx dy hmade hxy hle
  go_enter Tryd.func21, Tryd.ntmps21
  go_wp2
  go_loopw [5, 6, 7] (fun vo vc vi wr => ∃ (k : Nat) (c : Int) (d : List Int) (g cap : Nat), vo = .slice (some ⟨g, 0, none⟩) (txtL d).length cap ∧ vc = .int .i64 c ∧ vi = .int .i64 ((x.size : Int) - 1 - (k : Int)) ∧ k ≤ x.size ∧ 0 ≤ c ∧ c ≤ 1 ∧ Hid (d.length = k) ∧ Hid (rowOK d) ∧ Hid (rval d + rval ((revD y).take k) = rval ((revD x).take k) + 10 ^ k * c) ∧ Hid (wr.ownsRow w.heap.size 5 1 (.slice (some ⟨g, 0, none⟩) (txtL d).length cap) (txtL d).length ((txtL d).map (Value.int .u8))) ∧ Hid (Below w.heap.size w wr)) (fun _ _ vi _ => (intOf vi + 1).toNat)
  case atStart => exact ⟨0, 0, [], _, _, rfl, rfl, by simp, Nat.zero_le _, by omega, by omega, hide rfl, hide (fun x hx => by cases hx), hide (by simp [rval]), HM, hide ((Below.refl _ _).alloc (Nat.le_refl _) _)⟩
  case round =>
    clear HM
    obtain ⟨k, c, d, g, cap, rfl, rfl, rfl, hk, hc0, hc1, HDL, HDO, HI, HO, HB⟩ := hrel
    have htl : (txtL d).length = k := by rw [txtL_len, HDL.out]
    by_cases hlt : k < x.size
    · obtain ⟨p, hp⟩ : ∃ p : Nat, (x.size : Int) - 1 - (k : Int) = (p : Int) := ⟨x.size - 1 - k, by omega⟩
      have hpx : p < x.size := by omega
      have hpy : p < y.size := by have := HXY.out; omega
      have ex := revD_at x k hlt
      have ey := revD_at y k (by have := HXY.out; omega)
      have epx : x.size - 1 - k = p := by omega
      have epy : y.size - 1 - k = p := by have := HXY.out; omega
      simp only [epx] at ex
      simp only [epy] at ey
      have b1 := HDX.out x[p] (by have e : x[p] = x.data.toList[p]'(by simpa using hpx) := rfl; rw [e]; exact List.getElem_mem _)
      have b2 := HDY.out y[p] (by have e : y[p] = y.data.toList[p]'(by simpa using hpy) := rfl; rw [e]; exact List.getElem_mem _)
      have b11 : (48 : Int) ≤ (x[p].toNat : Int) := by omega
      have b12 : (x[p].toNat : Int) ≤ 57 := by omega
      have b21 : (48 : Int) ≤ (y[p].toNat : Int) := by omega
      have b22 : (y[p].toNat : Int) ≤ 57 := by omega
      have hst := less_step (revD x) (revD y) d k c _ _ (by rw [revD_len]; exact hlt) (by rw [revD_len]; have := HXY.out; omega) HDL.out ex ey HI.out
      obtain ⟨nn, hnn⟩ : ∃ nn, (x[p].toNat : Int) - (y[p].toNat : Int) - c = nn := ⟨_, rfl⟩
      have hn0 : -10 ≤ nn := by omega
      have hn1 : nn ≤ 9 := by omega
      rw [show (10 + ((x[p].toNat : Int) - 48) - ((y[p].toNat : Int) - 48) - c) = 10 + nn by omega] at hst
      have HP := hide hp
      rw [hp]
      have hsz := HB.out.size
      have HTL := hide htl
      clear ex ey epx epy b1 b2 hp htl
      rcases (show nn < 0 ∨ 0 ≤ nn by omega) with hneg | hneg
      · rw [show (10 + nn) % 10 = nn + 10 by omega, show 1 - (10 + nn) / 10 = 1 by omega] at hst
        have HS := hide hst
        clear hst
        go_wp2
        go_quiet (fail)
        go_wp2_with (at_builtin; refine wpList_append_own _ rfl (.tmp 35) (.tmp 36) 22 rfl w.heap.size 5 i0 (.int .u8 0) 1 1 Tryd.underlying22 hi hz0 hz1 hz2 rfl (by decide) _ _ _ rfl (World.ownsRow_lit (base := w.heap.size) (e := 5) (size := 1) _ _ 1 (by simp; exact hsz) (by unfold maxLen; omega) rfl) ⟨g, 0, none⟩ _ _ ((txtL d).map (Value.int .u8)) rfl (by simp) (fun j u hj => src_cells HO.out _ _ j u hj) (one_cells8 _) (by rw [HTL.out]; unfold maxLen; omega) (by rw [HTL.out]; omega) (by simp; omega) ?_; intro v2 w2 hown2 hgrow2 hnil2; obtain ⟨g2, cap2, hv2⟩ := own_some hown2 (fun e => by have h9 := (hnil2.1 e).1; exact absurd h9 (by simp [Act.eval])); rw [hv2] at hown2 ⊢; clear hv2 hnil2; have HB2 := hide (grown_below (q := nq) HB.out hsz hgrow2); clear hgrow2; have HO2 := hide hown2; clear hown2)
        go_roundw
        case rel =>
          have hlen : (txtL (d ++ [nn + 10])).length = 1 + (txtL d).length := by rw [txtL_snoc, List.length_cons]; omega
          refine ⟨k + 1, 1, d ++ [nn + 10], g2, cap2, by rw [hlen], rfl, by have := HP.out; go_num, by omega, by omega, by omega, hide (by rw [List.length_append, HDL.out]; rfl), hide (ok_snoc HDO.out (by omega) (by omega)), HS, hide ?_, HB2⟩
          have ho := HO2.out
          rw [hlen, txtL_snoc]
          exact ho
        case measure => simp [intOf]
      · rw [show (10 + nn) % 10 = nn by omega, show 1 - (10 + nn) / 10 = 0 by omega] at hst
        have HS := hide hst
        clear hst
        go_wp2
        go_quiet (fail)
        go_wp2_with (at_builtin; refine wpList_append_own _ rfl (.tmp 35) (.tmp 36) 22 rfl w.heap.size 5 i0 (.int .u8 0) 1 1 Tryd.underlying22 hi hz0 hz1 hz2 rfl (by decide) _ _ _ rfl (World.ownsRow_lit (base := w.heap.size) (e := 5) (size := 1) _ _ 1 (by simp; exact hsz) (by unfold maxLen; omega) rfl) ⟨g, 0, none⟩ _ _ ((txtL d).map (Value.int .u8)) rfl (by simp) (fun j u hj => src_cells HO.out _ _ j u hj) (one_cells8 _) (by rw [HTL.out]; unfold maxLen; omega) (by rw [HTL.out]; omega) (by simp; omega) ?_; intro v2 w2 hown2 hgrow2 hnil2; obtain ⟨g2, cap2, hv2⟩ := own_some hown2 (fun e => by have h9 := (hnil2.1 e).1; exact absurd h9 (by simp [Act.eval])); rw [hv2] at hown2 ⊢; clear hv2 hnil2; have HB2 := hide (grown_below (q := nq) HB.out hsz hgrow2); clear hgrow2; have HO2 := hide hown2; clear hown2)
        go_roundw
        case rel =>
          have hlen : (txtL (d ++ [nn])).length = 1 + (txtL d).length := by rw [txtL_snoc, List.length_cons]; omega
          refine ⟨k + 1, 0, d ++ [nn], g2, cap2, by rw [hlen], rfl, by have := HP.out; go_num, by omega, by omega, by omega, hide (by rw [List.length_append, HDL.out]; rfl), hide (ok_snoc HDO.out (by omega) (by omega)), HS, hide ?_, HB2⟩
          have ho := HO2.out
          rw [hlen, txtL_snoc]
          exact ho
        case measure => simp [intOf]
    · have hge : (x.size : Int) - 1 - (k : Int) < 0 := by omega
      have HKK := hide (show k = x.size by omega)
      have hcv := conv_own8 d HO.out
      clear htl hlt hk
      have h3 := HI.out
      have tx : (revD x).take k = revD x := List.take_of_length_le (by rw [revD_len, HKK.out]; exact Nat.le_refl _)
      have ty : (revD y).take k = revD y := List.take_of_length_le (by rw [revD_len, HKK.out, HXY.out]; exact Nat.le_refl _)
      rw [tx, ty, revD_val x HDX.out, revD_val y HDY.out] at h3
      have hb := (rval_bound d HDO.out).2
      rw [HDL.out] at hb
      have hle := HLE.out
      have hc : c = 0 := pow_top (v := (valL x.data.toList : Int) - valL y.data.toList) (k := k) (by rw [show (valL x.data.toList : Int) - valL y.data.toList + 10 ^ k * c = rval d by omega]; exact hb) (by omega) hc0
      subst hc
      rw [Int.mul_zero] at h3
      have HV := hide (show rval d = (valL x.data.toList : Int) - valL y.data.toList by omega)
      clear h3 hb tx ty hle
      go_wp2
      go_ret
      obtain ⟨h1, h2⟩ := txt_val d HDO.out
      refine ⟨strOfNums (txtL d), by rw [strOfNums_size, txtL_len, HDL.out, HKK.out]; omega, h2, ?_, rfl, HB.out⟩
      have h4 : (valL (strOfNums (txtL d)).data.toList : Int) = rval d := h1
      have h5 := HV.out
      have hle := HLE.out
      omega
end Go.Proofs.YtdglamiifcagoabDoor
