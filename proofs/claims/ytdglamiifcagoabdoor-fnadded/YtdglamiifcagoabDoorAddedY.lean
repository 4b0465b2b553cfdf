/-
  The walk of FnAdded: at every two numbers.
-/
import Derived.Test.YtdglamiifcagoabDoorAddedW
import Derived.Deep.RegionHeld3
namespace Go.Proofs.YtdglamiifcagoabDoor
open Go.RowKit
set_option linter.unusedVariables false
set_option linter.unusedSimpArgs false
set_option maxRecDepth 100000 in
set_option maxHeartbeats 4000000 in
theorem added_walk (a : Option Addr) (n cap : Nat) (zs : List Int) (w : World) (hl : zs.length = n) (hz : ∀ x ∈ zs, 0 ≤ x ∧ x ≤ 255) (hn : n ≤ 1048576) (hs : SrcAt w a zs w.heap.size) :
    Calls Tryd.prog 3 #[.slice a n cap] w fun e w' => e = .returned (.bool true) ∧ Below w.heap.size w w' := by
  have HS := hide hs
  have HL := hide hl
  have HZ := hide hz
  clear hs hl hz
  go_enter Tryd.func3, Tryd.ntmps3
  go_wp2_with fail
  refine (l_big0 _ _ _ _ hn).mono ?_
  rintro e w0 ⟨rfl, rfl⟩
  go_wp2_with fail
  refine (d_add2 a n cap zs _ HL.out HZ.out hn HS.out).mono ?_
  rintro e w1 ⟨n1, s1, c1, n2, s2, c2, hz1, hz2, rfl, hb1⟩
  have H1 : Hid (s1.size ≤ maxLen) := by show s1.size ≤ maxLen; unfold maxLen; omega
  have H2 : Hid (s2.size ≤ maxLen) := by show s2.size ≤ maxLen; unfold maxLen; omega
  have HT : Hid (St w0 ((w1.alloc (.cells #[.bool n1, .string s1, .int .i64 c1] 25)).alloc (.cells #[.bool n2, .string s2, .int .i64 c2] 25)) [(w1.heap.size + 1, n2, s2, c2), (w1.heap.size, n1, s1, c1)]) := by
    have := st_push (st_push (st_nil hb1) n1 s1 c1 25) n2 s2 c2 25
    exact hide (by simpa using this)
  clear hb1 hz1 hz2 HS HL HZ
  obtain ⟨⟨n9, s9, c9, o9⟩, hR⟩ : ∃ R, addB n1 s1 c1 n2 s2 c2 = R := ⟨_, rfl⟩
  have ER := hide hR
  have hres : Hid (resV (n9, s9, c9, o9) = .tuple #[.agg #[.bool n9, .string s9, .int .i64 c9], .bool o9]) := hide rfl
  have HE : Hid ((⟨#[]⟩ : ByteArray).size ≤ maxLen) := by show (0 : Nat) ≤ maxLen; omega
  have hres1 : Hid (resV (n1, s1, c1, true) = .tuple #[.agg #[.bool n1, .string s1, .int .i64 c1], .bool true]) := hide rfl
  clear hR
  go_wp2_with fail
  refine (i_add _ _ _ _ _ _ _ H1.out H2.out).mono ?_
  rintro e w2 ⟨rfl, hb2⟩
  rw [ER.out, hres.out]
  replace HT := hide (st_push (st_go HT.out hb2) n9 s9 c9 25)
  clear hb2
  obtain ⟨a0, a1, a2⟩ := st_at HT.out (g := w1.heap.size) (n := n1) (s := s1) (c := c1) (by simp)
  obtain ⟨b0, b1, b2⟩ := st_at HT.out (g := w1.heap.size + 1) (n := n2) (s := s2) (c := c2) (by simp)
  go_wp2_with fail
  refine (s_add _ _ _ _ _ _ _ H1.out H2.out).mono ?_
  rintro e w3 ⟨rfl, hb3⟩
  rw [ER.out, hres.out]
  replace HT := hide (st_push (st_go HT.out hb3) n9 s9 c9 25)
  clear hb3 a0 a1 a2 b0 b1 b2
  obtain ⟨a0, a1, a2⟩ := st_at HT.out (g := w1.heap.size) (n := n1) (s := s1) (c := c1) (by simp)
  obtain ⟨b0, b1, b2⟩ := st_at HT.out (g := w1.heap.size + 1) (n := n2) (s := s2) (c := c2) (by simp)
  obtain ⟨d0, d1, d2⟩ := st_at HT.out (g := w2.heap.size) (n := n9) (s := s9) (c := c9) (by simp)
  cases o9
  · go_wp2
    go_ret
    exact ⟨rfl, HT.out.2⟩
  · have hr : decB n1 s1 c1 = true ∧ decB n2 s2 c2 = true := by
      by_cases h : decB n1 s1 c1 = true ∧ decB n2 s2 c2 = true
      · exact h
      · have := ER.out
        rw [addB, if_neg h] at this
        simp at this
    have HRR := hide hr
    have h9 : res60 (iv n1 s1 c1 + iv n2 s2 c2) = (n9, s9, c9, true) := by rw [← ER.out, addB_yes hr.1 hr.2]
    have HB9 := hide (res60_back h9)
    have hturn : addB n2 s2 c2 n1 s1 c1 = (n9, s9, c9, true) := by rw [addB_yes hr.2 hr.1, Int.add_comm, h9]
    have HTURN := hide hturn
    have H9 : Hid (s9.size ≤ maxLen) := by have := decB_bounds (res60_back h9).1; show s9.size ≤ maxLen; unfold maxLen; omega
    clear hr h9 hturn
    go_wp2_with fail
    refine (i_add _ _ _ _ _ _ _ H2.out H1.out).mono ?_
    rintro e w4 ⟨rfl, hb4⟩
    rw [HTURN.out, hres.out]
    replace HT := hide (st_push (st_go HT.out hb4) n9 s9 c9 25)
    clear hb4 a0 a1 a2 b0 b1 b2 d0 d1 d2
    obtain ⟨a0, a1, a2⟩ := st_at HT.out (g := w1.heap.size) (n := n1) (s := s1) (c := c1) (by simp)
    obtain ⟨b0, b1, b2⟩ := st_at HT.out (g := w1.heap.size + 1) (n := n2) (s := s2) (c := c2) (by simp)
    obtain ⟨d0, d1, d2⟩ := st_at HT.out (g := w2.heap.size) (n := n9) (s := s9) (c := c9) (by simp)
    by_cases h0 : s2.size = 0
    · obtain ⟨rfl, rfl, rfl, hiv⟩ := neg_none HRR.out.2 h0
      have hadd : addB n9 s9 c9 false ByteArray.empty 0 = (n1, s1, c1, true) := by rw [addB_yes HB9.out.1 HRR.out.2, HB9.out.2.1, hiv, Int.add_zero, Int.add_zero]; exact res60_self HRR.out.1
      have HADD := hide hadd
      clear hadd hiv h0
      go_wp2_with fail
      refine (i_add _ _ _ _ _ _ _ H9.out H2.out).mono ?_
      rintro e w5 ⟨rfl, hb5⟩
      rw [HADD.out, hres1.out]
      replace HT := hide (st_push (st_go HT.out hb5) n1 s1 c1 25)
      clear hb5 a0 a1 a2 b0 b1 b2 d0 d1 d2
      have hall : ∀ w', St w0 w' [(w5.heap.size, n1, s1, c1), (w4.heap.size, n9, s9, c9), (w3.heap.size, n9, s9, c9), (w2.heap.size, n9, s9, c9), (w1.heap.size + 1, false, ByteArray.empty, 0), (w1.heap.size, n1, s1, c1)] → (fun w' => St w0 w' [(w5.heap.size, n1, s1, c1), (w4.heap.size, n9, s9, c9), (w3.heap.size, n9, s9, c9), (w2.heap.size, n9, s9, c9), (w1.heap.size + 1, false, ByteArray.empty, 0), (w1.heap.size, n1, s1, c1)] ∧ (w'.cell? ⟨w4.heap.size, 0, none⟩ = some (.bool n9) ∧ w'.cell? ⟨w4.heap.size, 1, none⟩ = some (.string s9) ∧ w'.cell? ⟨w4.heap.size, 2, none⟩ = some (.int .i64 c9)) ∧ (w'.cell? ⟨w2.heap.size, 0, none⟩ = some (.bool n9) ∧ w'.cell? ⟨w2.heap.size, 1, none⟩ = some (.string s9) ∧ w'.cell? ⟨w2.heap.size, 2, none⟩ = some (.int .i64 c9)) ∧ (w'.cell? ⟨w5.heap.size, 0, none⟩ = some (.bool n1) ∧ w'.cell? ⟨w5.heap.size, 1, none⟩ = some (.string s1) ∧ w'.cell? ⟨w5.heap.size, 2, none⟩ = some (.int .i64 c1)) ∧ (w'.cell? ⟨w1.heap.size, 0, none⟩ = some (.bool n1) ∧ w'.cell? ⟨w1.heap.size, 1, none⟩ = some (.string s1) ∧ w'.cell? ⟨w1.heap.size, 2, none⟩ = some (.int .i64 c1)) ∧ w'.cell? ⟨w1.heap.size + 1, 0, none⟩ = some (.bool false) ∧ w'.cell? ⟨w1.heap.size + 1, 1, none⟩ = some (.string ByteArray.empty) ∧ w'.cell? ⟨w1.heap.size + 1, 2, none⟩ = some (.int .i64 0)) w' := fun w' h => ⟨h, st_at h (by simp), st_at h (by simp), st_at h (by simp), st_at h (by simp), st_at h (by simp)⟩
      have HALL := hide hall
      have hS0 := hall _ (st_drew HT.out)
      clear hall
      rcases Int.lt_trichotomy (iv false ByteArray.empty 0) 0 with hz | hz | hz
      · have V1 : cmpB n9 s9 c9 n1 s1 c1 = -1 := by rw [cmpB, if_pos ⟨HB9.out.1, HRR.out.1⟩, HB9.out.2.1]; exact cmpI_lt (by omega)
        have V2 : cmpB false ⟨#[]⟩ 0 false ByteArray.empty 0 = 1 := by rw [cmpB, if_pos ⟨dec_zero, HRR.out.2⟩, show iv false ⟨#[]⟩ 0 = 0 by simp [iv, mag, valL]]; exact cmpI_gt (by omega)
        have HV1 := hide V1
        have HV2 := hide V2
        clear V1 V2 hz
        go_wp2_with fail
        go_region_held3 (fun w' => St w0 w' [(w5.heap.size, n1, s1, c1), (w4.heap.size, n9, s9, c9), (w3.heap.size, n9, s9, c9), (w2.heap.size, n9, s9, c9), (w1.heap.size + 1, false, ByteArray.empty, 0), (w1.heap.size, n1, s1, c1)] ∧ (w'.cell? ⟨w4.heap.size, 0, none⟩ = some (.bool n9) ∧ w'.cell? ⟨w4.heap.size, 1, none⟩ = some (.string s9) ∧ w'.cell? ⟨w4.heap.size, 2, none⟩ = some (.int .i64 c9)) ∧ (w'.cell? ⟨w2.heap.size, 0, none⟩ = some (.bool n9) ∧ w'.cell? ⟨w2.heap.size, 1, none⟩ = some (.string s9) ∧ w'.cell? ⟨w2.heap.size, 2, none⟩ = some (.int .i64 c9)) ∧ (w'.cell? ⟨w5.heap.size, 0, none⟩ = some (.bool n1) ∧ w'.cell? ⟨w5.heap.size, 1, none⟩ = some (.string s1) ∧ w'.cell? ⟨w5.heap.size, 2, none⟩ = some (.int .i64 c1)) ∧ (w'.cell? ⟨w1.heap.size, 0, none⟩ = some (.bool n1) ∧ w'.cell? ⟨w1.heap.size, 1, none⟩ = some (.string s1) ∧ w'.cell? ⟨w1.heap.size, 2, none⟩ = some (.int .i64 c1)) ∧ w'.cell? ⟨w1.heap.size + 1, 0, none⟩ = some (.bool false) ∧ w'.cell? ⟨w1.heap.size + 1, 1, none⟩ = some (.string ByteArray.empty) ∧ w'.cell? ⟨w1.heap.size + 1, 2, none⟩ = some (.int .i64 0)) (first | assumption | exact HALL.out _ HX1.out | exact HALL.out _ HX2.out) (first | (go_at_call_of 8 (Value.string s9); refine (i_cmp n9 n1 s9 s1 c9 c1 _ H9.out H1.out).mono ?_; rintro e w6 ⟨rfl, hb6⟩; rw [HV1.out]; have HX1 := hide (st_go (And.left (by assumption)) hb6); clear hb6) | (go_at_call 8; refine (i_cmp false false ⟨#[]⟩ ByteArray.empty 0 0 _ HE.out H2.out).mono ?_; rintro e w7 ⟨rfl, hb7⟩; rw [HV2.out]; have HX2 := hide (st_go HX1.out hb7); clear hb7))
        all_goals
          go_wp2
          go_ret
          exact ⟨rfl, HX2.out.2⟩
      · have V1 : cmpB n9 s9 c9 n1 s1 c1 = 0 := by rw [cmpB, if_pos ⟨HB9.out.1, HRR.out.1⟩, HB9.out.2.1]; exact cmpI_eq (by omega)
        have V2 : cmpB false ⟨#[]⟩ 0 false ByteArray.empty 0 = 0 := by rw [cmpB, if_pos ⟨dec_zero, HRR.out.2⟩, show iv false ⟨#[]⟩ 0 = 0 by simp [iv, mag, valL]]; exact cmpI_eq (by omega)
        have HV1 := hide V1
        have HV2 := hide V2
        clear V1 V2 hz
        go_wp2_with fail
        go_region_held3 (fun w' => St w0 w' [(w5.heap.size, n1, s1, c1), (w4.heap.size, n9, s9, c9), (w3.heap.size, n9, s9, c9), (w2.heap.size, n9, s9, c9), (w1.heap.size + 1, false, ByteArray.empty, 0), (w1.heap.size, n1, s1, c1)] ∧ (w'.cell? ⟨w4.heap.size, 0, none⟩ = some (.bool n9) ∧ w'.cell? ⟨w4.heap.size, 1, none⟩ = some (.string s9) ∧ w'.cell? ⟨w4.heap.size, 2, none⟩ = some (.int .i64 c9)) ∧ (w'.cell? ⟨w2.heap.size, 0, none⟩ = some (.bool n9) ∧ w'.cell? ⟨w2.heap.size, 1, none⟩ = some (.string s9) ∧ w'.cell? ⟨w2.heap.size, 2, none⟩ = some (.int .i64 c9)) ∧ (w'.cell? ⟨w5.heap.size, 0, none⟩ = some (.bool n1) ∧ w'.cell? ⟨w5.heap.size, 1, none⟩ = some (.string s1) ∧ w'.cell? ⟨w5.heap.size, 2, none⟩ = some (.int .i64 c1)) ∧ (w'.cell? ⟨w1.heap.size, 0, none⟩ = some (.bool n1) ∧ w'.cell? ⟨w1.heap.size, 1, none⟩ = some (.string s1) ∧ w'.cell? ⟨w1.heap.size, 2, none⟩ = some (.int .i64 c1)) ∧ w'.cell? ⟨w1.heap.size + 1, 0, none⟩ = some (.bool false) ∧ w'.cell? ⟨w1.heap.size + 1, 1, none⟩ = some (.string ByteArray.empty) ∧ w'.cell? ⟨w1.heap.size + 1, 2, none⟩ = some (.int .i64 0)) (first | assumption | exact HALL.out _ HX1.out | exact HALL.out _ HX2.out) (first | (go_at_call_of 8 (Value.string s9); refine (i_cmp n9 n1 s9 s1 c9 c1 _ H9.out H1.out).mono ?_; rintro e w6 ⟨rfl, hb6⟩; rw [HV1.out]; have HX1 := hide (st_go (And.left (by assumption)) hb6); clear hb6) | (go_at_call 8; refine (i_cmp false false ⟨#[]⟩ ByteArray.empty 0 0 _ HE.out H2.out).mono ?_; rintro e w7 ⟨rfl, hb7⟩; rw [HV2.out]; have HX2 := hide (st_go HX1.out hb7); clear hb7))
        all_goals
          go_wp2
          go_ret
          exact ⟨rfl, HX2.out.2⟩
      · have V1 : cmpB n9 s9 c9 n1 s1 c1 = 1 := by rw [cmpB, if_pos ⟨HB9.out.1, HRR.out.1⟩, HB9.out.2.1]; exact cmpI_gt (by omega)
        have V2 : cmpB false ⟨#[]⟩ 0 false ByteArray.empty 0 = -1 := by rw [cmpB, if_pos ⟨dec_zero, HRR.out.2⟩, show iv false ⟨#[]⟩ 0 = 0 by simp [iv, mag, valL]]; exact cmpI_lt (by omega)
        have HV1 := hide V1
        have HV2 := hide V2
        clear V1 V2 hz
        go_wp2_with fail
        go_region_held3 (fun w' => St w0 w' [(w5.heap.size, n1, s1, c1), (w4.heap.size, n9, s9, c9), (w3.heap.size, n9, s9, c9), (w2.heap.size, n9, s9, c9), (w1.heap.size + 1, false, ByteArray.empty, 0), (w1.heap.size, n1, s1, c1)] ∧ (w'.cell? ⟨w4.heap.size, 0, none⟩ = some (.bool n9) ∧ w'.cell? ⟨w4.heap.size, 1, none⟩ = some (.string s9) ∧ w'.cell? ⟨w4.heap.size, 2, none⟩ = some (.int .i64 c9)) ∧ (w'.cell? ⟨w2.heap.size, 0, none⟩ = some (.bool n9) ∧ w'.cell? ⟨w2.heap.size, 1, none⟩ = some (.string s9) ∧ w'.cell? ⟨w2.heap.size, 2, none⟩ = some (.int .i64 c9)) ∧ (w'.cell? ⟨w5.heap.size, 0, none⟩ = some (.bool n1) ∧ w'.cell? ⟨w5.heap.size, 1, none⟩ = some (.string s1) ∧ w'.cell? ⟨w5.heap.size, 2, none⟩ = some (.int .i64 c1)) ∧ (w'.cell? ⟨w1.heap.size, 0, none⟩ = some (.bool n1) ∧ w'.cell? ⟨w1.heap.size, 1, none⟩ = some (.string s1) ∧ w'.cell? ⟨w1.heap.size, 2, none⟩ = some (.int .i64 c1)) ∧ w'.cell? ⟨w1.heap.size + 1, 0, none⟩ = some (.bool false) ∧ w'.cell? ⟨w1.heap.size + 1, 1, none⟩ = some (.string ByteArray.empty) ∧ w'.cell? ⟨w1.heap.size + 1, 2, none⟩ = some (.int .i64 0)) (first | assumption | exact HALL.out _ HX1.out | exact HALL.out _ HX2.out) (first | (go_at_call_of 8 (Value.string s9); refine (i_cmp n9 n1 s9 s1 c9 c1 _ H9.out H1.out).mono ?_; rintro e w6 ⟨rfl, hb6⟩; rw [HV1.out]; have HX1 := hide (st_go (And.left (by assumption)) hb6); clear hb6) | (go_at_call 8; refine (i_cmp false false ⟨#[]⟩ ByteArray.empty 0 0 _ HE.out H2.out).mono ?_; rintro e w7 ⟨rfl, hb7⟩; rw [HV2.out]; have HX2 := hide (st_go HX1.out hb7); clear hb7))
        all_goals
          go_wp2
          go_ret
          exact ⟨rfl, HX2.out.2⟩
    · have hne : s2.toList.isEmpty = false := ba_ne s2 h0
      obtain ⟨k1, k2⟩ := neg_some HRR.out.2 h0
      have hadd : addB n9 s9 c9 (!n2) s2 c2 = (n1, s1, c1, true) := by rw [addB_yes HB9.out.1 k1, HB9.out.2.1, k2, Int.add_neg_cancel_right]; exact res60_self HRR.out.1
      have HADD := hide hadd
      clear hadd k1 k2 h0
      go_wp2_with fail
      refine (i_add _ _ _ _ _ _ _ H9.out H2.out).mono ?_
      rintro e w5 ⟨rfl, hb5⟩
      rw [HADD.out, hres1.out]
      replace HT := hide (st_push (st_go HT.out hb5) n1 s1 c1 25)
      clear hb5 a0 a1 a2 b0 b1 b2 d0 d1 d2
      have hall : ∀ w', St w0 w' [(w5.heap.size, n1, s1, c1), (w4.heap.size, n9, s9, c9), (w3.heap.size, n9, s9, c9), (w2.heap.size, n9, s9, c9), (w1.heap.size + 1, n2, s2, c2), (w1.heap.size, n1, s1, c1)] → (fun w' => St w0 w' [(w5.heap.size, n1, s1, c1), (w4.heap.size, n9, s9, c9), (w3.heap.size, n9, s9, c9), (w2.heap.size, n9, s9, c9), (w1.heap.size + 1, n2, s2, c2), (w1.heap.size, n1, s1, c1)] ∧ (w'.cell? ⟨w4.heap.size, 0, none⟩ = some (.bool n9) ∧ w'.cell? ⟨w4.heap.size, 1, none⟩ = some (.string s9) ∧ w'.cell? ⟨w4.heap.size, 2, none⟩ = some (.int .i64 c9)) ∧ (w'.cell? ⟨w2.heap.size, 0, none⟩ = some (.bool n9) ∧ w'.cell? ⟨w2.heap.size, 1, none⟩ = some (.string s9) ∧ w'.cell? ⟨w2.heap.size, 2, none⟩ = some (.int .i64 c9)) ∧ (w'.cell? ⟨w5.heap.size, 0, none⟩ = some (.bool n1) ∧ w'.cell? ⟨w5.heap.size, 1, none⟩ = some (.string s1) ∧ w'.cell? ⟨w5.heap.size, 2, none⟩ = some (.int .i64 c1)) ∧ (w'.cell? ⟨w1.heap.size, 0, none⟩ = some (.bool n1) ∧ w'.cell? ⟨w1.heap.size, 1, none⟩ = some (.string s1) ∧ w'.cell? ⟨w1.heap.size, 2, none⟩ = some (.int .i64 c1)) ∧ w'.cell? ⟨w1.heap.size + 1, 0, none⟩ = some (.bool n2) ∧ w'.cell? ⟨w1.heap.size + 1, 1, none⟩ = some (.string s2) ∧ w'.cell? ⟨w1.heap.size + 1, 2, none⟩ = some (.int .i64 c2)) w' := fun w' h => ⟨h, st_at h (by simp), st_at h (by simp), st_at h (by simp), st_at h (by simp), st_at h (by simp)⟩
      have HALL := hide hall
      have hS0 := hall _ (st_drew HT.out)
      clear hall
      rcases Int.lt_trichotomy (iv n2 s2 c2) 0 with hz | hz | hz
      · have V1 : cmpB n9 s9 c9 n1 s1 c1 = -1 := by rw [cmpB, if_pos ⟨HB9.out.1, HRR.out.1⟩, HB9.out.2.1]; exact cmpI_lt (by omega)
        have V2 : cmpB false ⟨#[]⟩ 0 n2 s2 c2 = 1 := by rw [cmpB, if_pos ⟨dec_zero, HRR.out.2⟩, show iv false ⟨#[]⟩ 0 = 0 by simp [iv, mag, valL]]; exact cmpI_gt (by omega)
        have HV1 := hide V1
        have HV2 := hide V2
        clear V1 V2 hz
        go_wp2_with fail
        go_region_held3 (fun w' => St w0 w' [(w5.heap.size, n1, s1, c1), (w4.heap.size, n9, s9, c9), (w3.heap.size, n9, s9, c9), (w2.heap.size, n9, s9, c9), (w1.heap.size + 1, n2, s2, c2), (w1.heap.size, n1, s1, c1)] ∧ (w'.cell? ⟨w4.heap.size, 0, none⟩ = some (.bool n9) ∧ w'.cell? ⟨w4.heap.size, 1, none⟩ = some (.string s9) ∧ w'.cell? ⟨w4.heap.size, 2, none⟩ = some (.int .i64 c9)) ∧ (w'.cell? ⟨w2.heap.size, 0, none⟩ = some (.bool n9) ∧ w'.cell? ⟨w2.heap.size, 1, none⟩ = some (.string s9) ∧ w'.cell? ⟨w2.heap.size, 2, none⟩ = some (.int .i64 c9)) ∧ (w'.cell? ⟨w5.heap.size, 0, none⟩ = some (.bool n1) ∧ w'.cell? ⟨w5.heap.size, 1, none⟩ = some (.string s1) ∧ w'.cell? ⟨w5.heap.size, 2, none⟩ = some (.int .i64 c1)) ∧ (w'.cell? ⟨w1.heap.size, 0, none⟩ = some (.bool n1) ∧ w'.cell? ⟨w1.heap.size, 1, none⟩ = some (.string s1) ∧ w'.cell? ⟨w1.heap.size, 2, none⟩ = some (.int .i64 c1)) ∧ w'.cell? ⟨w1.heap.size + 1, 0, none⟩ = some (.bool n2) ∧ w'.cell? ⟨w1.heap.size + 1, 1, none⟩ = some (.string s2) ∧ w'.cell? ⟨w1.heap.size + 1, 2, none⟩ = some (.int .i64 c2)) (first | assumption | exact HALL.out _ HX1.out | exact HALL.out _ HX2.out) (first | (go_at_call_of 8 (Value.string s9); refine (i_cmp n9 n1 s9 s1 c9 c1 _ H9.out H1.out).mono ?_; rintro e w6 ⟨rfl, hb6⟩; rw [HV1.out]; have HX1 := hide (st_go (And.left (by assumption)) hb6); clear hb6) | (go_at_call 8; refine (i_cmp false n2 ⟨#[]⟩ s2 0 c2 _ HE.out H2.out).mono ?_; rintro e w7 ⟨rfl, hb7⟩; rw [HV2.out]; have HX2 := hide (st_go HX1.out hb7); clear hb7))
        all_goals
          go_wp2
          go_ret
          exact ⟨rfl, HX2.out.2⟩
      · have V1 : cmpB n9 s9 c9 n1 s1 c1 = 0 := by rw [cmpB, if_pos ⟨HB9.out.1, HRR.out.1⟩, HB9.out.2.1]; exact cmpI_eq (by omega)
        have V2 : cmpB false ⟨#[]⟩ 0 n2 s2 c2 = 0 := by rw [cmpB, if_pos ⟨dec_zero, HRR.out.2⟩, show iv false ⟨#[]⟩ 0 = 0 by simp [iv, mag, valL]]; exact cmpI_eq (by omega)
        have HV1 := hide V1
        have HV2 := hide V2
        clear V1 V2 hz
        go_wp2_with fail
        go_region_held3 (fun w' => St w0 w' [(w5.heap.size, n1, s1, c1), (w4.heap.size, n9, s9, c9), (w3.heap.size, n9, s9, c9), (w2.heap.size, n9, s9, c9), (w1.heap.size + 1, n2, s2, c2), (w1.heap.size, n1, s1, c1)] ∧ (w'.cell? ⟨w4.heap.size, 0, none⟩ = some (.bool n9) ∧ w'.cell? ⟨w4.heap.size, 1, none⟩ = some (.string s9) ∧ w'.cell? ⟨w4.heap.size, 2, none⟩ = some (.int .i64 c9)) ∧ (w'.cell? ⟨w2.heap.size, 0, none⟩ = some (.bool n9) ∧ w'.cell? ⟨w2.heap.size, 1, none⟩ = some (.string s9) ∧ w'.cell? ⟨w2.heap.size, 2, none⟩ = some (.int .i64 c9)) ∧ (w'.cell? ⟨w5.heap.size, 0, none⟩ = some (.bool n1) ∧ w'.cell? ⟨w5.heap.size, 1, none⟩ = some (.string s1) ∧ w'.cell? ⟨w5.heap.size, 2, none⟩ = some (.int .i64 c1)) ∧ (w'.cell? ⟨w1.heap.size, 0, none⟩ = some (.bool n1) ∧ w'.cell? ⟨w1.heap.size, 1, none⟩ = some (.string s1) ∧ w'.cell? ⟨w1.heap.size, 2, none⟩ = some (.int .i64 c1)) ∧ w'.cell? ⟨w1.heap.size + 1, 0, none⟩ = some (.bool n2) ∧ w'.cell? ⟨w1.heap.size + 1, 1, none⟩ = some (.string s2) ∧ w'.cell? ⟨w1.heap.size + 1, 2, none⟩ = some (.int .i64 c2)) (first | assumption | exact HALL.out _ HX1.out | exact HALL.out _ HX2.out) (first | (go_at_call_of 8 (Value.string s9); refine (i_cmp n9 n1 s9 s1 c9 c1 _ H9.out H1.out).mono ?_; rintro e w6 ⟨rfl, hb6⟩; rw [HV1.out]; have HX1 := hide (st_go (And.left (by assumption)) hb6); clear hb6) | (go_at_call 8; refine (i_cmp false n2 ⟨#[]⟩ s2 0 c2 _ HE.out H2.out).mono ?_; rintro e w7 ⟨rfl, hb7⟩; rw [HV2.out]; have HX2 := hide (st_go HX1.out hb7); clear hb7))
        all_goals
          go_wp2
          go_ret
          exact ⟨rfl, HX2.out.2⟩
      · have V1 : cmpB n9 s9 c9 n1 s1 c1 = 1 := by rw [cmpB, if_pos ⟨HB9.out.1, HRR.out.1⟩, HB9.out.2.1]; exact cmpI_gt (by omega)
        have V2 : cmpB false ⟨#[]⟩ 0 n2 s2 c2 = -1 := by rw [cmpB, if_pos ⟨dec_zero, HRR.out.2⟩, show iv false ⟨#[]⟩ 0 = 0 by simp [iv, mag, valL]]; exact cmpI_lt (by omega)
        have HV1 := hide V1
        have HV2 := hide V2
        clear V1 V2 hz
        go_wp2_with fail
        go_region_held3 (fun w' => St w0 w' [(w5.heap.size, n1, s1, c1), (w4.heap.size, n9, s9, c9), (w3.heap.size, n9, s9, c9), (w2.heap.size, n9, s9, c9), (w1.heap.size + 1, n2, s2, c2), (w1.heap.size, n1, s1, c1)] ∧ (w'.cell? ⟨w4.heap.size, 0, none⟩ = some (.bool n9) ∧ w'.cell? ⟨w4.heap.size, 1, none⟩ = some (.string s9) ∧ w'.cell? ⟨w4.heap.size, 2, none⟩ = some (.int .i64 c9)) ∧ (w'.cell? ⟨w2.heap.size, 0, none⟩ = some (.bool n9) ∧ w'.cell? ⟨w2.heap.size, 1, none⟩ = some (.string s9) ∧ w'.cell? ⟨w2.heap.size, 2, none⟩ = some (.int .i64 c9)) ∧ (w'.cell? ⟨w5.heap.size, 0, none⟩ = some (.bool n1) ∧ w'.cell? ⟨w5.heap.size, 1, none⟩ = some (.string s1) ∧ w'.cell? ⟨w5.heap.size, 2, none⟩ = some (.int .i64 c1)) ∧ (w'.cell? ⟨w1.heap.size, 0, none⟩ = some (.bool n1) ∧ w'.cell? ⟨w1.heap.size, 1, none⟩ = some (.string s1) ∧ w'.cell? ⟨w1.heap.size, 2, none⟩ = some (.int .i64 c1)) ∧ w'.cell? ⟨w1.heap.size + 1, 0, none⟩ = some (.bool n2) ∧ w'.cell? ⟨w1.heap.size + 1, 1, none⟩ = some (.string s2) ∧ w'.cell? ⟨w1.heap.size + 1, 2, none⟩ = some (.int .i64 c2)) (first | assumption | exact HALL.out _ HX1.out | exact HALL.out _ HX2.out) (first | (go_at_call_of 8 (Value.string s9); refine (i_cmp n9 n1 s9 s1 c9 c1 _ H9.out H1.out).mono ?_; rintro e w6 ⟨rfl, hb6⟩; rw [HV1.out]; have HX1 := hide (st_go (And.left (by assumption)) hb6); clear hb6) | (go_at_call 8; refine (i_cmp false n2 ⟨#[]⟩ s2 0 c2 _ HE.out H2.out).mono ?_; rintro e w7 ⟨rfl, hb7⟩; rw [HV2.out]; have HX2 := hide (st_go HX1.out hb7); clear hb7))
        all_goals
          go_wp2
          go_ret
          exact ⟨rfl, HX2.out.2⟩
end Go.Proofs.YtdglamiifcagoabDoor
