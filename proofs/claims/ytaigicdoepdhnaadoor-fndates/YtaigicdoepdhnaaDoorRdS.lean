/-
  Contract: the specification's ReadDate.
-/
import Derived.Test.YtaigicdoepdhnaaDoorRdD
import Derived.Test.YtaigicdoepdhnaaDoorRdMath3
namespace Go.Proofs.YtaigicdoepdhnaaDoor
open Go.RowKit
set_option linter.unusedSimpArgs false
set_option linter.unusedVariables false
theorem rd_two {w w3 : World} {y mo d h mi s : Int} {g : Bool} {z : Int} {T : TypeId} (hx : Below ((w.alloc (.cells #[.int .i64 0, .int .i64 0, .int .i64 0, .int .i64 0, .int .i64 0, .int .i64 0, .bool false, .int .i64 0] T)).alloc (.cells #[.int .i64 y, .int .i64 mo, .int .i64 d, .int .i64 h, .int .i64 mi, .int .i64 s, .bool g, .int .i64 z] T)).heap.size ((w.alloc (.cells #[.int .i64 0, .int .i64 0, .int .i64 0, .int .i64 0, .int .i64 0, .int .i64 0, .bool false, .int .i64 0] T)).alloc (.cells #[.int .i64 y, .int .i64 mo, .int .i64 d, .int .i64 h, .int .i64 mi, .int .i64 s, .bool g, .int .i64 z] T)) w3) : RdIn w w3 ∧ HeldD w3 (w.heap.size + 1) y mo d h mi s g z := by
  have s1 : (w.alloc (.cells #[.int .i64 0, .int .i64 0, .int .i64 0, .int .i64 0, .int .i64 0, .int .i64 0, .bool false, .int .i64 0] T)).heap.size = w.heap.size + 1 := by simp
  have n1 := heldD_new w 0 0 0 0 0 0 false 0 T
  have n2 := heldD_new (w.alloc (.cells #[.int .i64 0, .int .i64 0, .int .i64 0, .int .i64 0, .int .i64 0, .int .i64 0, .bool false, .int .i64 0] T)) y mo d h mi s g z T
  rw [s1] at n2
  exact ⟨⟨heldD_below (heldD_alloc n1 _) hx, below_go (((Below.refl _ _).alloc (Nat.le_refl _) _).alloc (by simp) _) hx⟩, heldD_below n2 hx⟩
theorem below_two (w : World) (o p : Obj) : Below w.heap.size w ((w.alloc o).alloc p) := ((Below.refl _ _).alloc (Nat.le_refl _) _).alloc (by simp) _
theorem s_p0 (s : ByteArray) (w : World) (hs : s.size ≤ 1048576) : Calls Tryd.prog 27 #[.string s, .int .i64 0, .int .i64 4] w fun e w' => e = .returned (.int .i64 (partV s 0 4)) ∧ w' = w := s_part s 0 4 w hs (by omega) (by omega)
theorem s_p1 (s : ByteArray) (w : World) (hs : s.size ≤ 1048576) : Calls Tryd.prog 27 #[.string s, .int .i64 5, .int .i64 2] w fun e w' => e = .returned (.int .i64 (partV s 5 2)) ∧ w' = w := s_part s 5 2 w hs (by omega) (by omega)
theorem s_p2 (s : ByteArray) (w : World) (hs : s.size ≤ 1048576) : Calls Tryd.prog 27 #[.string s, .int .i64 8, .int .i64 2] w fun e w' => e = .returned (.int .i64 (partV s 8 2)) ∧ w' = w := s_part s 8 2 w hs (by omega) (by omega)
theorem s_p3 (s : ByteArray) (w : World) (hs : s.size ≤ 1048576) : Calls Tryd.prog 27 #[.string s, .int .i64 11, .int .i64 2] w fun e w' => e = .returned (.int .i64 (partV s 11 2)) ∧ w' = w := s_part s 11 2 w hs (by omega) (by omega)
theorem s_p4 (s : ByteArray) (w : World) (hs : s.size ≤ 1048576) : Calls Tryd.prog 27 #[.string s, .int .i64 14, .int .i64 2] w fun e w' => e = .returned (.int .i64 (partV s 14 2)) ∧ w' = w := s_part s 14 2 w hs (by omega) (by omega)
theorem s_p5 (s : ByteArray) (w : World) (hs : s.size ≤ 1048576) : Calls Tryd.prog 27 #[.string s, .int .i64 17, .int .i64 2] w fun e w' => e = .returned (.int .i64 (partV s 17 2)) ∧ w' = w := s_part s 17 2 w hs (by omega) (by omega)
theorem s_pz1 (s : ByteArray) (w : World) (hs : s.size ≤ 1048576) : Calls Tryd.prog 27 #[.string s, .int .i64 1, .int .i64 2] w fun e w' => e = .returned (.int .i64 (partV s 1 2)) ∧ w' = w := s_part s 1 2 w hs (by omega) (by omega)
theorem s_pz4 (s : ByteArray) (w : World) (hs : s.size ≤ 1048576) : Calls Tryd.prog 27 #[.string s, .int .i64 4, .int .i64 2] w fun e w' => e = .returned (.int .i64 (partV s 4 2)) ∧ w' = w := s_part s 4 2 w hs (by omega) (by omega)
theorem rd_bad {s t : ByteArray} (h : 19 ≤ s.size) (q : hdrB s = true) (ht : tailA s = t) (h0 : ¬ t.size = 0) (hz : ¬ t = ⟨#[90]⟩) (k : zS t = false) : rdOk s = false := by
  rw [rd_parts h q, ht]
  rcases zone_no h0 hz k with e | e
  · rw [e]; rfl
  · rw [partsB, dateB_zone e]; simp
theorem rd_val {s : ByteArray} {g : Bool} {z : Int} (h : 19 ≤ s.size) (q : rdOk s = true) (hz : zI (tailA s) = (g, z, true)) : rdV s = .tuple #[.agg #[.int .i64 (partV s 0 4), .int .i64 (partV s 5 2), .int .i64 (partV s 8 2), .int .i64 (partV s 11 2), .int .i64 (partV s 14 2), .int .i64 (partV s 17 2), .bool g, .int .i64 z], .bool true] := by
  obtain ⟨e0, e1, e2, e3, e4, e5⟩ := rd_fields h q
  unfold rdV
  rw [if_pos q, hz, e0, e1, e2, e3, e4, e5]
set_option maxHeartbeats 8000000 in
theorem s_rdate (s : ByteArray) (w : World) (hs : s.size ≤ 1048576) : Calls Tryd.prog 11 #[.string s] w fun e w' => e = .returned (rdV s) ∧ Below w.heap.size w w' := by
  by_cases hsz : s.size < 19
  · have HV := hide (rdV_no (rd_short hsz))
    go_enter Tryd.func11, Tryd.ntmps11
    go_wp2
    exact bodyPost_ret (v := .tuple #[.agg #[.int .i64 0, .int .i64 0, .int .i64 0, .int .i64 0, .int .i64 0, .int .i64 0, .bool false, .int .i64 0], .bool false]) (by simp [results, Tryd.results11, go_sem]) rfl ⟨by rw [HV.out], below_box _ _⟩
  · have h19 : 19 ≤ s.size := by omega
    have h19i : ¬ ((s.size : Int) < 19) := by omega
    have h19j : (19 : Int) ≤ (s.size : Int) := by omega
    have h4i : (4 : Int) < (s.size : Int) := by omega
    have HA4 := hide (at8_eq s 4 (by omega))
    by_cases hc4 : (s[4].toNat : Int) = 45
    rotate_left
    · have HE : decide (at8 s 4 = 45) = false := decide_eq_false (by rw [HA4.out]; exact hc4)
      have HV := hide (rdV_no (rd_hdr h19 (show hdrB s = false by simp [hdrB, HE])))
      clear HE
      have hcb : ((s[4].toNat : Int) != 45) = true := by simpa using hc4
      clear hc4
      go_enter Tryd.func11, Tryd.ntmps11
      go_wp2
      exact bodyPost_ret (v := .tuple #[.agg #[.int .i64 0, .int .i64 0, .int .i64 0, .int .i64 0, .int .i64 0, .int .i64 0, .bool false, .int .i64 0], .bool false]) (by simp [results, Tryd.results11, go_sem]) rfl ⟨by rw [HV.out], below_box _ _⟩
    have HC4 := hide hc4
    have hb4 : ((s[4].toNat : Int) != 45) = false := by simpa using hc4
    clear hc4
    have h7i : (7 : Int) < (s.size : Int) := by omega
    have HA7 := hide (at8_eq s 7 (by omega))
    by_cases hc7 : (s[7].toNat : Int) = 45
    rotate_left
    · have HE : decide (at8 s 7 = 45) = false := decide_eq_false (by rw [HA7.out]; exact hc7)
      have HV := hide (rdV_no (rd_hdr h19 (show hdrB s = false by simp [hdrB, HE])))
      clear HE
      have hcb : ((s[7].toNat : Int) != 45) = true := by simpa using hc7
      clear hc7
      go_enter Tryd.func11, Tryd.ntmps11
      go_wp2
      exact bodyPost_ret (v := .tuple #[.agg #[.int .i64 0, .int .i64 0, .int .i64 0, .int .i64 0, .int .i64 0, .int .i64 0, .bool false, .int .i64 0], .bool false]) (by simp [results, Tryd.results11, go_sem]) rfl ⟨by rw [HV.out], below_box _ _⟩
    have HC7 := hide hc7
    have hb7 : ((s[7].toNat : Int) != 45) = false := by simpa using hc7
    clear hc7
    have h10i : (10 : Int) < (s.size : Int) := by omega
    have HA10 := hide (at8_eq s 10 (by omega))
    by_cases hc10 : (s[10].toNat : Int) = 84
    rotate_left
    · have HE : decide (at8 s 10 = 84) = false := decide_eq_false (by rw [HA10.out]; exact hc10)
      have HV := hide (rdV_no (rd_hdr h19 (show hdrB s = false by simp [hdrB, HE])))
      clear HE
      have hcb : ((s[10].toNat : Int) != 84) = true := by simpa using hc10
      clear hc10
      go_enter Tryd.func11, Tryd.ntmps11
      go_wp2
      exact bodyPost_ret (v := .tuple #[.agg #[.int .i64 0, .int .i64 0, .int .i64 0, .int .i64 0, .int .i64 0, .int .i64 0, .bool false, .int .i64 0], .bool false]) (by simp [results, Tryd.results11, go_sem]) rfl ⟨by rw [HV.out], below_box _ _⟩
    have HC10 := hide hc10
    have hb10 : ((s[10].toNat : Int) != 84) = false := by simpa using hc10
    clear hc10
    have h13i : (13 : Int) < (s.size : Int) := by omega
    have HA13 := hide (at8_eq s 13 (by omega))
    by_cases hc13 : (s[13].toNat : Int) = 58
    rotate_left
    · have HE : decide (at8 s 13 = 58) = false := decide_eq_false (by rw [HA13.out]; exact hc13)
      have HV := hide (rdV_no (rd_hdr h19 (show hdrB s = false by simp [hdrB, HE])))
      clear HE
      have hcb : ((s[13].toNat : Int) != 58) = true := by simpa using hc13
      clear hc13
      go_enter Tryd.func11, Tryd.ntmps11
      go_wp2
      exact bodyPost_ret (v := .tuple #[.agg #[.int .i64 0, .int .i64 0, .int .i64 0, .int .i64 0, .int .i64 0, .int .i64 0, .bool false, .int .i64 0], .bool false]) (by simp [results, Tryd.results11, go_sem]) rfl ⟨by rw [HV.out], below_box _ _⟩
    have HC13 := hide hc13
    have hb13 : ((s[13].toNat : Int) != 58) = false := by simpa using hc13
    clear hc13
    have h16i : (16 : Int) < (s.size : Int) := by omega
    have HA16 := hide (at8_eq s 16 (by omega))
    by_cases hc16 : (s[16].toNat : Int) = 58
    rotate_left
    · have HE : decide (at8 s 16 = 58) = false := decide_eq_false (by rw [HA16.out]; exact hc16)
      have HV := hide (rdV_no (rd_hdr h19 (show hdrB s = false by simp [hdrB, HE])))
      clear HE
      have hcb : ((s[16].toNat : Int) != 58) = true := by simpa using hc16
      clear hc16
      go_enter Tryd.func11, Tryd.ntmps11
      go_wp2
      exact bodyPost_ret (v := .tuple #[.agg #[.int .i64 0, .int .i64 0, .int .i64 0, .int .i64 0, .int .i64 0, .int .i64 0, .bool false, .int .i64 0], .bool false]) (by simp [results, Tryd.results11, go_sem]) rfl ⟨by rw [HV.out], below_box _ _⟩
    have HC16 := hide hc16
    have hb16 : ((s[16].toNat : Int) != 58) = false := by simpa using hc16
    clear hc16
    have HH : Hid (hdrB s = true) := hide (by simp [hdrB, HA4.out, HA7.out, HA10.out, HA13.out, HA16.out, HC4.out, HC7.out, HC10.out, HC13.out, HC16.out])
    have HPT := hide (rd_parts h19 HH.out)
    by_cases hss : s.size = 19
    · have HZI : Hid (zI (tailA s) = (false, 0, true)) := hide (by
        have e : (tailA s).size = 0 := by unfold tailA; rw [ext_size s 19 s.size (by omega)]; omega
        unfold zI; rw [if_pos e])
      cases hdb : dateB (partV s 0 4) (partV s 5 2) (partV s 8 2) (partV s 11 2) (partV s 14 2) (partV s 17 2) false (0)
      · have HV := hide (rdV_no (show rdOk s = false by rw [HPT.out, HZI.out]; exact hdb))
        go_enter Tryd.func11, Tryd.ntmps11
        go_wp2_with fail
        refine (s_p0 s _ hs).mono ?_
        rintro e w' ⟨rfl, rfl⟩
        go_wp2_with fail
        refine (s_p1 s _ hs).mono ?_
        rintro e w' ⟨rfl, rfl⟩
        go_wp2_with fail
        refine (s_p2 s _ hs).mono ?_
        rintro e w' ⟨rfl, rfl⟩
        go_wp2_with fail
        refine (s_p3 s _ hs).mono ?_
        rintro e w' ⟨rfl, rfl⟩
        go_wp2_with fail
        refine (s_p4 s _ hs).mono ?_
        rintro e w' ⟨rfl, rfl⟩
        go_wp2_with fail
        refine (s_p5 s _ hs).mono ?_
        rintro e w' ⟨rfl, rfl⟩
        go_wp2_with fail
        refine (s_dateok (partV s 0 4) (partV s 5 2) (partV s 8 2) (partV s 11 2) (partV s 14 2) (partV s 17 2) false (0) _).mono ?_
        rw [hdb]
        rintro e w3 ⟨rfl, hb3⟩
        obtain ⟨hri, hq⟩ := rd_two hb3
        have HI4 := hide hri
        clear hb3 hri hq
        obtain ⟨⟨r0, r1, r2, r3, r4, r5, r6, r7⟩, f0, f1, f2, f3, f4, f5, f6, f7⟩ := heldD_cells HI4.out.1
        have HZ := hide (heldD_cells (heldD_set HI4.out.1 0 0 0 0 0 0 false 0)).1
        go_wp2
        obtain ⟨q0, q1, q2, q3, q4, q5, q6, q7⟩ := HZ.out
        exact bodyPost_ret (v := .tuple #[.agg #[.int .i64 0, .int .i64 0, .int .i64 0, .int .i64 0, .int .i64 0, .int .i64 0, .bool false, .int .i64 0], .bool false]) (by simp [results, Tryd.results11, go_sem, q0, q1, q2, q3, q4, q5, q6, q7]) rfl ⟨by rw [HV.out], below_set8 HI4.out.2 (Nat.le_refl _) _ _ _ _ _ _ _ _⟩
      · have HV := hide (rd_val h19 (show rdOk s = true by rw [HPT.out, HZI.out]; exact hdb) HZI.out)
        go_enter Tryd.func11, Tryd.ntmps11
        go_wp2_with fail
        refine (s_p0 s _ hs).mono ?_
        rintro e w' ⟨rfl, rfl⟩
        go_wp2_with fail
        refine (s_p1 s _ hs).mono ?_
        rintro e w' ⟨rfl, rfl⟩
        go_wp2_with fail
        refine (s_p2 s _ hs).mono ?_
        rintro e w' ⟨rfl, rfl⟩
        go_wp2_with fail
        refine (s_p3 s _ hs).mono ?_
        rintro e w' ⟨rfl, rfl⟩
        go_wp2_with fail
        refine (s_p4 s _ hs).mono ?_
        rintro e w' ⟨rfl, rfl⟩
        go_wp2_with fail
        refine (s_p5 s _ hs).mono ?_
        rintro e w' ⟨rfl, rfl⟩
        go_wp2_with fail
        refine (s_dateok (partV s 0 4) (partV s 5 2) (partV s 8 2) (partV s 11 2) (partV s 14 2) (partV s 17 2) false (0) _).mono ?_
        rw [hdb]
        rintro e w3 ⟨rfl, hb3⟩
        obtain ⟨hri, hq⟩ := rd_two hb3
        have HI4 := hide hri
        have HQ4 := hide hq
        clear hb3 hri hq
        obtain ⟨⟨r0, r1, r2, r3, r4, r5, r6, r7⟩, f0, f1, f2, f3, f4, f5, f6, f7⟩ := heldD_cells HI4.out.1
        obtain ⟨⟨a0, a1, a2, a3, a4, a5, a6, a7⟩, _⟩ := heldD_cells HQ4.out
        have HZ := hide (heldD_cells (heldD_set HI4.out.1 (partV s 0 4) (partV s 5 2) (partV s 8 2) (partV s 11 2) (partV s 14 2) (partV s 17 2) false (0))).1
        go_wp2
        obtain ⟨q0, q1, q2, q3, q4, q5, q6, q7⟩ := HZ.out
        exact bodyPost_ret (v := .tuple #[.agg #[.int .i64 (partV s 0 4), .int .i64 (partV s 5 2), .int .i64 (partV s 8 2), .int .i64 (partV s 11 2), .int .i64 (partV s 14 2), .int .i64 (partV s 17 2), .bool false, .int .i64 (0)], .bool true]) (by simp [results, Tryd.results11, go_sem, q0, q1, q2, q3, q4, q5, q6, q7]) rfl ⟨by rw [HV.out], below_set8 HI4.out.2 (Nat.le_refl _) _ _ _ _ _ _ _ _⟩
    · obtain ⟨t, htl⟩ : ∃ t, s.extract 19 s.size = t := ⟨_, rfl⟩
      have HTL : Hid (tailA s = t) := hide htl
      have hts : t.size ≤ 1048576 := by rw [← htl, ext_size s 19 s.size (by omega)]; omega
      have htp : 0 < t.size := by rw [← htl, ext_size s 19 s.size (by omega)]; omega
      have ht0 : ¬ t.size = 0 := by omega
      have hte := isE htp
      by_cases hz : t = ⟨#[90]⟩
      · have hzb := isZ1 hz
        have HZI : Hid (zI (tailA s) = (true, 0, true)) := hide (by rw [HTL.out]; unfold zI; rw [if_neg ht0, if_pos hz])
        clear hz
        cases hdb : dateB (partV s 0 4) (partV s 5 2) (partV s 8 2) (partV s 11 2) (partV s 14 2) (partV s 17 2) true (0)
        · have HV := hide (rdV_no (show rdOk s = false by rw [HPT.out, HZI.out]; exact hdb))
          go_enter Tryd.func11, Tryd.ntmps11
          go_wp2_with fail
          refine (s_p0 s _ hs).mono ?_
          rintro e w' ⟨rfl, rfl⟩
          go_wp2_with fail
          refine (s_p1 s _ hs).mono ?_
          rintro e w' ⟨rfl, rfl⟩
          go_wp2_with fail
          refine (s_p2 s _ hs).mono ?_
          rintro e w' ⟨rfl, rfl⟩
          go_wp2_with fail
          refine (s_p3 s _ hs).mono ?_
          rintro e w' ⟨rfl, rfl⟩
          go_wp2_with fail
          refine (s_p4 s _ hs).mono ?_
          rintro e w' ⟨rfl, rfl⟩
          go_wp2_with fail
          refine (s_p5 s _ hs).mono ?_
          rintro e w' ⟨rfl, rfl⟩
          go_wp2_with fail
          refine (s_dateok (partV s 0 4) (partV s 5 2) (partV s 8 2) (partV s 11 2) (partV s 14 2) (partV s 17 2) true (0) _).mono ?_
          rw [hdb]
          rintro e w3 ⟨rfl, hb3⟩
          obtain ⟨hri, hq⟩ := rd_two hb3
          have HI4 := hide hri
          clear hb3 hri hq
          obtain ⟨⟨r0, r1, r2, r3, r4, r5, r6, r7⟩, f0, f1, f2, f3, f4, f5, f6, f7⟩ := heldD_cells HI4.out.1
          have HZ := hide (heldD_cells (heldD_set HI4.out.1 0 0 0 0 0 0 false 0)).1
          go_wp2
          obtain ⟨q0, q1, q2, q3, q4, q5, q6, q7⟩ := HZ.out
          exact bodyPost_ret (v := .tuple #[.agg #[.int .i64 0, .int .i64 0, .int .i64 0, .int .i64 0, .int .i64 0, .int .i64 0, .bool false, .int .i64 0], .bool false]) (by simp [results, Tryd.results11, go_sem, q0, q1, q2, q3, q4, q5, q6, q7]) rfl ⟨by rw [HV.out], below_set8 HI4.out.2 (Nat.le_refl _) _ _ _ _ _ _ _ _⟩
        · have HV := hide (rd_val h19 (show rdOk s = true by rw [HPT.out, HZI.out]; exact hdb) HZI.out)
          go_enter Tryd.func11, Tryd.ntmps11
          go_wp2_with fail
          refine (s_p0 s _ hs).mono ?_
          rintro e w' ⟨rfl, rfl⟩
          go_wp2_with fail
          refine (s_p1 s _ hs).mono ?_
          rintro e w' ⟨rfl, rfl⟩
          go_wp2_with fail
          refine (s_p2 s _ hs).mono ?_
          rintro e w' ⟨rfl, rfl⟩
          go_wp2_with fail
          refine (s_p3 s _ hs).mono ?_
          rintro e w' ⟨rfl, rfl⟩
          go_wp2_with fail
          refine (s_p4 s _ hs).mono ?_
          rintro e w' ⟨rfl, rfl⟩
          go_wp2_with fail
          refine (s_p5 s _ hs).mono ?_
          rintro e w' ⟨rfl, rfl⟩
          go_wp2_with fail
          refine (s_dateok (partV s 0 4) (partV s 5 2) (partV s 8 2) (partV s 11 2) (partV s 14 2) (partV s 17 2) true (0) _).mono ?_
          rw [hdb]
          rintro e w3 ⟨rfl, hb3⟩
          obtain ⟨hri, hq⟩ := rd_two hb3
          have HI4 := hide hri
          have HQ4 := hide hq
          clear hb3 hri hq
          obtain ⟨⟨r0, r1, r2, r3, r4, r5, r6, r7⟩, f0, f1, f2, f3, f4, f5, f6, f7⟩ := heldD_cells HI4.out.1
          obtain ⟨⟨a0, a1, a2, a3, a4, a5, a6, a7⟩, _⟩ := heldD_cells HQ4.out
          have HZ := hide (heldD_cells (heldD_set HI4.out.1 (partV s 0 4) (partV s 5 2) (partV s 8 2) (partV s 11 2) (partV s 14 2) (partV s 17 2) true (0))).1
          go_wp2
          obtain ⟨q0, q1, q2, q3, q4, q5, q6, q7⟩ := HZ.out
          exact bodyPost_ret (v := .tuple #[.agg #[.int .i64 (partV s 0 4), .int .i64 (partV s 5 2), .int .i64 (partV s 8 2), .int .i64 (partV s 11 2), .int .i64 (partV s 14 2), .int .i64 (partV s 17 2), .bool true, .int .i64 (0)], .bool true]) (by simp [results, Tryd.results11, go_sem, q0, q1, q2, q3, q4, q5, q6, q7]) rfl ⟨by rw [HV.out], below_set8 HI4.out.2 (Nat.le_refl _) _ _ _ _ _ _ _ _⟩
      · have hzb := isZ hz
        have HNZ := hide hz
        clear hz
        by_cases h6 : t.size = 6
        rotate_left
        · have h6b : ((t.size : Int) != 6) = true := by simp; omega
          have HV := hide (rdV_no (rd_bad h19 HH.out HTL.out ht0 HNZ.out (show zS t = false by simp [zS, h6])))
          go_enter Tryd.func11, Tryd.ntmps11
          go_wp2_with fail
          refine (s_p0 s _ hs).mono ?_
          rintro e w' ⟨rfl, rfl⟩
          go_wp2_with fail
          refine (s_p1 s _ hs).mono ?_
          rintro e w' ⟨rfl, rfl⟩
          go_wp2_with fail
          refine (s_p2 s _ hs).mono ?_
          rintro e w' ⟨rfl, rfl⟩
          go_wp2_with fail
          refine (s_p3 s _ hs).mono ?_
          rintro e w' ⟨rfl, rfl⟩
          go_wp2_with fail
          refine (s_p4 s _ hs).mono ?_
          rintro e w' ⟨rfl, rfl⟩
          go_wp2_with fail
          refine (s_p5 s _ hs).mono ?_
          rintro e w' ⟨rfl, rfl⟩
          go_wp2_with fail
          refine (s_pz1 t _ hts).mono ?_
          rintro e w' ⟨rfl, rfl⟩
          go_wp2_with fail
          refine (s_pz4 t _ hts).mono ?_
          rintro e w' ⟨rfl, rfl⟩
          go_wp2
          exact bodyPost_ret (v := .tuple #[.agg #[.int .i64 0, .int .i64 0, .int .i64 0, .int .i64 0, .int .i64 0, .int .i64 0, .bool false, .int .i64 0], .bool false]) (by simp [results, Tryd.results11, go_sem]) rfl ⟨by rw [HV.out], below_two _ _ _⟩
        have h6b : ((t.size : Int) != 6) = false := by simp; omega
        have i0 : (0 : Int) < (t.size : Int) := by omega
        have i3 : (3 : Int) < (t.size : Int) := by omega
        have HT0 := hide (at8_eq t 0 (by omega))
        have HT3 := hide (at8_eq t 3 (by omega))
        by_cases hsg : at8 t 0 = 43 ∨ at8 t 0 = 45
        rotate_left
        · have g1 : ((t[0].toNat : Int) != 43) = true := by rw [← HT0.out]; simp; omega
          have g2 : ((t[0].toNat : Int) != 45) = true := by rw [← HT0.out]; simp; omega
          have HV := hide (rdV_no (rd_bad h19 HH.out HTL.out ht0 HNZ.out (show zS t = false by simp [zS, hsg])))
          go_enter Tryd.func11, Tryd.ntmps11
          go_wp2_with fail
          refine (s_p0 s _ hs).mono ?_
          rintro e w' ⟨rfl, rfl⟩
          go_wp2_with fail
          refine (s_p1 s _ hs).mono ?_
          rintro e w' ⟨rfl, rfl⟩
          go_wp2_with fail
          refine (s_p2 s _ hs).mono ?_
          rintro e w' ⟨rfl, rfl⟩
          go_wp2_with fail
          refine (s_p3 s _ hs).mono ?_
          rintro e w' ⟨rfl, rfl⟩
          go_wp2_with fail
          refine (s_p4 s _ hs).mono ?_
          rintro e w' ⟨rfl, rfl⟩
          go_wp2_with fail
          refine (s_p5 s _ hs).mono ?_
          rintro e w' ⟨rfl, rfl⟩
          go_wp2_with fail
          refine (s_pz1 t _ hts).mono ?_
          rintro e w' ⟨rfl, rfl⟩
          go_wp2_with fail
          refine (s_pz4 t _ hts).mono ?_
          rintro e w' ⟨rfl, rfl⟩
          go_wp2
          exact bodyPost_ret (v := .tuple #[.agg #[.int .i64 0, .int .i64 0, .int .i64 0, .int .i64 0, .int .i64 0, .int .i64 0, .bool false, .int .i64 0], .bool false]) (by simp [results, Tryd.results11, go_sem]) rfl ⟨by rw [HV.out], below_two _ _ _⟩
        by_cases h3 : at8 t 3 = 58
        rotate_left
        · have g3 : ((t[3].toNat : Int) != 58) = true := by rw [← HT3.out]; simpa using h3
          have hsg2 : (t[0].toNat : Int) = 43 ∨ (t[0].toNat : Int) = 45 := by rw [← HT0.out]; exact hsg
          have HZF : Hid (zS t = false) := hide (by simp [zS, h3])
          clear hsg h3
          rcases hsg2 with hsg2 | hsg2
          all_goals
            have HV := hide (rdV_no (rd_bad h19 HH.out HTL.out ht0 HNZ.out (show zS t = false by exact HZF.out)))
            go_enter Tryd.func11, Tryd.ntmps11
            go_wp2_with fail
            refine (s_p0 s _ hs).mono ?_
            rintro e w' ⟨rfl, rfl⟩
            go_wp2_with fail
            refine (s_p1 s _ hs).mono ?_
            rintro e w' ⟨rfl, rfl⟩
            go_wp2_with fail
            refine (s_p2 s _ hs).mono ?_
            rintro e w' ⟨rfl, rfl⟩
            go_wp2_with fail
            refine (s_p3 s _ hs).mono ?_
            rintro e w' ⟨rfl, rfl⟩
            go_wp2_with fail
            refine (s_p4 s _ hs).mono ?_
            rintro e w' ⟨rfl, rfl⟩
            go_wp2_with fail
            refine (s_p5 s _ hs).mono ?_
            rintro e w' ⟨rfl, rfl⟩
            go_wp2_with fail
            refine (s_pz1 t _ hts).mono ?_
            rintro e w' ⟨rfl, rfl⟩
            go_wp2_with fail
            refine (s_pz4 t _ hts).mono ?_
            rintro e w' ⟨rfl, rfl⟩
            go_wp2
            exact bodyPost_ret (v := .tuple #[.agg #[.int .i64 0, .int .i64 0, .int .i64 0, .int .i64 0, .int .i64 0, .int .i64 0, .bool false, .int .i64 0], .bool false]) (by simp [results, Tryd.results11, go_sem]) rfl ⟨by rw [HV.out], below_two _ _ _⟩
        have g3 : ((t[3].toNat : Int) != 58) = false := by rw [← HT3.out]; simpa using h3
        have hsg2 : (t[0].toNat : Int) = 43 ∨ (t[0].toNat : Int) = 45 := by rw [← HT0.out]; exact hsg
        cases b1 : inB 0 (partV t 1 2) 14
        · have HZF : Hid (zS t = false) := hide (by simp [zS, b1])
          clear hsg
          rcases hsg2 with hsg2 | hsg2
          all_goals
            have HV := hide (rdV_no (rd_bad h19 HH.out HTL.out ht0 HNZ.out (show zS t = false by exact HZF.out)))
            go_enter Tryd.func11, Tryd.ntmps11
            go_wp2_with fail
            refine (s_p0 s _ hs).mono ?_
            rintro e w' ⟨rfl, rfl⟩
            go_wp2_with fail
            refine (s_p1 s _ hs).mono ?_
            rintro e w' ⟨rfl, rfl⟩
            go_wp2_with fail
            refine (s_p2 s _ hs).mono ?_
            rintro e w' ⟨rfl, rfl⟩
            go_wp2_with fail
            refine (s_p3 s _ hs).mono ?_
            rintro e w' ⟨rfl, rfl⟩
            go_wp2_with fail
            refine (s_p4 s _ hs).mono ?_
            rintro e w' ⟨rfl, rfl⟩
            go_wp2_with fail
            refine (s_p5 s _ hs).mono ?_
            rintro e w' ⟨rfl, rfl⟩
            go_wp2_with fail
            refine (s_pz1 t _ hts).mono ?_
            rintro e w' ⟨rfl, rfl⟩
            go_wp2_with fail
            refine (s_pz4 t _ hts).mono ?_
            rintro e w' ⟨rfl, rfl⟩
            go_wp2_with (go_at_call 28; refine (s_inF _ _ _ _ b1).mono ?_; rintro e w' ⟨rfl, rfl⟩)
            exact bodyPost_ret (v := .tuple #[.agg #[.int .i64 0, .int .i64 0, .int .i64 0, .int .i64 0, .int .i64 0, .int .i64 0, .bool false, .int .i64 0], .bool false]) (by simp [results, Tryd.results11, go_sem]) rfl ⟨by rw [HV.out], below_two _ _ _⟩
        cases b2 : inB 0 (partV t 4 2) 59
        · have HZF : Hid (zS t = false) := hide (by simp [zS, b2])
          clear hsg
          rcases hsg2 with hsg2 | hsg2
          all_goals
            have HV := hide (rdV_no (rd_bad h19 HH.out HTL.out ht0 HNZ.out (show zS t = false by exact HZF.out)))
            go_enter Tryd.func11, Tryd.ntmps11
            go_wp2_with fail
            refine (s_p0 s _ hs).mono ?_
            rintro e w' ⟨rfl, rfl⟩
            go_wp2_with fail
            refine (s_p1 s _ hs).mono ?_
            rintro e w' ⟨rfl, rfl⟩
            go_wp2_with fail
            refine (s_p2 s _ hs).mono ?_
            rintro e w' ⟨rfl, rfl⟩
            go_wp2_with fail
            refine (s_p3 s _ hs).mono ?_
            rintro e w' ⟨rfl, rfl⟩
            go_wp2_with fail
            refine (s_p4 s _ hs).mono ?_
            rintro e w' ⟨rfl, rfl⟩
            go_wp2_with fail
            refine (s_p5 s _ hs).mono ?_
            rintro e w' ⟨rfl, rfl⟩
            go_wp2_with fail
            refine (s_pz1 t _ hts).mono ?_
            rintro e w' ⟨rfl, rfl⟩
            go_wp2_with fail
            refine (s_pz4 t _ hts).mono ?_
            rintro e w' ⟨rfl, rfl⟩
            go_wp2_with (first | (go_at_call_of 28 (Value.int .i64 (partV t 1 2)); refine (s_inT _ _ _ _ b1).mono ?_; rintro e w' ⟨rfl, rfl⟩) | (go_at_call_of 28 (Value.int .i64 (partV t 4 2)); refine (s_inF _ _ _ _ b2).mono ?_; rintro e w' ⟨rfl, rfl⟩))
            exact bodyPost_ret (v := .tuple #[.agg #[.int .i64 0, .int .i64 0, .int .i64 0, .int .i64 0, .int .i64 0, .int .i64 0, .bool false, .int .i64 0], .bool false]) (by simp [results, Tryd.results11, go_sem]) rfl ⟨by rw [HV.out], below_two _ _ _⟩
        have HZY := hide (zone_yes ht0 HNZ.out (show zS t = true by simp only [zS, h6, h3, b1, b2, decide_true, Bool.and_true, Bool.true_and]; exact decide_eq_true hsg))
        obtain ⟨k1, k2⟩ := inB_of b1
        obtain ⟨k3, k4⟩ := inB_of b2
        clear hsg
        rcases hsg2 with hsg2 | hsg2
        · have HZI : Hid (zI (tailA s) = (true, 60 * partV t 1 2 + partV t 4 2, true)) := hide (by rw [HTL.out, HZY.out, if_neg (by rw [HT0.out]; omega)])
          cases hdb : dateB (partV s 0 4) (partV s 5 2) (partV s 8 2) (partV s 11 2) (partV s 14 2) (partV s 17 2) true (60 * partV t 1 2 + partV t 4 2)
          · have HV := hide (rdV_no (show rdOk s = false by rw [HPT.out, HZI.out]; exact hdb))
            go_enter Tryd.func11, Tryd.ntmps11
            go_wp2_with fail
            refine (s_p0 s _ hs).mono ?_
            rintro e w' ⟨rfl, rfl⟩
            go_wp2_with fail
            refine (s_p1 s _ hs).mono ?_
            rintro e w' ⟨rfl, rfl⟩
            go_wp2_with fail
            refine (s_p2 s _ hs).mono ?_
            rintro e w' ⟨rfl, rfl⟩
            go_wp2_with fail
            refine (s_p3 s _ hs).mono ?_
            rintro e w' ⟨rfl, rfl⟩
            go_wp2_with fail
            refine (s_p4 s _ hs).mono ?_
            rintro e w' ⟨rfl, rfl⟩
            go_wp2_with fail
            refine (s_p5 s _ hs).mono ?_
            rintro e w' ⟨rfl, rfl⟩
            go_wp2_with fail
            refine (s_pz1 t _ hts).mono ?_
            rintro e w' ⟨rfl, rfl⟩
            go_wp2_with fail
            refine (s_pz4 t _ hts).mono ?_
            rintro e w' ⟨rfl, rfl⟩
            go_wp2_with (first | (go_at_call_of 28 (Value.int .i64 (partV t 1 2)); refine (s_inT _ _ _ _ b1).mono ?_; rintro e w' ⟨rfl, rfl⟩) | (go_at_call_of 28 (Value.int .i64 (partV t 4 2)); refine (s_inT _ _ _ _ b2).mono ?_; rintro e w' ⟨rfl, rfl⟩))
            refine (s_dateok (partV s 0 4) (partV s 5 2) (partV s 8 2) (partV s 11 2) (partV s 14 2) (partV s 17 2) true (60 * partV t 1 2 + partV t 4 2) _).mono ?_
            rw [hdb]
            rintro e w3 ⟨rfl, hb3⟩
            obtain ⟨hri, hq⟩ := rd_two hb3
            have HI4 := hide hri
            clear hb3 hri hq
            obtain ⟨⟨r0, r1, r2, r3, r4, r5, r6, r7⟩, f0, f1, f2, f3, f4, f5, f6, f7⟩ := heldD_cells HI4.out.1
            have HZ := hide (heldD_cells (heldD_set HI4.out.1 0 0 0 0 0 0 false 0)).1
            go_wp2
            obtain ⟨q0, q1, q2, q3, q4, q5, q6, q7⟩ := HZ.out
            exact bodyPost_ret (v := .tuple #[.agg #[.int .i64 0, .int .i64 0, .int .i64 0, .int .i64 0, .int .i64 0, .int .i64 0, .bool false, .int .i64 0], .bool false]) (by simp [results, Tryd.results11, go_sem, q0, q1, q2, q3, q4, q5, q6, q7]) rfl ⟨by rw [HV.out], below_set8 HI4.out.2 (Nat.le_refl _) _ _ _ _ _ _ _ _⟩
          · have HV := hide (rd_val h19 (show rdOk s = true by rw [HPT.out, HZI.out]; exact hdb) HZI.out)
            go_enter Tryd.func11, Tryd.ntmps11
            go_wp2_with fail
            refine (s_p0 s _ hs).mono ?_
            rintro e w' ⟨rfl, rfl⟩
            go_wp2_with fail
            refine (s_p1 s _ hs).mono ?_
            rintro e w' ⟨rfl, rfl⟩
            go_wp2_with fail
            refine (s_p2 s _ hs).mono ?_
            rintro e w' ⟨rfl, rfl⟩
            go_wp2_with fail
            refine (s_p3 s _ hs).mono ?_
            rintro e w' ⟨rfl, rfl⟩
            go_wp2_with fail
            refine (s_p4 s _ hs).mono ?_
            rintro e w' ⟨rfl, rfl⟩
            go_wp2_with fail
            refine (s_p5 s _ hs).mono ?_
            rintro e w' ⟨rfl, rfl⟩
            go_wp2_with fail
            refine (s_pz1 t _ hts).mono ?_
            rintro e w' ⟨rfl, rfl⟩
            go_wp2_with fail
            refine (s_pz4 t _ hts).mono ?_
            rintro e w' ⟨rfl, rfl⟩
            go_wp2_with (first | (go_at_call_of 28 (Value.int .i64 (partV t 1 2)); refine (s_inT _ _ _ _ b1).mono ?_; rintro e w' ⟨rfl, rfl⟩) | (go_at_call_of 28 (Value.int .i64 (partV t 4 2)); refine (s_inT _ _ _ _ b2).mono ?_; rintro e w' ⟨rfl, rfl⟩))
            refine (s_dateok (partV s 0 4) (partV s 5 2) (partV s 8 2) (partV s 11 2) (partV s 14 2) (partV s 17 2) true (60 * partV t 1 2 + partV t 4 2) _).mono ?_
            rw [hdb]
            rintro e w3 ⟨rfl, hb3⟩
            obtain ⟨hri, hq⟩ := rd_two hb3
            have HI4 := hide hri
            have HQ4 := hide hq
            clear hb3 hri hq
            obtain ⟨⟨r0, r1, r2, r3, r4, r5, r6, r7⟩, f0, f1, f2, f3, f4, f5, f6, f7⟩ := heldD_cells HI4.out.1
            obtain ⟨⟨a0, a1, a2, a3, a4, a5, a6, a7⟩, _⟩ := heldD_cells HQ4.out
            have HZ := hide (heldD_cells (heldD_set HI4.out.1 (partV s 0 4) (partV s 5 2) (partV s 8 2) (partV s 11 2) (partV s 14 2) (partV s 17 2) true (60 * partV t 1 2 + partV t 4 2))).1
            go_wp2
            obtain ⟨q0, q1, q2, q3, q4, q5, q6, q7⟩ := HZ.out
            exact bodyPost_ret (v := .tuple #[.agg #[.int .i64 (partV s 0 4), .int .i64 (partV s 5 2), .int .i64 (partV s 8 2), .int .i64 (partV s 11 2), .int .i64 (partV s 14 2), .int .i64 (partV s 17 2), .bool true, .int .i64 (60 * partV t 1 2 + partV t 4 2)], .bool true]) (by simp [results, Tryd.results11, go_sem, q0, q1, q2, q3, q4, q5, q6, q7]) rfl ⟨by rw [HV.out], below_set8 HI4.out.2 (Nat.le_refl _) _ _ _ _ _ _ _ _⟩
        · have HZI : Hid (zI (tailA s) = (true, -(60 * partV t 1 2 + partV t 4 2), true)) := hide (by rw [HTL.out, HZY.out, if_pos (by rw [HT0.out]; exact hsg2)])
          cases hdb : dateB (partV s 0 4) (partV s 5 2) (partV s 8 2) (partV s 11 2) (partV s 14 2) (partV s 17 2) true (-(60 * partV t 1 2 + partV t 4 2))
          · have HV := hide (rdV_no (show rdOk s = false by rw [HPT.out, HZI.out]; exact hdb))
            go_enter Tryd.func11, Tryd.ntmps11
            go_wp2_with fail
            refine (s_p0 s _ hs).mono ?_
            rintro e w' ⟨rfl, rfl⟩
            go_wp2_with fail
            refine (s_p1 s _ hs).mono ?_
            rintro e w' ⟨rfl, rfl⟩
            go_wp2_with fail
            refine (s_p2 s _ hs).mono ?_
            rintro e w' ⟨rfl, rfl⟩
            go_wp2_with fail
            refine (s_p3 s _ hs).mono ?_
            rintro e w' ⟨rfl, rfl⟩
            go_wp2_with fail
            refine (s_p4 s _ hs).mono ?_
            rintro e w' ⟨rfl, rfl⟩
            go_wp2_with fail
            refine (s_p5 s _ hs).mono ?_
            rintro e w' ⟨rfl, rfl⟩
            go_wp2_with fail
            refine (s_pz1 t _ hts).mono ?_
            rintro e w' ⟨rfl, rfl⟩
            go_wp2_with fail
            refine (s_pz4 t _ hts).mono ?_
            rintro e w' ⟨rfl, rfl⟩
            go_wp2_with (first | (go_at_call_of 28 (Value.int .i64 (partV t 1 2)); refine (s_inT _ _ _ _ b1).mono ?_; rintro e w' ⟨rfl, rfl⟩) | (go_at_call_of 28 (Value.int .i64 (partV t 4 2)); refine (s_inT _ _ _ _ b2).mono ?_; rintro e w' ⟨rfl, rfl⟩))
            refine (s_dateok (partV s 0 4) (partV s 5 2) (partV s 8 2) (partV s 11 2) (partV s 14 2) (partV s 17 2) true (-(60 * partV t 1 2 + partV t 4 2)) _).mono ?_
            rw [hdb]
            rintro e w3 ⟨rfl, hb3⟩
            obtain ⟨hri, hq⟩ := rd_two hb3
            have HI4 := hide hri
            clear hb3 hri hq
            obtain ⟨⟨r0, r1, r2, r3, r4, r5, r6, r7⟩, f0, f1, f2, f3, f4, f5, f6, f7⟩ := heldD_cells HI4.out.1
            have HZ := hide (heldD_cells (heldD_set HI4.out.1 0 0 0 0 0 0 false 0)).1
            go_wp2
            obtain ⟨q0, q1, q2, q3, q4, q5, q6, q7⟩ := HZ.out
            exact bodyPost_ret (v := .tuple #[.agg #[.int .i64 0, .int .i64 0, .int .i64 0, .int .i64 0, .int .i64 0, .int .i64 0, .bool false, .int .i64 0], .bool false]) (by simp [results, Tryd.results11, go_sem, q0, q1, q2, q3, q4, q5, q6, q7]) rfl ⟨by rw [HV.out], below_set8 HI4.out.2 (Nat.le_refl _) _ _ _ _ _ _ _ _⟩
          · have HV := hide (rd_val h19 (show rdOk s = true by rw [HPT.out, HZI.out]; exact hdb) HZI.out)
            go_enter Tryd.func11, Tryd.ntmps11
            go_wp2_with fail
            refine (s_p0 s _ hs).mono ?_
            rintro e w' ⟨rfl, rfl⟩
            go_wp2_with fail
            refine (s_p1 s _ hs).mono ?_
            rintro e w' ⟨rfl, rfl⟩
            go_wp2_with fail
            refine (s_p2 s _ hs).mono ?_
            rintro e w' ⟨rfl, rfl⟩
            go_wp2_with fail
            refine (s_p3 s _ hs).mono ?_
            rintro e w' ⟨rfl, rfl⟩
            go_wp2_with fail
            refine (s_p4 s _ hs).mono ?_
            rintro e w' ⟨rfl, rfl⟩
            go_wp2_with fail
            refine (s_p5 s _ hs).mono ?_
            rintro e w' ⟨rfl, rfl⟩
            go_wp2_with fail
            refine (s_pz1 t _ hts).mono ?_
            rintro e w' ⟨rfl, rfl⟩
            go_wp2_with fail
            refine (s_pz4 t _ hts).mono ?_
            rintro e w' ⟨rfl, rfl⟩
            go_wp2_with (first | (go_at_call_of 28 (Value.int .i64 (partV t 1 2)); refine (s_inT _ _ _ _ b1).mono ?_; rintro e w' ⟨rfl, rfl⟩) | (go_at_call_of 28 (Value.int .i64 (partV t 4 2)); refine (s_inT _ _ _ _ b2).mono ?_; rintro e w' ⟨rfl, rfl⟩))
            refine (s_dateok (partV s 0 4) (partV s 5 2) (partV s 8 2) (partV s 11 2) (partV s 14 2) (partV s 17 2) true (-(60 * partV t 1 2 + partV t 4 2)) _).mono ?_
            rw [hdb]
            rintro e w3 ⟨rfl, hb3⟩
            obtain ⟨hri, hq⟩ := rd_two hb3
            have HI4 := hide hri
            have HQ4 := hide hq
            clear hb3 hri hq
            obtain ⟨⟨r0, r1, r2, r3, r4, r5, r6, r7⟩, f0, f1, f2, f3, f4, f5, f6, f7⟩ := heldD_cells HI4.out.1
            obtain ⟨⟨a0, a1, a2, a3, a4, a5, a6, a7⟩, _⟩ := heldD_cells HQ4.out
            have HZ := hide (heldD_cells (heldD_set HI4.out.1 (partV s 0 4) (partV s 5 2) (partV s 8 2) (partV s 11 2) (partV s 14 2) (partV s 17 2) true (-(60 * partV t 1 2 + partV t 4 2)))).1
            go_wp2
            obtain ⟨q0, q1, q2, q3, q4, q5, q6, q7⟩ := HZ.out
            exact bodyPost_ret (v := .tuple #[.agg #[.int .i64 (partV s 0 4), .int .i64 (partV s 5 2), .int .i64 (partV s 8 2), .int .i64 (partV s 11 2), .int .i64 (partV s 14 2), .int .i64 (partV s 17 2), .bool true, .int .i64 (-(60 * partV t 1 2 + partV t 4 2))], .bool true]) (by simp [results, Tryd.results11, go_sem, q0, q1, q2, q3, q4, q5, q6, q7]) rfl ⟨by rw [HV.out], below_set8 HI4.out.2 (Nat.le_refl _) _ _ _ _ _ _ _ _⟩
end Go.Proofs.YtaigicdoepdhnaaDoor
