/-
  Plain facts on the second behind a month's last one, and the walk of the law on the next day.
-/
import Derived.Test.YtaigicdoepdhnabDoorNextR2
namespace Go.Proofs.YtaigicdoepdhnabDoor
open Go.RowKit Go.Joins
set_option linter.unusedVariables false
set_option linter.unusedSimpArgs false
theorem last_right {y mo d h mi s : Int} {g : Bool} {z : Int} (r : Rt y mo d h mi s g z) : Rt y mo (dim y mo) 23 59 59 g z := by
  obtain ⟨y1, y2, m1, m2, d1, d2, h1, h2, n1, n2, s1, s2, z1, z2, gz⟩ := r
  exact ⟨y1, y2, m1, m2, by omega, by omega, by omega, by omega, by omega, by omega, by omega, by omega, z1, z2, gz⟩
theorem next_facts {y mo d h mi s : Int} {g : Bool} {z : Int} (r : Rt y mo d h mi s g z) {sL : Int} (hs : secsB y mo (dim y mo) 23 59 59 g z = sL) :
    dateB y mo (dim y mo) 23 59 59 g z = true ∧ IntKind.i64.wrap (sL + 1) = sL + 1 ∧ (mo ≠ 12 → secsB y (mo + 1) 1 0 0 0 g z = sL + 1) ∧ (mo = 12 → y + 1 ≤ 9999 → secsB (y + 1) 1 1 0 0 0 g z = sL + 1) := by
  have rl := last_right r
  have hl := dateB_of rl
  have hb := lsec_bd rl
  obtain ⟨y1, y2, m1, m2, d1, d2, h1, h2, n1, n2, s1, s2, z1, z2, gz⟩ := r
  unfold secsB at hs
  rw [if_pos hl] at hs
  obtain ⟨k, hk⟩ : ∃ k : Nat, mo = (k : Int) + 1 := ⟨(mo - 1).toNat, by omega⟩
  subst hk
  have e1 : ((k : Int) + 1 - 1).toNat = k := by omega
  have hc : cumN y (k + 1) = cumN y k + dim y ((k : Int) + 1) := rfl
  refine ⟨hl, ?_, fun hne => ?_, fun he hy => ?_⟩
  · rw [IntKind.wrap_i64]
    unfold secs at hs
    omega
  · have d3 := dim_lo (y := y) (m := (k : Int) + 1 + 1) ⟨y1, y2⟩ (by omega)
    have rn : Rt y ((k : Int) + 1 + 1) 1 0 0 0 g z := ⟨y1, y2, by omega, by omega, by omega, by omega, by omega, by omega, by omega, by omega, by omega, by omega, z1, z2, gz⟩
    unfold secsB
    rw [if_pos (dateB_of rn), ← hs]
    unfold secs lsec
    rw [e1, show ((k : Int) + 1 + 1 - 1).toNat = k + 1 by omega, hc]
    omega
  · have d3 := dim_lo (y := y + 1) (m := 1) ⟨by omega, hy⟩ (by omega)
    have rn : Rt (y + 1) 1 1 0 0 0 g z := ⟨by omega, hy, by omega, by omega, by omega, by omega, by omega, by omega, by omega, by omega, by omega, by omega, z1, z2, gz⟩
    have hk11 : k = 11 := by omega
    subst hk11
    have h12 := cum_12 y1 y2
    rw [hc] at h12
    unfold secsB
    rw [if_pos (dateB_of rn), ← hs]
    unfold secs lsec
    rw [e1, show ((1 : Int) - 1).toNat = 0 by omega, show cumN (y + 1) 0 = 0 from rfl]
    omega
theorem dbox_row {w : World} {B : Nat} {y mo d h mi s : Int} {g : Bool} {z : Int} {T : TypeId} (hx : w.heap[B]? = some (.cells #[.int .i64 y, .int .i64 mo, .int .i64 d, .int .i64 h, .int .i64 mi, .int .i64 s, .bool g, .int .i64 z] T (0, 0))) : DBox w B y mo d h mi s g z :=
  ⟨(Array.getElem?_eq_some_iff.1 hx).1, (dsh_cells hx).1⟩
set_option maxRecDepth 100000 in
set_option maxHeartbeats 16000000 in
theorem next_walk (a : Option Addr) (n cap : Nat) (zs : List Int) (w : World) (hl : zs.length = n) (hz : ∀ x ∈ zs, 0 ≤ x ∧ x ≤ 255) (hn : n ≤ 1048576) (hs : SrcAt w a zs w.heap.size) (ht : MTab 0 w) :
    Calls Tryd.prog 3 #[.slice a n cap] w fun e w' => e = .returned (.bool true) ∧ Below w.heap.size w w' := by
  have hn' : ¬ (1048576 : Int) < (n : Int) := by omega
  have HS := hide hs
  have HL := hide hl
  have HZ := hide hz
  have HT := hide ht
  clear hs hl hz ht
  go_enter Tryd.func3, Tryd.ntmps3
  go_wp2_with (go_at_call 4; go_in)
  refine (d_one a n cap zs _ HL.out HZ.out hn HS.out).mono ?_
  rintro e w1 ⟨y, mo, d, h, mi, s, g, z, rfl, hb1⟩
  have HB1 := hide hb1
  have MT := hide (mtab_go HT.out hb1)
  clear hb1
  obtain ⟨n0, hn0⟩ : ∃ n0, secsB y mo d h mi s g z = n0 := ⟨_, rfl⟩
  have HN0 := hide hn0
  clear hn0
  have D1 := hide (dbox_new w1 y mo d h mi s g z 25)
  have W1 := hide ((Below.refl w1.heap.size w1).alloc (Nat.le_refl _) (.cells #[.int .i64 y, .int .i64 mo, .int .i64 d, .int .i64 h, .int .i64 mi, .int .i64 s, .bool g, .int .i64 z] 25))
  go_wp2_with fail
  refine (i_seconds y mo d h mi s g z _ (mtab_go MT.out W1.out)).mono ?_
  rintro e w2 ⟨rfl, hb2⟩
  rw [HN0.out]
  have D2 := hide (dbox_go D1.out hb2)
  have W2 := hide (below_go W1.out hb2)
  clear hb2
  obtain ⟨k0, k1, k2, k3, k4, k5, k6, k7, k8⟩ := D2.out
  clear k0
  go_wp2_with fail
  refine (s_seconds y mo d h mi s g z _).mono ?_
  rintro e w3 ⟨rfl, hb3⟩
  rw [HN0.out]
  have D3 := hide (dbox_go D2.out hb3)
  have W3 := hide (below_go W2.out hb3)
  clear hb3
  clear k1 k2 k3 k4 k5 k6 k7 k8
  obtain ⟨k0, k1, k2, k3, k4, k5, k6, k7, k8⟩ := D3.out
  clear k0
  go_wp2_with fail
  refine (s_dateok y mo d h mi s g z _).mono ?_
  rintro e w4 ⟨rfl, hb4⟩
  have D4 := hide (dbox_go D3.out hb4)
  have W4 := hide (below_go W3.out hb4)
  clear hb4
  clear k1 k2 k3 k4 k5 k6 k7 k8
  cases hd : dateB y mo d h mi s g z
  · obtain ⟨k0, k1, k2, k3, k4, k5, k6, k7, k8⟩ := D4.out
    clear k0
    go_wp2_with fail
    refine (s_seconds y mo d h mi s g z _).mono ?_
    rintro e w5 ⟨rfl, hb5⟩
    rw [HN0.out]
    have W5 := hide (below_go W4.out hb5)
    clear hb5 k1 k2 k3 k4 k5 k6 k7 k8
    go_wp2
    go_ret
    exact ⟨rfl, below_go HB1.out W5.out⟩
  · have r := rt_of hd
    obtain ⟨sL, hsL⟩ : ∃ sL, secsB y mo (dim y mo) 23 59 59 g z = sL := ⟨_, rfl⟩
    obtain ⟨f1, f2, f3, f4⟩ := next_facts r hsL
    have F0 := hide hsL
    have F1 := hide f1
    have F2 := hide f2
    have F3 := hide f3
    have F4 := hide f4
    have HY12 := hide (cum_12 r.y1 r.y2)
    have HLP := hide (leap_01 y r.y1)
    have HCB := hide (fun (k : Nat) (hk : k ≤ 12) => cumN_bd ⟨r.y1, r.y2⟩ k hk)
    obtain ⟨y1, y2, m1, m2, -, -, -, -, -, -, -, -, -, -, -⟩ := r
    clear hd hsL f1 f2 f3 f4
    go_wp2_with fail
    refine reg7 (w := w) HT.out D4.out (below_go HB1.out W4.out) ?_
    intro u v hbv hDv hLv e5
    rw [e5]
    have BV := hide hbv
    have DVv := hide hDv
    have LVv := hide (dbox_row hLv)
    clear hbv hDv hLv e5
    by_cases h12 : mo = 12
    · subst h12
      have DN := hide (dbox_new v (y + 1) 1 1 0 0 0 g z 25)
      have BN := hide ((Below.refl v.heap.size v).alloc (Nat.le_refl _) (.cells #[.int .i64 (y + 1), .int .i64 1, .int .i64 1, .int .i64 0, .int .i64 0, .int .i64 0, .bool g, .int .i64 z] 25))
      have DD := hide (dbox_go DVv.out BN.out)
      have DL := hide (dbox_go LVv.out BN.out)
      have BW := hide (below_go BV.out BN.out)
      have MN := hide (mtab_go HT.out BW.out)
      obtain ⟨k0, k1, k2, k3, k4, k5, k6, k7, k8⟩ := DVv.out
      clear k0
      obtain ⟨l0, l1, l2, l3, l4, l5, l6, l7, l8⟩ := DD.out
      clear l0
      have DA := hide (dbox_go DVv.out ((Below.refl v.heap.size v).alloc (Nat.le_refl _) (.cells #[.int .i64 y, .int .i64 13, .int .i64 1, .int .i64 0, .int .i64 0, .int .i64 0, .bool g, .int .i64 z] 25)))
      obtain ⟨x0, x1, x2, x3, x4, x5, x6, x7, x8⟩ := DA.out
      clear x0
      go_wp2
      clear x1 x2 x3 x4 x5 x6 x7 x8
      go_loopw [7, 8] (fun dv mv wr => ∃ k : Nat, k ≤ 12 ∧ dv = .int .i64 (cumN y k) ∧ mv = .int .i64 ((k : Int) + 1) ∧ wr = (v.alloc (.cells #[.int .i64 (y + 1), .int .i64 1, .int .i64 1, .int .i64 0, .int .i64 0, .int .i64 0, .bool g, .int .i64 z] 25))) (fun _ mv _ => 13 - (intOf mv).toNat)
      case atStart => exact ⟨0, by omega, rfl, rfl, rfl⟩
      case round =>
        obtain ⟨k, hk, rfl, rfl, rfl⟩ := hrel
        have hcb := HCB.out k hk
        obtain ⟨C, hC⟩ : ∃ C, cumN y k = C := ⟨_, rfl⟩
        rw [hC] at hcb
        have HCC := hide hC
        by_cases hlt : k < 12
        · have hk1 : (k : Int) + 1 ≤ 12 := by omega
          obtain ⟨c1, c2⟩ := hcb
          have c3 : C ≤ 372 := by omega
          rw [hC]
          clear c2 hC
          go_wp2_with fail
          refine (i_dim y ((k : Int) + 1) _ MN.out).mono ?_
          rintro e w9 ⟨rfl, rfl⟩
          have hdm := dim_bd y ((k : Int) + 1)
          obtain ⟨E, hE⟩ : ∃ E, dim y ((k : Int) + 1) = E := ⟨_, rfl⟩
          rw [hE] at hdm ⊢
          obtain ⟨e1, e2⟩ := hdm
          have HE := hide hE
          clear hE
          go_wp2
          go_roundw
          case rel => exact ⟨k + 1, by omega, by rw [show cumN y (k + 1) = cumN y k + dim y ((k : Int) + 1) from rfl, HCC.out, HE.out], by go_num, by first | rfl | trivial⟩
          case measure => simp [intOf]; omega
        · obtain rfl : k = 12 := by omega
          have hk1 : ¬ ((12 : Int) + 1 ≤ 12) := by omega
          clear hcb
          rw [hC]
          rcases (show (y % 4 ≠ 0) ∨ (y % 4 = 0 ∧ y % 100 ≠ 0) ∨ (y % 4 = 0 ∧ y % 100 = 0 ∧ y % 400 ≠ 0) ∨ (y % 4 = 0 ∧ y % 100 = 0 ∧ y % 400 = 0) by omega) with j1 | ⟨j1, j2⟩ | ⟨j1, j2, j3⟩ | ⟨j1, j2, j3⟩
          · obtain rfl : C = 365 := by rw [← HCC.out, HY12.out, HLP.out]; simp [leapB, j1]; omega
            clear hC
            obtain ⟨p0, p1, p2, p3, p4, p5, p6, p7, p8⟩ := DL.out
            clear p0
            go_wp2_with fail
            refine (i_dateok y 12 (dim y 12) 23 59 59 g z _ MN.out).mono ?_
            rintro e v9 ⟨rfl, hb9⟩
            rw [F1.out]
            have DL9 := hide (dbox_go DL.out hb9)
            have DN9 := hide (dbox_go DN.out hb9)
            have BW9 := hide (below_go BW.out hb9)
            have MN9 := hide (mtab_go MN.out hb9)
            clear hb9 p1 p2 p3 p4 p5 p6 p7 p8 l1 l2 l3 l4 l5 l6 l7 l8 k1 k2 k3 k4 k5 k6 k7 k8
            go_wp2_with fail
            by_cases h99 : y + 1 ≤ 9999
            · refine reg20a (w := w) (sL := sL) (by omega) (F4.out (by first | rfl | trivial) (by omega)) F0.out F2.out ⟨DL9.out, DN9.out, BW9.out, MN9.out⟩ ?_
              intro u2 wF hbF e2
              have HBF := hide hbF
              clear hbF
              rw [e2]
              go_wp2
              go_ret
              exact ⟨rfl, HBF.out⟩
            · refine reg20b (w := w) (sL := sL) (by omega) ⟨DL9.out, DN9.out, BW9.out, MN9.out⟩ ?_
              intro u2 wF hbF e2
              have HBF := hide hbF
              clear hbF
              rw [e2]
              go_wp2
              go_ret
              exact ⟨rfl, HBF.out⟩
          · obtain rfl : C = 366 := by rw [← HCC.out, HY12.out, HLP.out]; simp [leapB, j1, j2]; omega
            clear hC
            obtain ⟨p0, p1, p2, p3, p4, p5, p6, p7, p8⟩ := DL.out
            clear p0
            go_wp2_with fail
            refine (i_dateok y 12 (dim y 12) 23 59 59 g z _ MN.out).mono ?_
            rintro e v9 ⟨rfl, hb9⟩
            rw [F1.out]
            have DL9 := hide (dbox_go DL.out hb9)
            have DN9 := hide (dbox_go DN.out hb9)
            have BW9 := hide (below_go BW.out hb9)
            have MN9 := hide (mtab_go MN.out hb9)
            clear hb9 p1 p2 p3 p4 p5 p6 p7 p8 l1 l2 l3 l4 l5 l6 l7 l8 k1 k2 k3 k4 k5 k6 k7 k8
            go_wp2_with fail
            by_cases h99 : y + 1 ≤ 9999
            · refine reg20a (w := w) (sL := sL) (by omega) (F4.out (by first | rfl | trivial) (by omega)) F0.out F2.out ⟨DL9.out, DN9.out, BW9.out, MN9.out⟩ ?_
              intro u2 wF hbF e2
              have HBF := hide hbF
              clear hbF
              rw [e2]
              go_wp2
              go_ret
              exact ⟨rfl, HBF.out⟩
            · refine reg20b (w := w) (sL := sL) (by omega) ⟨DL9.out, DN9.out, BW9.out, MN9.out⟩ ?_
              intro u2 wF hbF e2
              have HBF := hide hbF
              clear hbF
              rw [e2]
              go_wp2
              go_ret
              exact ⟨rfl, HBF.out⟩
          · obtain rfl : C = 365 := by rw [← HCC.out, HY12.out, HLP.out]; simp [leapB, j1, j2, j3]; omega
            clear hC
            obtain ⟨p0, p1, p2, p3, p4, p5, p6, p7, p8⟩ := DL.out
            clear p0
            go_wp2_with fail
            refine (i_dateok y 12 (dim y 12) 23 59 59 g z _ MN.out).mono ?_
            rintro e v9 ⟨rfl, hb9⟩
            rw [F1.out]
            have DL9 := hide (dbox_go DL.out hb9)
            have DN9 := hide (dbox_go DN.out hb9)
            have BW9 := hide (below_go BW.out hb9)
            have MN9 := hide (mtab_go MN.out hb9)
            clear hb9 p1 p2 p3 p4 p5 p6 p7 p8 l1 l2 l3 l4 l5 l6 l7 l8 k1 k2 k3 k4 k5 k6 k7 k8
            go_wp2_with fail
            by_cases h99 : y + 1 ≤ 9999
            · refine reg20a (w := w) (sL := sL) (by omega) (F4.out (by first | rfl | trivial) (by omega)) F0.out F2.out ⟨DL9.out, DN9.out, BW9.out, MN9.out⟩ ?_
              intro u2 wF hbF e2
              have HBF := hide hbF
              clear hbF
              rw [e2]
              go_wp2
              go_ret
              exact ⟨rfl, HBF.out⟩
            · refine reg20b (w := w) (sL := sL) (by omega) ⟨DL9.out, DN9.out, BW9.out, MN9.out⟩ ?_
              intro u2 wF hbF e2
              have HBF := hide hbF
              clear hbF
              rw [e2]
              go_wp2
              go_ret
              exact ⟨rfl, HBF.out⟩
          · obtain rfl : C = 366 := by rw [← HCC.out, HY12.out, HLP.out]; simp [leapB, j1, j2, j3]; omega
            clear hC
            obtain ⟨p0, p1, p2, p3, p4, p5, p6, p7, p8⟩ := DL.out
            clear p0
            go_wp2_with fail
            refine (i_dateok y 12 (dim y 12) 23 59 59 g z _ MN.out).mono ?_
            rintro e v9 ⟨rfl, hb9⟩
            rw [F1.out]
            have DL9 := hide (dbox_go DL.out hb9)
            have DN9 := hide (dbox_go DN.out hb9)
            have BW9 := hide (below_go BW.out hb9)
            have MN9 := hide (mtab_go MN.out hb9)
            clear hb9 p1 p2 p3 p4 p5 p6 p7 p8 l1 l2 l3 l4 l5 l6 l7 l8 k1 k2 k3 k4 k5 k6 k7 k8
            go_wp2_with fail
            by_cases h99 : y + 1 ≤ 9999
            · refine reg20a (w := w) (sL := sL) (by omega) (F4.out (by first | rfl | trivial) (by omega)) F0.out F2.out ⟨DL9.out, DN9.out, BW9.out, MN9.out⟩ ?_
              intro u2 wF hbF e2
              have HBF := hide hbF
              clear hbF
              rw [e2]
              go_wp2
              go_ret
              exact ⟨rfl, HBF.out⟩
            · refine reg20b (w := w) (sL := sL) (by omega) ⟨DL9.out, DN9.out, BW9.out, MN9.out⟩ ?_
              intro u2 wF hbF e2
              have HBF := hide hbF
              clear hbF
              rw [e2]
              go_wp2
              go_ret
              exact ⟨rfl, HBF.out⟩
    · have h12b : (mo == 12) = false := by simpa using h12
      have DN := hide (dbox_new v y (mo + 1) 1 0 0 0 g z 25)
      have BN := hide ((Below.refl v.heap.size v).alloc (Nat.le_refl _) (.cells #[.int .i64 y, .int .i64 (mo + 1), .int .i64 1, .int .i64 0, .int .i64 0, .int .i64 0, .bool g, .int .i64 z] 25))
      have DD := hide (dbox_go DVv.out BN.out)
      have DL := hide (dbox_go LVv.out BN.out)
      have BW := hide (below_go BV.out BN.out)
      have MN := hide (mtab_go HT.out BW.out)
      obtain ⟨k0, k1, k2, k3, k4, k5, k6, k7, k8⟩ := DVv.out
      clear k0
      obtain ⟨l0, l1, l2, l3, l4, l5, l6, l7, l8⟩ := DD.out
      clear l0
      go_wp2
      go_loopw [7, 8] (fun dv mv wr => ∃ k : Nat, k ≤ 12 ∧ dv = .int .i64 (cumN y k) ∧ mv = .int .i64 ((k : Int) + 1) ∧ wr = (v.alloc (.cells #[.int .i64 y, .int .i64 (mo + 1), .int .i64 1, .int .i64 0, .int .i64 0, .int .i64 0, .bool g, .int .i64 z] 25))) (fun _ mv _ => 13 - (intOf mv).toNat)
      case atStart => exact ⟨0, by omega, rfl, rfl, rfl⟩
      case round =>
        obtain ⟨k, hk, rfl, rfl, rfl⟩ := hrel
        have hcb := HCB.out k hk
        obtain ⟨C, hC⟩ : ∃ C, cumN y k = C := ⟨_, rfl⟩
        rw [hC] at hcb
        have HCC := hide hC
        by_cases hlt : k < 12
        · have hk1 : (k : Int) + 1 ≤ 12 := by omega
          obtain ⟨c1, c2⟩ := hcb
          have c3 : C ≤ 372 := by omega
          rw [hC]
          clear c2 hC
          go_wp2_with fail
          refine (i_dim y ((k : Int) + 1) _ MN.out).mono ?_
          rintro e w9 ⟨rfl, rfl⟩
          have hdm := dim_bd y ((k : Int) + 1)
          obtain ⟨E, hE⟩ : ∃ E, dim y ((k : Int) + 1) = E := ⟨_, rfl⟩
          rw [hE] at hdm ⊢
          obtain ⟨e1, e2⟩ := hdm
          have HE := hide hE
          clear hE
          go_wp2
          go_roundw
          case rel => exact ⟨k + 1, by omega, by rw [show cumN y (k + 1) = cumN y k + dim y ((k : Int) + 1) from rfl, HCC.out, HE.out], by go_num, by first | rfl | trivial⟩
          case measure => simp [intOf]; omega
        · obtain rfl : k = 12 := by omega
          have hk1 : ¬ ((12 : Int) + 1 ≤ 12) := by omega
          clear hcb
          rw [hC]
          rcases (show (y % 4 ≠ 0) ∨ (y % 4 = 0 ∧ y % 100 ≠ 0) ∨ (y % 4 = 0 ∧ y % 100 = 0 ∧ y % 400 ≠ 0) ∨ (y % 4 = 0 ∧ y % 100 = 0 ∧ y % 400 = 0) by omega) with j1 | ⟨j1, j2⟩ | ⟨j1, j2, j3⟩ | ⟨j1, j2, j3⟩
          · obtain rfl : C = 365 := by rw [← HCC.out, HY12.out, HLP.out]; simp [leapB, j1]; omega
            clear hC
            obtain ⟨p0, p1, p2, p3, p4, p5, p6, p7, p8⟩ := DL.out
            clear p0
            go_wp2_with fail
            refine (i_dateok y mo (dim y mo) 23 59 59 g z _ MN.out).mono ?_
            rintro e v9 ⟨rfl, hb9⟩
            rw [F1.out]
            have DL9 := hide (dbox_go DL.out hb9)
            have DN9 := hide (dbox_go DN.out hb9)
            have BW9 := hide (below_go BW.out hb9)
            have MN9 := hide (mtab_go MN.out hb9)
            clear hb9 p1 p2 p3 p4 p5 p6 p7 p8 l1 l2 l3 l4 l5 l6 l7 l8 k1 k2 k3 k4 k5 k6 k7 k8
            go_wp2_with fail
            refine reg20a (w := w) (sL := sL) (by omega) (F3.out h12) F0.out F2.out ⟨DL9.out, DN9.out, BW9.out, MN9.out⟩ ?_
            intro u2 wF hbF e2
            have HBF := hide hbF
            clear hbF
            rw [e2]
            go_wp2
            go_ret
            exact ⟨rfl, HBF.out⟩
          · obtain rfl : C = 366 := by rw [← HCC.out, HY12.out, HLP.out]; simp [leapB, j1, j2]; omega
            clear hC
            obtain ⟨p0, p1, p2, p3, p4, p5, p6, p7, p8⟩ := DL.out
            clear p0
            go_wp2_with fail
            refine (i_dateok y mo (dim y mo) 23 59 59 g z _ MN.out).mono ?_
            rintro e v9 ⟨rfl, hb9⟩
            rw [F1.out]
            have DL9 := hide (dbox_go DL.out hb9)
            have DN9 := hide (dbox_go DN.out hb9)
            have BW9 := hide (below_go BW.out hb9)
            have MN9 := hide (mtab_go MN.out hb9)
            clear hb9 p1 p2 p3 p4 p5 p6 p7 p8 l1 l2 l3 l4 l5 l6 l7 l8 k1 k2 k3 k4 k5 k6 k7 k8
            go_wp2_with fail
            refine reg20a (w := w) (sL := sL) (by omega) (F3.out h12) F0.out F2.out ⟨DL9.out, DN9.out, BW9.out, MN9.out⟩ ?_
            intro u2 wF hbF e2
            have HBF := hide hbF
            clear hbF
            rw [e2]
            go_wp2
            go_ret
            exact ⟨rfl, HBF.out⟩
          · obtain rfl : C = 365 := by rw [← HCC.out, HY12.out, HLP.out]; simp [leapB, j1, j2, j3]; omega
            clear hC
            obtain ⟨p0, p1, p2, p3, p4, p5, p6, p7, p8⟩ := DL.out
            clear p0
            go_wp2_with fail
            refine (i_dateok y mo (dim y mo) 23 59 59 g z _ MN.out).mono ?_
            rintro e v9 ⟨rfl, hb9⟩
            rw [F1.out]
            have DL9 := hide (dbox_go DL.out hb9)
            have DN9 := hide (dbox_go DN.out hb9)
            have BW9 := hide (below_go BW.out hb9)
            have MN9 := hide (mtab_go MN.out hb9)
            clear hb9 p1 p2 p3 p4 p5 p6 p7 p8 l1 l2 l3 l4 l5 l6 l7 l8 k1 k2 k3 k4 k5 k6 k7 k8
            go_wp2_with fail
            refine reg20a (w := w) (sL := sL) (by omega) (F3.out h12) F0.out F2.out ⟨DL9.out, DN9.out, BW9.out, MN9.out⟩ ?_
            intro u2 wF hbF e2
            have HBF := hide hbF
            clear hbF
            rw [e2]
            go_wp2
            go_ret
            exact ⟨rfl, HBF.out⟩
          · obtain rfl : C = 366 := by rw [← HCC.out, HY12.out, HLP.out]; simp [leapB, j1, j2, j3]; omega
            clear hC
            obtain ⟨p0, p1, p2, p3, p4, p5, p6, p7, p8⟩ := DL.out
            clear p0
            go_wp2_with fail
            refine (i_dateok y mo (dim y mo) 23 59 59 g z _ MN.out).mono ?_
            rintro e v9 ⟨rfl, hb9⟩
            rw [F1.out]
            have DL9 := hide (dbox_go DL.out hb9)
            have DN9 := hide (dbox_go DN.out hb9)
            have BW9 := hide (below_go BW.out hb9)
            have MN9 := hide (mtab_go MN.out hb9)
            clear hb9 p1 p2 p3 p4 p5 p6 p7 p8 l1 l2 l3 l4 l5 l6 l7 l8 k1 k2 k3 k4 k5 k6 k7 k8
            go_wp2_with fail
            refine reg20a (w := w) (sL := sL) (by omega) (F3.out h12) F0.out F2.out ⟨DL9.out, DN9.out, BW9.out, MN9.out⟩ ?_
            intro u2 wF hbF e2
            have HBF := hide hbF
            clear hbF
            rw [e2]
            go_wp2
            go_ret
            exact ⟨rfl, HBF.out⟩
end Go.Proofs.YtaigicdoepdhnabDoor
