/-
  Contracts: the seconds of a right date, by the specification and by the program; SecondsOf of every date.
-/
import Derived.Test.YtaigicdoepdhnabDoorSecMath
import Derived.Test.YtaigicdoepdhnabDoorDateTo
import Derived.Deep.RegionWith
namespace Go.Proofs.YtaigicdoepdhnabDoor
open Go.RowKit
set_option linter.unusedSimpArgs false
set_option linter.unusedVariables false
set_option maxHeartbeats 2000000 in
theorem s_days (y : Int) (w : World) (h1 : 1 ≤ y) (h2 : y ≤ 10000) : Calls Tryd.prog 24 #[.int .i64 y] w fun e w' => e = .returned (.int .i64 (dby y)) ∧ w' = w := by
  go_enter Tryd.func24, Tryd.ntmps24
  go_wp2
  go_ret
  exact ⟨ret_int (by unfold dby; omega), rfl⟩
set_option maxHeartbeats 2000000 in
theorem i_days (y : Int) (w : World) (h1 : 1 ≤ y) (h2 : y ≤ 10000) : Calls Tryd.prog 23 #[.int .i64 y] w fun e w' => e = .returned (.int .i64 (dby y)) ∧ w' = w := by
  go_enter Tryd.func23, Tryd.ntmps23
  go_wp2
  go_ret
  exact ⟨ret_int (by unfold dby; omega), rfl⟩
set_option maxHeartbeats 2000000 in
theorem s_l5sec (y mo d h mi s : Int) (g : Bool) (z : Int) (w : World) (r : Rt y mo d h mi s g z) : Calls Tryd.prog 14 #[.agg #[.int .i64 y, .int .i64 mo, .int .i64 d, .int .i64 h, .int .i64 mi, .int .i64 s, .bool g, .int .i64 z]] w fun e w' => e = .returned (.int .i64 (secs y mo d h mi s z)) ∧ Below w.heap.size w w' := by
  have hdb := dby_bd r.y1 (by have := r.y2; omega)
  have hdm := (dim_bd y mo).2
  have HY := hide (And.intro r.y1 r.y2)
  obtain ⟨y1, y2, m1, m2, d1, d2, h1, h2, n1, n2, s1, s2, z1, z2, gz⟩ := r
  have d3 : d ≤ 31 := by omega
  clear d2 hdm gz
  go_enter Tryd.func14, Tryd.ntmps14
  go_wp2_with fail
  go_quiet ((go_at_call 24; exact Calls.quiet_of_same (s_days _ _ (by omega) (by omega))))
  go_wp2
  go_loop [3, 4] (fun a m => ∃ k : Nat, (k : Int) + 1 ≤ mo ∧ m = .int .i64 ((k : Int) + 1) ∧ a = .int .i64 (dby y + d - 1 + cumN y k)) (fun _ m => (mo - intOf m).toNat)
  case atStart => exact ⟨0, by omega, rfl, by simp [cumN]⟩
  case round =>
    obtain ⟨k, hk, rfl, rfl⟩ := hrel
    have hc := cumN_bd HY.out k (by omega)
    by_cases hlt : (k : Int) + 1 < mo
    · have hc2 := (dim_bd y ((k : Int) + 1)).2
      have hc1 := dim_lo (y := y) (m := (k : Int) + 1) HY.out (by omega)
      go_wp2_with (go_at_call 16; refine (s_dim _ _ _).mono ?_; rintro e w' ⟨rfl, rfl⟩)
      go_round
      case rel => exact ⟨k + 1, by omega, by go_num, by simp only [cumN]; go_num⟩
      case measure => simp [intOf]; omega
    · have HK : k = (mo - 1).toNat := by omega
      have HK' := hide HK
      clear HK
      go_wp2
      go_ret
      exact ⟨ret_int (by unfold secs lsec; rw [← HK'.out]; try omega), below_drawn ((Below.refl _ _).alloc (Nat.le_refl _) _) _⟩
set_option maxHeartbeats 2000000 in
theorem i_lsec (y mo d h mi s : Int) (g : Bool) (z : Int) (w : World) (r : Rt y mo d h mi s g z) (ht : MTab 0 w) : Calls Tryd.prog 13 #[.agg #[.int .i64 y, .int .i64 mo, .int .i64 d, .int .i64 h, .int .i64 mi, .int .i64 s, .bool g, .int .i64 z]] w fun e w' => e = .returned (.int .i64 (lsec y mo d h mi s)) ∧ Below w.heap.size w w' := by
  have HT := hide (mtab_box ht (.cells #[.int .i64 y, .int .i64 mo, .int .i64 d, .int .i64 h, .int .i64 mi, .int .i64 s, .bool g, .int .i64 z] 25))
  clear ht
  have hdb := dby_bd r.y1 (by have := r.y2; omega)
  have hdm := (dim_bd y mo).2
  have HY := hide (And.intro r.y1 r.y2)
  obtain ⟨y1, y2, m1, m2, d1, d2, h1, h2, n1, n2, s1, s2, z1, z2, gz⟩ := r
  have d3 : d ≤ 31 := by omega
  clear d2 hdm gz
  go_enter Tryd.func13, Tryd.ntmps13
  go_wp2_with fail
  go_quiet ((go_at_call 23; exact Calls.quiet_of_same (i_days _ _ (by omega) (by omega))))
  go_wp2
  go_loop [3, 4] (fun a m => ∃ k : Nat, (k : Int) + 1 ≤ mo ∧ m = .int .i64 ((k : Int) + 1) ∧ a = .int .i64 (dby y + d - 1 + cumN y k)) (fun _ m => (mo - intOf m).toNat)
  case atStart => exact ⟨0, by omega, rfl, by simp [cumN]⟩
  case round =>
    obtain ⟨k, hk, rfl, rfl⟩ := hrel
    have hc := cumN_bd HY.out k (by omega)
    by_cases hlt : (k : Int) + 1 < mo
    · have hc2 := (dim_bd y ((k : Int) + 1)).2
      have hc1 := dim_lo (y := y) (m := (k : Int) + 1) HY.out (by omega)
      go_wp2_with (go_at_call 9; refine (i_dim _ _ _ (mtab_drew HT.out _)).mono ?_; rintro e w' ⟨rfl, rfl⟩)
      go_round
      case rel => exact ⟨k + 1, by omega, by go_num, by simp only [cumN]; go_num⟩
      case measure => simp [intOf]; omega
    · have HK : k = (mo - 1).toNat := by omega
      have HK' := hide HK
      clear HK
      go_wp2
      go_ret
      exact ⟨ret_int (by unfold lsec; rw [← HK'.out]; try omega), below_drawn ((Below.refl _ _).alloc (Nat.le_refl _) _) _⟩
theorem wrap_ok {n : Int} (h1 : -9223372036854775808 ≤ n) (h2 : n ≤ 9223372036854775807) : IntKind.i64.wrap n = n := by
  first | (simp [IntKind.wrap, IntKind.signed, IntKind.bits]; omega) | (unfold IntKind.wrap; simp; omega)
theorem below_drew1 {w wn : World} (h : Below w.drew.heap.size w.drew wn) : Below w.heap.size w wn := ⟨h.os, h.tape, h.output, h.size, h.block⟩
theorem below_drew2 {B : Nat} {w wn : World} (h : Below B w wn) : Below B w wn.drew := ⟨h.os, h.tape, h.output, h.size, h.block⟩
theorem mtab_drew1 {g : Nat} {w : World} (h : MTab g w) : MTab g w.drew := h
/-- The seconds that SecondsOf answers. -/
def secsB (y mo d h mi s : Int) (g : Bool) (z : Int) : Int := if dateB y mo d h mi s g z = true then secs y mo d h mi s z else -1
set_option maxHeartbeats 2000000 in
theorem s_seconds (y mo d h mi s : Int) (g : Bool) (z : Int) (w : World) : Calls Tryd.prog 7 #[.agg #[.int .i64 y, .int .i64 mo, .int .i64 d, .int .i64 h, .int .i64 mi, .int .i64 s, .bool g, .int .i64 z]] w fun e w' => e = .returned (.int .i64 (secsB y mo d h mi s g z)) ∧ Below w.heap.size w w' := by
  cases hd : dateB y mo d h mi s g z
  · go_enter Tryd.func7, Tryd.ntmps7
    go_wp2_with fail
    refine (s_dateok y mo d h mi s g z _).mono ?_
    rintro e w1 ⟨rfl, hb1⟩
    have HB := hide (box_below hb1)
    clear hb1
    go_wp2
    go_ret
    exact ⟨ret_int (by simp [secsB, hd]), HB.out⟩
  · go_enter Tryd.func7, Tryd.ntmps7
    go_wp2_with fail
    refine (s_dateok y mo d h mi s g z _).mono ?_
    rintro e w1 ⟨rfl, hb1⟩
    have HB := hide (box_below hb1)
    obtain ⟨k0, k1, k2, k3, k4, k5, k6, k7, k8⟩ := dbox_go (dbox_new w y mo d h mi s g z _) hb1
    clear hb1
    go_wp2_with fail
    refine (s_l5sec y mo d h mi s g z _ (rt_of hd)).mono ?_
    rintro e w2 ⟨rfl, hb2⟩
    have HB2 := hide (below_go HB.out hb2)
    clear hb2
    go_wp2
    go_ret
    exact ⟨ret_int (by simp [secsB, hd]), HB2.out⟩
set_option maxHeartbeats 2000000 in
theorem i_seconds (y mo d h mi s : Int) (g : Bool) (z : Int) (w : World) (ht : MTab 0 w) : Calls Tryd.prog 6 #[.agg #[.int .i64 y, .int .i64 mo, .int .i64 d, .int .i64 h, .int .i64 mi, .int .i64 s, .bool g, .int .i64 z]] w fun e w' => e = .returned (.int .i64 (secsB y mo d h mi s g z)) ∧ Below w.heap.size w w' := by
  have HT := hide (mtab_box ht (.cells #[.int .i64 y, .int .i64 mo, .int .i64 d, .int .i64 h, .int .i64 mi, .int .i64 s, .bool g, .int .i64 z] 25))
  clear ht
  cases hd : dateB y mo d h mi s g z
  · go_enter Tryd.func6, Tryd.ntmps6
    go_wp2_with fail
    refine (i_dateok y mo d h mi s g z _ HT.out).mono ?_
    rintro e w1 ⟨rfl, hb1⟩
    have HB := hide (box_below hb1)
    clear hb1
    go_wp2
    go_ret
    exact ⟨ret_int (by simp [secsB, hd]), HB.out⟩
  · have r := rt_of hd
    have HR := hide r
    have hlb := lsec_bd r
    have z1 := r.z1
    have z2 := r.z2
    have WZ1 := hide (show IntKind.i64.wrap (z * 60) = z * 60 from wrap_ok (by omega) (by omega))
    have WZ2 := hide (show IntKind.i64.wrap (lsec y mo d h mi s - z * 60) = lsec y mo d h mi s - z * 60 from wrap_ok (by omega) (by omega))
    clear r
    go_enter Tryd.func6, Tryd.ntmps6
    go_wp2_with fail
    refine (i_dateok y mo d h mi s g z _ HT.out).mono ?_
    rintro e w1 ⟨rfl, hb1⟩
    have HB := hide (box_below hb1)
    have HT1 := hide (mtab_go HT.out hb1)
    have hx := dbox_go (dbox_new w y mo d h mi s g z _) hb1
    have HX := hide hx
    obtain ⟨k0, k1, k2, k3, k4, k5, k6, k7, k8⟩ := hx
    have HZ := hide hb1.size
    clear hb1
    go_wp2_with fail
    go_region_with (go_at_call 13; refine (i_lsec y mo d h mi s g z _ HR.out (by first | exact HT1.out | exact mtab_drew1 HT1.out)).mono ?_; rintro e w2 ⟨rfl, hb2⟩; (first | replace hb2 := below_drew1 hb2 | skip); have HB2 := hide (below_go HB.out hb2); have hx2 := dbox_go HX.out hb2; obtain ⟨j0, j1, j2, j3, j4, j5, j6, j7, j8⟩ := hx2; clear hb2)
    all_goals
      go_wp2
      go_ret
      exact ⟨ret_int (by rw [WZ1.out, WZ2.out]; simp [secsB, hd, secs]; omega), by first | exact HB2.out | exact below_drew2 HB2.out | exact below_drawn HB2.out _⟩
end Go.Proofs.YtaigicdoepdhnabDoor
