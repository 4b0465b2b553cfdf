/-
  Contracts: the text of a date: the specification's.
-/
import Derived.Test.YtaigicdoepdhnaaDoorDt2
import Derived.Deep.DeepCutAuto
namespace Go.Proofs.YtaigicdoepdhnaaDoor
open Go.RowKit Go.Joins
set_option linter.unusedVariables false
set_option linter.unusedSimpArgs false
/-- A date in its box. -/
def DX (w w' : World) (y mo d h mi s : Int) (g : Bool) (z : Int) : Prop := DBox w' w.heap.size y mo d h mi s g z ∧ Below w.heap.size w w'
section
variable {w w1 w2 : World} {y mo d h mi s : Int} {g : Bool} {z : Int}
theorem dx_go (x : DX w w1 y mo d h mi s g z) (k : Below w1.heap.size w1 w2) : DX w w2 y mo d h mi s g z := ⟨dbox_go x.1 k, x.2.trans (k.mono x.2.size)⟩
theorem dx_drew (x : DX w w1 y mo d h mi s g z) : DX w w1.drew y mo d h mi s g z := dx_go x ⟨rfl, rfl, rfl, Nat.le_refl _, fun _ _ => rfl⟩
theorem dx_all (x : DX w w1 y mo d h mi s g z) : DX w w1 y mo d h mi s g z ∧ w1.cell? ⟨w.heap.size, 0, none⟩ = some (.int .i64 y) ∧ w1.cell? ⟨w.heap.size, 1, none⟩ = some (.int .i64 mo) ∧ w1.cell? ⟨w.heap.size, 2, none⟩ = some (.int .i64 d) ∧ w1.cell? ⟨w.heap.size, 3, none⟩ = some (.int .i64 h) ∧ w1.cell? ⟨w.heap.size, 4, none⟩ = some (.int .i64 mi) ∧ w1.cell? ⟨w.heap.size, 5, none⟩ = some (.int .i64 s) ∧ w1.cell? ⟨w.heap.size, 6, none⟩ = some (.bool g) ∧ w1.cell? ⟨w.heap.size, 7, none⟩ = some (.int .i64 z) := ⟨x, x.1.2⟩
end
theorem date_bounds {y mo d h mi s : Int} {g : Bool} {z : Int} (x : dateB y mo d h mi s g z = true) : (1 ≤ y ∧ y ≤ 9999) ∧ (1 ≤ mo ∧ mo ≤ 12) ∧ (1 ≤ d ∧ d ≤ dim y mo) ∧ (0 ≤ h ∧ h ≤ 23) ∧ (0 ≤ mi ∧ mi ≤ 59) ∧ (0 ≤ s ∧ s ≤ 59) ∧ (-840 ≤ z ∧ z ≤ 840) := by
  simp only [dateB, inB, Bool.and_eq_true, decide_eq_true_eq] at x
  exact ⟨x.1, x.2.1, x.2.2.1, x.2.2.2.1, x.2.2.2.2.1, x.2.2.2.2.2.1, x.2.2.2.2.2.2.1⟩
theorem app_nil (a : ByteArray) : a ++ (⟨#[]⟩ : ByteArray) = a := by
  apply ByteArray.ext
  simp
set_option maxRecDepth 100000 in
set_option maxHeartbeats 8000000 in
theorem s_dtext (y mo d h mi s : Int) (g : Bool) (z : Int) (w : World) : Calls Tryd.prog 8 #[.agg #[.int .i64 y, .int .i64 mo, .int .i64 d, .int .i64 h, .int .i64 mi, .int .i64 s, .bool g, .int .i64 z]] w fun e w' => e = .returned (.string (dtB y mo d h mi s g z)) ∧ Below w.heap.size w w' := by
  cases hd : dateB y mo d h mi s g z
  · go_enter Tryd.func8, Tryd.ntmps8
    go_wp2_with fail
    refine (s_dateok y mo d h mi s g z _).mono ?_
    rintro e w1 ⟨rfl, hb1⟩
    rw [hd]
    have HB1 := hide (box_below hb1)
    clear hb1
    go_wp2
    go_ret
    exact ⟨ret_st (by simp [dtB, hd]), HB1.out⟩
  · obtain ⟨⟨y0, y1⟩, ⟨m0, m1⟩, ⟨d0, d1⟩, ⟨h0, h1⟩, ⟨i0, i1⟩, ⟨s0, s1⟩, ⟨z0, z1⟩⟩ := date_bounds hd
    have d2 : d ≤ 31 := by have := dim_bd y mo; omega
    have HV : Hid (dtB y mo d h mi s g z = dayB y mo d ++ (chB1 84 ++ (clockB h mi ++ (chB1 58 ++ (twoB s ++ zoneB g z))))) := hide (by rw [dtB, if_pos hd])
    have hsz : ∀ n, (twoB n).size = 2 := two_size
    have q1 : IntKind.i64.wrap (y.tdiv 100) = y / 100 := by rw [Int.tdiv_eq_ediv_of_nonneg (by omega), IntKind.wrap_i64]; omega
    have q2 : y.tmod 100 = y % 100 := Int.tmod_eq_emod_of_nonneg (by omega)
    have q3 : IntKind.i64.wrap (y.tmod 100) = y % 100 := by rw [q2, IntKind.wrap_i64]; omega
    have Q1 := hide q1
    have Q2 := hide q2
    have Q3 := hide q3
    clear q1 q2 q3
    go_enter Tryd.func8, Tryd.ntmps8
    go_wp2_with fail
    refine (s_dateok y mo d h mi s g z _).mono ?_
    rintro e w1 ⟨rfl, hb1⟩
    rw [hd]
    have HX : Hid (DX w w1 y mo d h mi s g z) := ⟨dbox_go (dbox_new w y mo d h mi s g z _) hb1, box_below hb1⟩
    clear hb1 hd
    have hS0 := dx_all (dx_drew HX.out)
    go_wp2_with fail
    go_cut [3] (fun v3 wx => ∃ T : ByteArray, v3 = .string T ∧ T.size ≤ 30 ∧ Hid (T = dayB y mo d ++ (chB1 84 ++ (clockB h mi ++ (chB1 58 ++ twoB s)))) ∧ Hid (DX w wx y mo d h mi s g z))
    case first =>
      go_region_held3 (fun w' => DX w w' y mo d h mi s g z ∧ w'.cell? ⟨w.heap.size, 0, none⟩ = some (.int .i64 y) ∧ w'.cell? ⟨w.heap.size, 1, none⟩ = some (.int .i64 mo) ∧ w'.cell? ⟨w.heap.size, 2, none⟩ = some (.int .i64 d) ∧ w'.cell? ⟨w.heap.size, 3, none⟩ = some (.int .i64 h) ∧ w'.cell? ⟨w.heap.size, 4, none⟩ = some (.int .i64 mi) ∧ w'.cell? ⟨w.heap.size, 5, none⟩ = some (.int .i64 s) ∧ w'.cell? ⟨w.heap.size, 6, none⟩ = some (.bool g) ∧ w'.cell? ⟨w.heap.size, 7, none⟩ = some (.int .i64 z)) (first | assumption | exact dx_all HY.out) (first | (go_at_call 21; refine (s_two _ _ (by first | omega | (rw [Q1.out]; omega) | (rw [Q3.out]; omega) | (rw [Q2.out]; omega)) (by first | omega | (rw [Q1.out]; omega) | (rw [Q3.out]; omega) | (rw [Q2.out]; omega))).mono ?_; rintro e wn ⟨rfl, hbn⟩; (first | (replace HY := hide (dx_go HY.out hbn)) | (have HY := hide (dx_go (dx_drew HX.out) hbn))); clear hbn))
      all_goals
        go_wp2_with fail
        go_meet
        refine ⟨_, rfl, ?_, hide ?_, HY⟩
        · simp only [ByteArray.size_append, hsz]; decide
        · first
            | (rw [Q1.out, Q3.out]; simp only [dayB, yearB, clockB, chB1, ByteArray.append_assoc])
            | (rw [Q1.out, Q2.out]; simp only [dayB, yearB, clockB, chB1, ByteArray.append_assoc])
    case rest =>
      obtain ⟨T, rfl, hTs, HTT, HY⟩ := hcut
      cases g
      · obtain ⟨-, k0, k1, k2, k3, k4, k5, k6, k7⟩ := dx_all HY.out
        go_wp2
        go_ret
        exact ⟨ret_st (by rw [HV.out, HTT.out, show zoneB false z = ⟨#[]⟩ from rfl, app_nil]), HY.out.2⟩
      · rcases (show z = 0 ∨ z < 0 ∨ 0 < z by omega) with hz | hz | hz
        · subst hz
          obtain ⟨-, k0, k1, k2, k3, k4, k5, k6, k7⟩ := dx_all HY.out
          go_wp2
          go_ret
          exact ⟨ret_st (by rw [HV.out, HTT.out]; simp only [zoneB, Bool.true_eq_false, if_false, if_true, chB1, ByteArray.append_assoc]), HY.out.2⟩
        · obtain ⟨u, rfl⟩ : ∃ u, z = -u := ⟨-z, by omega⟩
          have u0 : 0 < u := by omega
          have u1 : u ≤ 840 := by omega
          have e0 : (-u == 0) = false := by simp; omega
          have hS1 := dx_all (dx_drew HY.out)
          obtain ⟨-, k0, k1, k2, k3, k4, k5, k6, k7⟩ := dx_all HY.out
          have p1 : IntKind.i64.wrap (u.tdiv 60) = u / 60 := by rw [Int.tdiv_eq_ediv_of_nonneg (by omega), IntKind.wrap_i64]; omega
          have p2 : u.tmod 60 = u % 60 := Int.tmod_eq_emod_of_nonneg (by omega)
          have p3 : IntKind.i64.wrap (u.tmod 60) = u % 60 := by rw [p2, IntKind.wrap_i64]; omega
          have P0 : Hid (IntKind.i64.wrap u = u) := hide (by rw [IntKind.wrap_i64]; omega)
          have P4 : Hid (IntKind.i64.wrap (u % 60) = u % 60) := hide (by rw [IntKind.wrap_i64]; omega)
          have P1 := hide p1
          have P2 := hide p2
          have P3 := hide p3
          clear p1 p2 p3
          have b1 : ¬ 9223372036854775807 < T.size + 1 := by omega
          have b2 : ¬ 9223372036854775807 < T.size + 1 + 2 := by omega
          have b3 : ¬ 9223372036854775807 < T.size + 1 + 2 + 1 := by omega
          have b4 : ¬ 9223372036854775807 < T.size + 1 + 2 + 1 + 2 := by omega
          go_wp2_with fail
          go_region_held3 (fun w' => DX w w' y mo d h mi s true (-u) ∧ w'.cell? ⟨w.heap.size, 0, none⟩ = some (.int .i64 y) ∧ w'.cell? ⟨w.heap.size, 1, none⟩ = some (.int .i64 mo) ∧ w'.cell? ⟨w.heap.size, 2, none⟩ = some (.int .i64 d) ∧ w'.cell? ⟨w.heap.size, 3, none⟩ = some (.int .i64 h) ∧ w'.cell? ⟨w.heap.size, 4, none⟩ = some (.int .i64 mi) ∧ w'.cell? ⟨w.heap.size, 5, none⟩ = some (.int .i64 s) ∧ w'.cell? ⟨w.heap.size, 6, none⟩ = some (.bool true) ∧ w'.cell? ⟨w.heap.size, 7, none⟩ = some (.int .i64 (-u))) (first | assumption | exact dx_all HW.out) (first | (go_at_call 21; refine (s_two _ _ (by first | omega | (simp only [P0.out, P1.out, P3.out]; omega) | (simp only [P0.out, P1.out, P2.out, P4.out]; omega)) (by first | omega | (simp only [P0.out, P1.out, P3.out]; omega) | (simp only [P0.out, P1.out, P2.out, P4.out]; omega))).mono ?_; rintro e wn ⟨rfl, hbn⟩; (first | (replace HW := hide (dx_go HW.out hbn)) | (have HW := hide (dx_go (dx_drew HY.out) hbn))); clear hbn))
          all_goals
            go_wp2
            go_ret
            refine ⟨ret_st ?_, HW.out.2⟩
            rw [HV.out, HTT.out]
            try simp only [P0.out, P1.out, P3.out]
            try simp only [P0.out, P1.out, P2.out, P4.out]
            simp only [zoneB, Bool.true_eq_false, if_false]
            rw [if_neg (by omega), if_pos (by omega)]; simp only [clockB, chB1, ByteArray.append_assoc, Int.neg_neg]
        · have e0 : (z == 0) = false := by simp; omega
          have e1 : ¬ z < 0 := by omega
          have hS1 := dx_all (dx_drew HY.out)
          obtain ⟨-, k0, k1, k2, k3, k4, k5, k6, k7⟩ := dx_all HY.out
          have p1 : IntKind.i64.wrap (z.tdiv 60) = z / 60 := by rw [Int.tdiv_eq_ediv_of_nonneg (by omega), IntKind.wrap_i64]; omega
          have p2 : z.tmod 60 = z % 60 := Int.tmod_eq_emod_of_nonneg (by omega)
          have p3 : IntKind.i64.wrap (z.tmod 60) = z % 60 := by rw [p2, IntKind.wrap_i64]; omega
          have P0 : Hid (IntKind.i64.wrap z = z) := hide (by rw [IntKind.wrap_i64]; omega)
          have P4 : Hid (IntKind.i64.wrap (z % 60) = z % 60) := hide (by rw [IntKind.wrap_i64]; omega)
          have P1 := hide p1
          have P2 := hide p2
          have P3 := hide p3
          clear p1 p2 p3
          have b1 : ¬ 9223372036854775807 < T.size + 1 := by omega
          have b2 : ¬ 9223372036854775807 < T.size + 1 + 2 := by omega
          have b3 : ¬ 9223372036854775807 < T.size + 1 + 2 + 1 := by omega
          have b4 : ¬ 9223372036854775807 < T.size + 1 + 2 + 1 + 2 := by omega
          go_wp2_with fail
          go_region_held3 (fun w' => DX w w' y mo d h mi s true z ∧ w'.cell? ⟨w.heap.size, 0, none⟩ = some (.int .i64 y) ∧ w'.cell? ⟨w.heap.size, 1, none⟩ = some (.int .i64 mo) ∧ w'.cell? ⟨w.heap.size, 2, none⟩ = some (.int .i64 d) ∧ w'.cell? ⟨w.heap.size, 3, none⟩ = some (.int .i64 h) ∧ w'.cell? ⟨w.heap.size, 4, none⟩ = some (.int .i64 mi) ∧ w'.cell? ⟨w.heap.size, 5, none⟩ = some (.int .i64 s) ∧ w'.cell? ⟨w.heap.size, 6, none⟩ = some (.bool true) ∧ w'.cell? ⟨w.heap.size, 7, none⟩ = some (.int .i64 z)) (first | assumption | exact dx_all HW.out) (first | (go_at_call 21; refine (s_two _ _ (by first | omega | (simp only [P0.out, P1.out, P3.out]; omega) | (simp only [P0.out, P1.out, P2.out, P4.out]; omega)) (by first | omega | (simp only [P0.out, P1.out, P3.out]; omega) | (simp only [P0.out, P1.out, P2.out, P4.out]; omega))).mono ?_; rintro e wn ⟨rfl, hbn⟩; (first | (replace HW := hide (dx_go HW.out hbn)) | (have HW := hide (dx_go (dx_drew HY.out) hbn))); clear hbn))
          all_goals
            go_wp2
            go_ret
            refine ⟨ret_st ?_, HW.out.2⟩
            rw [HV.out, HTT.out]
            try simp only [P0.out, P1.out, P3.out]
            try simp only [P0.out, P1.out, P2.out, P4.out]
            simp only [zoneB, Bool.true_eq_false, if_false]
            rw [if_neg (by omega), if_neg (by omega)]; simp only [clockB, chB1, ByteArray.append_assoc, Int.neg_neg]
end Go.Proofs.YtaigicdoepdhnaaDoor
