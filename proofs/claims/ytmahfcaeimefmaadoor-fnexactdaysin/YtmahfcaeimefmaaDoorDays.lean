/-
  Contracts: what the specification's and the program's DaysIn and their helpers answer at every year and month.
-/
import Derived.Test.YtmahfcaeimefmaaDoorBase
import Derived.Test.YtmahfcaeimefmaaDoorDateMath
import Derived.Test.YtmahfcaeimefmaaDoorChecked
import Derived.WalkKit
import Derived.Below
namespace Go.Proofs.YtmahfcaeimefmaaDoor
open Go.RowKit
set_option linter.unusedSimpArgs false
set_option linter.unusedVariables false
set_option maxHeartbeats 2000000 in
theorem s_in (n a b : Int) (w : World) : Calls Tryd.prog 6 #[.int .i64 n, .int .i64 a, .int .i64 b] w fun e w' => e = .returned (.bool (decide (a ≤ n ∧ n ≤ b))) ∧ w' = w := by
  by_cases h1 : a ≤ n <;> by_cases h2 : n ≤ b
  all_goals
    go_enter Tryd.func6, Tryd.ntmps6
    go_wp2
    go_ret
    exact ⟨ret_bool (by simp [h1, h2]), rfl⟩
set_option maxHeartbeats 2000000 in
theorem i_in (n a b : Int) (w : World) : Calls Tryd.prog 8 #[.int .i64 n, .int .i64 a, .int .i64 b] w fun e w' => e = .returned (.bool (decide (a ≤ n ∧ n ≤ b))) ∧ w' = w := by
  by_cases h1 : a ≤ n <;> by_cases h2 : n ≤ b
  all_goals
    go_enter Tryd.func8, Tryd.ntmps8
    go_wp2
    go_ret
    exact ⟨ret_bool (by simp [h1, h2]), rfl⟩
set_option maxHeartbeats 2000000 in
theorem s_leap (y : Int) (w : World) (h1 : 1 ≤ y) (h2 : y ≤ 9999) : Calls Tryd.prog 7 #[.int .i64 y] w fun e w' => e = .returned (.bool (leapB y)) ∧ w' = w := by
  by_cases k1 : y % 4 = 0 <;> by_cases k2 : y % 100 = 0 <;> by_cases k3 : y % 400 = 0
  all_goals
    go_enter Tryd.func7, Tryd.ntmps7
    go_wp2
    go_ret
    exact ⟨ret_bool (by simp [leapB, k1, k2, k3]), rfl⟩
set_option maxHeartbeats 2000000 in
theorem i_leap (y : Int) (w : World) (h1 : 1 ≤ y) (h2 : y ≤ 9999) : Calls Tryd.prog 9 #[.int .i64 y] w fun e w' => e = .returned (.bool (leapB y)) ∧ w' = w := by
  by_cases k1 : y % 4 = 0 <;> by_cases k2 : y % 100 = 0 <;> by_cases k3 : y % 400 = 0
  all_goals
    go_enter Tryd.func9, Tryd.ntmps9
    go_wp2
    go_ret
    exact ⟨ret_bool (by first | (simp [leapB, k1, k2, k3]; done) | (exfalso; omega)), rfl⟩
set_option maxHeartbeats 4000000 in
theorem s_dim (y m : Int) (w : World) : Calls Tryd.prog 4 #[.int .i64 y, .int .i64 m] w fun e w' => e = .returned (.int .i64 (dim y m)) ∧ w' = w := by
  by_cases hy : 1 ≤ y ∧ y ≤ 9999
  · have hyd : decide (1 ≤ y ∧ y ≤ 9999) = true := by simpa using hy
    by_cases hm : 1 ≤ m ∧ m ≤ 12
    · have hmd : decide (1 ≤ m ∧ m ≤ 12) = true := by simpa using hm
      have HD := hide (dim_in hy hm)
      obtain ⟨hy1, hy2⟩ := hy
      cases hl : leapB y
      all_goals
        rcases mcases hm.1 hm.2 with rfl | rfl | rfl | rfl | rfl | rfl | rfl | rfl | rfl | rfl | rfl | rfl
        all_goals
          go_enter Tryd.func4, Tryd.ntmps4
          go_wp2_with (first | (go_at_call 6; refine (s_in _ _ _ _).mono ?_; rintro e w' ⟨rfl, rfl⟩) | (go_at_call 7; refine (s_leap _ _ (by omega) (by omega)).mono ?_; rintro e w' ⟨rfl, rfl⟩))
          go_ret
          exact ⟨ret_int (by rw [HD.out]; simp [dimIn, hl]), rfl⟩
    · have hmd : decide (1 ≤ m ∧ m ≤ 12) = false := by simpa using hm
      have HD := hide (dim_out (y := y) (m := m) (by omega))
      go_enter Tryd.func4, Tryd.ntmps4
      go_wp2_with (first | (go_at_call 6; refine (s_in _ _ _ _).mono ?_; rintro e w' ⟨rfl, rfl⟩))
      go_ret
      exact ⟨ret_int HD.out.symm, rfl⟩
  · have hyd : decide (1 ≤ y ∧ y ≤ 9999) = false := by simpa using hy
    have HD := hide (dim_out (y := y) (m := m) (by omega))
    go_enter Tryd.func4, Tryd.ntmps4
    go_wp2_with (first | (go_at_call 6; refine (s_in _ _ _ _).mono ?_; rintro e w' ⟨rfl, rfl⟩))
    go_ret
    exact ⟨ret_int HD.out.symm, rfl⟩
set_option maxHeartbeats 4000000 in
theorem i_dim (y m : Int) (w : World) (ht : MTab 0 w) : Calls Tryd.prog 5 #[.int .i64 y, .int .i64 m] w fun e w' => e = .returned (.int .i64 (dim y m)) ∧ w' = w := by
  have HT := hide ht
  clear ht
  by_cases hy : 1 ≤ y ∧ y ≤ 9999
  · have hyd : decide (1 ≤ y ∧ y ≤ 9999) = true := by simpa using hy
    by_cases hm : 1 ≤ m ∧ m ≤ 12
    · have hmd : decide (1 ≤ m ∧ m ≤ 12) = true := by simpa using hm
      have HD := hide (dim_in hy hm)
      obtain ⟨hy1, hy2⟩ := hy
      have c0 : w.cell? ⟨0, 0, none⟩ = some (.int .i64 31) := HT.out.2 0 (by omega)
      have c1 : w.cell? ⟨0, 1, none⟩ = some (.int .i64 28) := HT.out.2 1 (by omega)
      have c2 : w.cell? ⟨0, 2, none⟩ = some (.int .i64 31) := HT.out.2 2 (by omega)
      have c3 : w.cell? ⟨0, 3, none⟩ = some (.int .i64 30) := HT.out.2 3 (by omega)
      have c4 : w.cell? ⟨0, 4, none⟩ = some (.int .i64 31) := HT.out.2 4 (by omega)
      have c5 : w.cell? ⟨0, 5, none⟩ = some (.int .i64 30) := HT.out.2 5 (by omega)
      have c6 : w.cell? ⟨0, 6, none⟩ = some (.int .i64 31) := HT.out.2 6 (by omega)
      have c7 : w.cell? ⟨0, 7, none⟩ = some (.int .i64 31) := HT.out.2 7 (by omega)
      have c8 : w.cell? ⟨0, 8, none⟩ = some (.int .i64 30) := HT.out.2 8 (by omega)
      have c9 : w.cell? ⟨0, 9, none⟩ = some (.int .i64 31) := HT.out.2 9 (by omega)
      have c10 : w.cell? ⟨0, 10, none⟩ = some (.int .i64 30) := HT.out.2 10 (by omega)
      have c11 : w.cell? ⟨0, 11, none⟩ = some (.int .i64 31) := HT.out.2 11 (by omega)
      cases hl : leapB y
      all_goals
        rcases mcases hm.1 hm.2 with rfl | rfl | rfl | rfl | rfl | rfl | rfl | rfl | rfl | rfl | rfl | rfl
        all_goals
          go_enter Tryd.func5, Tryd.ntmps5
          go_wp2_with (first | (go_at_call 8; refine (i_in _ _ _ _).mono ?_; rintro e w' ⟨rfl, rfl⟩) | (go_at_call 9; refine (i_leap _ _ (by omega) (by omega)).mono ?_; rintro e w' ⟨rfl, rfl⟩))
          go_ret
          exact ⟨ret_int (by rw [HD.out]; simp [dimIn, hl]), rfl⟩
    · have hmd : decide (1 ≤ m ∧ m ≤ 12) = false := by simpa using hm
      have HD := hide (dim_out (y := y) (m := m) (by omega))
      go_enter Tryd.func5, Tryd.ntmps5
      go_wp2_with (first | (go_at_call 8; refine (i_in _ _ _ _).mono ?_; rintro e w' ⟨rfl, rfl⟩))
      go_ret
      exact ⟨ret_int HD.out.symm, rfl⟩
  · have hyd : decide (1 ≤ y ∧ y ≤ 9999) = false := by simpa using hy
    have HD := hide (dim_out (y := y) (m := m) (by omega))
    go_enter Tryd.func5, Tryd.ntmps5
    go_wp2_with (first | (go_at_call 8; refine (i_in _ _ _ _).mono ?_; rintro e w' ⟨rfl, rfl⟩))
    go_ret
    exact ⟨ret_int HD.out.symm, rfl⟩
end Go.Proofs.YtmahfcaeimefmaaDoor
