/-
  Contracts: what the specification's and the program's DaysIn and their helpers answer at every year and month.
-/
import Derived.Test.YtaigicdoepdhnaaDoorBase
import Derived.Test.YtaigicdoepdhnaaDoorDateMath
import Derived.Test.YtaigicdoepdhnaaDoorChecked
import Derived.WalkKit
import Derived.Below
namespace Go.Proofs.YtaigicdoepdhnaaDoor
open Go.RowKit
set_option linter.unusedSimpArgs false
set_option linter.unusedVariables false
set_option maxHeartbeats 2000000 in
theorem s_in (n a b : Int) (w : World) : Calls Tryd.prog 28 #[.int .i64 n, .int .i64 a, .int .i64 b] w fun e w' => e = .returned (.bool (inB a n b)) ∧ w' = w := by
  by_cases h1 : a ≤ n <;> by_cases h2 : n ≤ b
  all_goals
    go_enter Tryd.func28, Tryd.ntmps28
    go_wp2
    go_ret
    exact ⟨ret_bool (by simp [inB, h1, h2]), rfl⟩
set_option maxHeartbeats 2000000 in
theorem i_in (n a b : Int) (w : World) : Calls Tryd.prog 22 #[.int .i64 n, .int .i64 a, .int .i64 b] w fun e w' => e = .returned (.bool (inB a n b)) ∧ w' = w := by
  by_cases h1 : a ≤ n <;> by_cases h2 : n ≤ b
  all_goals
    go_enter Tryd.func22, Tryd.ntmps22
    go_wp2
    go_ret
    exact ⟨ret_bool (by simp [inB, h1, h2]), rfl⟩
theorem s_inT (n a b : Int) (w : World) (h : inB a n b = true) : Calls Tryd.prog 28 #[.int .i64 n, .int .i64 a, .int .i64 b] w fun e w' => e = .returned (.bool true) ∧ w' = w := by
  have := s_in n a b w; rwa [h] at this
theorem s_inF (n a b : Int) (w : World) (h : inB a n b = false) : Calls Tryd.prog 28 #[.int .i64 n, .int .i64 a, .int .i64 b] w fun e w' => e = .returned (.bool false) ∧ w' = w := by
  have := s_in n a b w; rwa [h] at this
theorem i_inT (n a b : Int) (w : World) (h : inB a n b = true) : Calls Tryd.prog 22 #[.int .i64 n, .int .i64 a, .int .i64 b] w fun e w' => e = .returned (.bool true) ∧ w' = w := by
  have := i_in n a b w; rwa [h] at this
theorem i_inF (n a b : Int) (w : World) (h : inB a n b = false) : Calls Tryd.prog 22 #[.int .i64 n, .int .i64 a, .int .i64 b] w fun e w' => e = .returned (.bool false) ∧ w' = w := by
  have := i_in n a b w; rwa [h] at this
set_option maxHeartbeats 2000000 in
theorem s_leap (y : Int) (w : World) (h1 : 1 ≤ y) (h2 : y ≤ 9999) : Calls Tryd.prog 38 #[.int .i64 y] w fun e w' => e = .returned (.bool (leapB y)) ∧ w' = w := by
  by_cases k1 : y % 4 = 0 <;> by_cases k2 : y % 100 = 0 <;> by_cases k3 : y % 400 = 0
  all_goals
    go_enter Tryd.func38, Tryd.ntmps38
    go_wp2
    go_ret
    exact ⟨ret_bool (by simp [leapB, k1, k2, k3]), rfl⟩
set_option maxHeartbeats 2000000 in
theorem i_leap (y : Int) (w : World) (h1 : 1 ≤ y) (h2 : y ≤ 9999) : Calls Tryd.prog 34 #[.int .i64 y] w fun e w' => e = .returned (.bool (leapB y)) ∧ w' = w := by
  by_cases k1 : y % 4 = 0 <;> by_cases k2 : y % 100 = 0 <;> by_cases k3 : y % 400 = 0
  all_goals
    go_enter Tryd.func34, Tryd.ntmps34
    go_wp2
    go_ret
    exact ⟨ret_bool (by first | (simp [leapB, k1, k2, k3]; done) | (exfalso; omega)), rfl⟩
set_option maxHeartbeats 4000000 in
theorem s_dim (y m : Int) (w : World) : Calls Tryd.prog 29 #[.int .i64 y, .int .i64 m] w fun e w' => e = .returned (.int .i64 (dim y m)) ∧ w' = w := by
  by_cases hy : 1 ≤ y ∧ y ≤ 9999
  · have hyd := inB_t hy
    by_cases hm : 1 ≤ m ∧ m ≤ 12
    · have hmd := inB_t hm
      have HD := hide (dim_in hy hm)
      obtain ⟨hy1, hy2⟩ := hy
      cases hl : leapB y
      all_goals
        rcases mcases hm.1 hm.2 with rfl | rfl | rfl | rfl | rfl | rfl | rfl | rfl | rfl | rfl | rfl | rfl
        all_goals
          go_enter Tryd.func29, Tryd.ntmps29
          go_wp2_with (first | (go_at_call 28; refine (s_in _ _ _ _).mono ?_; rintro e w' ⟨rfl, rfl⟩) | (go_at_call 38; refine (s_leap _ _ (by omega) (by omega)).mono ?_; rintro e w' ⟨rfl, rfl⟩))
          go_ret
          exact ⟨ret_int (by rw [HD.out]; simp [dimIn, hl]), rfl⟩
    · have hmd := inB_f hm
      have HD := hide (dim_out (y := y) (m := m) (by omega))
      go_enter Tryd.func29, Tryd.ntmps29
      go_wp2_with (first | (go_at_call 28; refine (s_in _ _ _ _).mono ?_; rintro e w' ⟨rfl, rfl⟩))
      go_ret
      exact ⟨ret_int HD.out.symm, rfl⟩
  · have hyd := inB_f hy
    have HD := hide (dim_out (y := y) (m := m) (by omega))
    go_enter Tryd.func29, Tryd.ntmps29
    go_wp2_with (first | (go_at_call 28; refine (s_in _ _ _ _).mono ?_; rintro e w' ⟨rfl, rfl⟩))
    go_ret
    exact ⟨ret_int HD.out.symm, rfl⟩
set_option maxHeartbeats 4000000 in
theorem i_dim (y m : Int) (w : World) (ht : MTab 0 w) : Calls Tryd.prog 23 #[.int .i64 y, .int .i64 m] w fun e w' => e = .returned (.int .i64 (dim y m)) ∧ w' = w := by
  have HT := hide ht
  clear ht
  by_cases hy : 1 ≤ y ∧ y ≤ 9999
  · have hyd := inB_t hy
    by_cases hm : 1 ≤ m ∧ m ≤ 12
    · have hmd := inB_t hm
      have HD := hide (dim_in hy hm)
      obtain ⟨hy1, hy2⟩ := hy
      have c0 : w.cell? ⟨0, 0, none⟩ = some (.int .i64 31) := HT.out.2 0 (by omega)
      have c1 : w.cell? ⟨0, 1, none⟩ = some (.int .i64 28) := HT.out.2 1 (by omega)
      have c2 : w.cell? ⟨0, 2, none⟩ = some (.int .i64 31) := HT.out.2 2 (by omega)
      have c3 : w.cell? ⟨0, 3, none⟩ = some (.int .i64 30) := HT.out.2 3 (by omega)
      have c4 : w.cell? ⟨0, 4, none⟩ = some (.int .i64 31) := HT.out.2 4 (by omega)
      have c5 : w.cell? ⟨0, 5, none⟩ = some (.int .i64 30) := HT.out.2 5 (by omega)
      have c6 : w.cell? ⟨0, 6, none⟩ = some (.int .i64 31) := HT.out.2 6 (by omega)
      have c7 : w.cell? ⟨0, 7, none⟩ = some (.int .i64 31) := HT.out.2 7 (by omega)
      have c8 : w.cell? ⟨0, 8, none⟩ = some (.int .i64 30) := HT.out.2 8 (by omega)
      have c9 : w.cell? ⟨0, 9, none⟩ = some (.int .i64 31) := HT.out.2 9 (by omega)
      have c10 : w.cell? ⟨0, 10, none⟩ = some (.int .i64 30) := HT.out.2 10 (by omega)
      have c11 : w.cell? ⟨0, 11, none⟩ = some (.int .i64 31) := HT.out.2 11 (by omega)
      cases hl : leapB y
      all_goals
        rcases mcases hm.1 hm.2 with rfl | rfl | rfl | rfl | rfl | rfl | rfl | rfl | rfl | rfl | rfl | rfl
        all_goals
          go_enter Tryd.func23, Tryd.ntmps23
          go_wp2_with (first | (go_at_call 22; refine (i_in _ _ _ _).mono ?_; rintro e w' ⟨rfl, rfl⟩) | (go_at_call 34; refine (i_leap _ _ (by omega) (by omega)).mono ?_; rintro e w' ⟨rfl, rfl⟩))
          go_ret
          exact ⟨ret_int (by rw [HD.out]; simp [dimIn, hl]), rfl⟩
    · have hmd := inB_f hm
      have HD := hide (dim_out (y := y) (m := m) (by omega))
      go_enter Tryd.func23, Tryd.ntmps23
      go_wp2_with (first | (go_at_call 22; refine (i_in _ _ _ _).mono ?_; rintro e w' ⟨rfl, rfl⟩))
      go_ret
      exact ⟨ret_int HD.out.symm, rfl⟩
  · have hyd := inB_f hy
    have HD := hide (dim_out (y := y) (m := m) (by omega))
    go_enter Tryd.func23, Tryd.ntmps23
    go_wp2_with (first | (go_at_call 22; refine (i_in _ _ _ _).mono ?_; rintro e w' ⟨rfl, rfl⟩))
    go_ret
    exact ⟨ret_int HD.out.symm, rfl⟩
end Go.Proofs.YtaigicdoepdhnaaDoor
