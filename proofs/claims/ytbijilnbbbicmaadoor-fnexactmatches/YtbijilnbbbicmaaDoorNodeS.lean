/-
  Contracts: what spec.l6NodeOk answers at every node; nothing old has turned.
-/
import Derived.Test.YtbijilnbbbicmaaDoorRngEq
import Derived.Deep.DeepCutAuto
namespace Go.Proofs.YtbijilnbbbicmaaDoor
open Go.RowKit Go.Joins
set_option linter.unusedVariables false
set_option linter.unusedSimpArgs false
theorem s_in (n a b : Int) (w : World) : Calls Tryd.prog 34 #[.int .i64 n, .int .i64 a, .int .i64 b] w fun e w' => e = .returned (.bool (decide (a ≤ n ∧ n ≤ b))) ∧ w' = w := by
  by_cases h : a ≤ n ∧ n ≤ b
  · rw [decide_eq_true h]; exact s_inT n a b w h
  · rw [decide_eq_false h]; exact s_inF n a b w h
set_option maxRecDepth 100000 in
set_option maxHeartbeats 2000000 in
theorem s_node1 (nt : Bool) (a : Option Addr) (n c : Nat) (A B mn mx : Int) (L H : Nat → Int) (w : World) (hn : n ≤ maxLen) : Calls Tryd.prog 20 #[.agg #[.int .i64 1, .bool nt, .slice a n c, .int .i64 A, .int .i64 B, .int .i64 mn, .int .i64 mx]] w fun e w' => e = .returned (.bool (nodeB 1 nt n L H A B mn mx)) ∧ Below w.heap.size w w' := by
  unfold maxLen at hn
  go_enter Tryd.func20, Tryd.ntmps20
  go_wp2
  all_goals
    go_ret
    exact ⟨ret_bool (by first | (simp_all [nodeB]; done) | (simp_all [nodeB]; intros; omega)), (Below.refl _ _).alloc (Nat.le_refl _) _⟩
set_option maxRecDepth 100000 in
set_option maxHeartbeats 2000000 in
theorem s_node3 (nt : Bool) (a : Option Addr) (n c : Nat) (A B mn mx : Int) (L H : Nat → Int) (w : World) (hn : n ≤ maxLen) : Calls Tryd.prog 20 #[.agg #[.int .i64 3, .bool nt, .slice a n c, .int .i64 A, .int .i64 B, .int .i64 mn, .int .i64 mx]] w fun e w' => e = .returned (.bool (nodeB 3 nt n L H A B mn mx)) ∧ Below w.heap.size w w' := by
  unfold maxLen at hn
  go_enter Tryd.func20, Tryd.ntmps20
  go_wp2
  all_goals
    go_ret
    exact ⟨ret_bool (by first | (simp_all [nodeB]; done) | (simp_all [nodeB]; intros; omega)), (Below.refl _ _).alloc (Nat.le_refl _) _⟩
set_option maxRecDepth 100000 in
set_option maxHeartbeats 2000000 in
theorem s_node4 (nt : Bool) (a : Option Addr) (n c : Nat) (A B mn mx : Int) (L H : Nat → Int) (w : World) (hn : n ≤ maxLen) : Calls Tryd.prog 20 #[.agg #[.int .i64 4, .bool nt, .slice a n c, .int .i64 A, .int .i64 B, .int .i64 mn, .int .i64 mx]] w fun e w' => e = .returned (.bool (nodeB 4 nt n L H A B mn mx)) ∧ Below w.heap.size w w' := by
  unfold maxLen at hn
  go_enter Tryd.func20, Tryd.ntmps20
  go_wp2
  all_goals
    go_ret
    exact ⟨ret_bool (by first | (simp_all [nodeB]; done) | (simp_all [nodeB]; intros; omega)), (Below.refl _ _).alloc (Nat.le_refl _) _⟩
set_option maxRecDepth 100000 in
set_option maxHeartbeats 2000000 in
theorem s_node5 (nt : Bool) (a : Option Addr) (n c : Nat) (A B mn mx : Int) (L H : Nat → Int) (w : World) (hn : n ≤ maxLen) : Calls Tryd.prog 20 #[.agg #[.int .i64 5, .bool nt, .slice a n c, .int .i64 A, .int .i64 B, .int .i64 mn, .int .i64 mx]] w fun e w' => e = .returned (.bool (nodeB 5 nt n L H A B mn mx)) ∧ Below w.heap.size w w' := by
  unfold maxLen at hn
  go_enter Tryd.func20, Tryd.ntmps20
  go_wp2_with (go_at_call 34; refine (s_in _ _ _ _).mono ?_; rintro e w' ⟨rfl, rfl⟩)
  all_goals
    go_ret
    exact ⟨ret_bool (by first | (simp_all [nodeB]; done) | (simp_all [nodeB]; intros; omega)), (Below.refl _ _).alloc (Nat.le_refl _) _⟩
set_option maxRecDepth 100000 in
set_option maxHeartbeats 2000000 in
theorem s_node0 (nt : Bool) (a : Option Addr) (n c : Nat) (A B mn mx : Int) (L H : Nat → Int) (w : World) (hn : n ≤ maxLen) (kd : Int) (hk : ¬ kd = 1 ∧ ¬ kd = 2 ∧ ¬ kd = 3 ∧ ¬ kd = 4 ∧ ¬ kd = 5) : Calls Tryd.prog 20 #[.agg #[.int .i64 kd, .bool nt, .slice a n c, .int .i64 A, .int .i64 B, .int .i64 mn, .int .i64 mx]] w fun e w' => e = .returned (.bool (nodeB kd nt n L H A B mn mx)) ∧ Below w.heap.size w w' := by
  unfold maxLen at hn
  obtain ⟨k1, k2, k3, k4, k5⟩ := hk
  have e1 : (kd == 1) = false := by simpa using k1
  have e2 : (kd == 2) = false := by simpa using k2
  have e3 : (kd == 3) = false := by simpa using k3
  have e4 : (kd == 4) = false := by simpa using k4
  have e5 : (kd == 5) = false := by simpa using k5
  go_enter Tryd.func20, Tryd.ntmps20
  go_wp2
  go_ret
  exact ⟨ret_bool (by simp [nodeB, k1, k2, k3, k4, k5]), (Below.refl _ _).alloc (Nat.le_refl _) _⟩
end Go.Proofs.YtbijilnbbbicmaaDoor
