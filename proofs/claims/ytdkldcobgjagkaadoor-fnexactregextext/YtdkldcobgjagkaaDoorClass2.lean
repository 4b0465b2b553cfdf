/-
  Contracts: a class as a node: what the specification's and the program's own tests answer; the program's test of a character.
-/
import Derived.Test.YtdkldcobgjagkaaDoorClass
import Derived.Test.YtdkldcobgjagkaaDoorNodeI
namespace Go.Proofs.YtdkldcobgjagkaaDoor
open Go.RowKit Go.Joins
set_option linter.unusedVariables false
set_option linter.unusedSimpArgs false
set_option maxRecDepth 100000 in
set_option maxHeartbeats 2000000 in
theorem i_node2 (nt : Bool) (a : Option Addr) (n c : Nat) (A B mn mx : Int) (L H : Nat → Int) (w : World) (hn : n ≤ maxLen) (hr : RngAt w a n L H w.heap.size) : Calls Tryd.prog 38 #[.agg #[.int .i64 2, .bool nt, .slice a n c, .int .i64 A, .int .i64 B, .int .i64 mn, .int .i64 mx]] w fun e w' => e = .returned (.bool (nodeB 2 nt n L H A B mn mx)) ∧ Below w.heap.size w w' := by
  have HN := hide hn
  have HR := hide hr
  unfold maxLen at hn
  clear hr
  go_enter Tryd.func38, Tryd.ntmps38
  go_wp2_with (go_at_call 57; refine (i_ranges _ _ _ L H _ HN.out (rngAt_up (rngAt_go HR.out ((Below.refl _ _).alloc (Nat.le_refl _) _)) (by simp))).mono ?_; rintro e w2 ⟨rfl, hb2⟩; have HB2 := hide (box_below hb2); clear hb2)
  all_goals
    go_ret
    exact ⟨ret_bool (by simp_all [nodeB]), HB2.out⟩
theorem i_fields (kd : Int) (nt : Bool) (a : Option Addr) (n c : Nat) (A B mn mx : Int) (L H : Nat → Int) (w : World) (hn : n ≤ maxLen) (hr : RngAt w a n L H w.heap.size) : Calls Tryd.prog 38 #[.agg #[.int .i64 kd, .bool nt, .slice a n c, .int .i64 A, .int .i64 B, .int .i64 mn, .int .i64 mx]] w fun e w' => e = .returned (.bool (nodeB kd nt n L H A B mn mx)) ∧ Below w.heap.size w w' := by
  by_cases h1 : kd = 1
  · subst h1; exact i_node1 nt a n c A B mn mx L H w hn
  by_cases h2 : kd = 2
  · subst h2; exact i_node2 nt a n c A B mn mx L H w hn hr
  by_cases h3 : kd = 3
  · subst h3; exact i_node3 nt a n c A B mn mx L H w hn
  by_cases h4 : kd = 4
  · subst h4; exact i_node4 nt a n c A B mn mx L H w hn
  by_cases h5 : kd = 5
  · subst h5; exact i_node5 nt a n c A B mn mx L H w hn
  exact i_node0 nt a n c A B mn mx L H w hn kd ⟨h1, h2, h3, h4, h5⟩
end Go.Proofs.YtdkldcobgjagkaaDoor
