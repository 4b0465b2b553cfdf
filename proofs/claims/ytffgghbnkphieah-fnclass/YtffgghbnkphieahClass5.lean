/-
  Contracts: the program's ClassHas; a node and its copy are told as alike.
-/
import Derived.Test.YtffgghbnkphieahClass4
namespace Go.Proofs.Ytffgghbnkphieah
open Go.RowKit Go.Joins
set_option linter.unusedVariables false
set_option linter.unusedSimpArgs false
set_option maxHeartbeats 4000000 in
theorem i_class (kd : Int) (nt : Bool) (a : Option Addr) (n c : Nat) (A B mn mx : Int) (L H : Nat → Int) (r : Int) (w : World) (hn : n ≤ maxLen) (hr : RngAt w a n L H w.heap.size) : Calls Try.prog 6 #[.agg #[.int .i64 kd, .bool nt, .slice a n c, .int .i64 A, .int .i64 B, .int .i64 mn, .int .i64 mx], .int .i64 r] w fun e w' => e = .returned (.bool (clsB kd nt n L H A B mn mx r)) ∧ Below w.heap.size w w' := by
  have HN := hide hn
  have HR := hide hr
  clear hr hn
  by_cases hk : kd = 2
  · subst hk
    cases hno : nodeB 2 nt n L H A B mn mx
    · go_enter Try.func6, Try.ntmps6
      go_wp2_with (go_at_call 13; refine (i_fields _ _ _ _ _ _ _ _ _ L H _ HN.out (rngAt_up (rngAt_go HR.out ((Below.refl _ _).alloc (Nat.le_refl _) _)) (by simp))).mono ?_; rintro e w2 ⟨rfl, hb2⟩; rw [hno]; have HB2 := hide (box_below hb2); clear hb2)
      go_ret
      exact ⟨ret_bool (by simp [clsB, hno]), HB2.out⟩
    · have hv : clsB 2 nt n L H A B mn mx r = (chB r && (anyB n L H r != nt)) := by simp [clsB, hno]
      have HV := hide hv
      clear hv
      go_enter Try.func6, Try.ntmps6
      go_wp2_with (first | (go_at_call 13; refine (i_fields _ _ _ _ _ _ _ _ _ L H _ HN.out (rngAt_up (rngAt_go HR.out ((Below.refl _ _).alloc (Nat.le_refl _) _)) (by simp))).mono ?_; rintro e w2 ⟨rfl, hb2⟩; rw [hno]; have HX2 := hide (box_node hb2); obtain ⟨a0, a1, a2, a3, a4, a5, a6⟩ := nodeAt_cells HX2.out.1; clear hb2) | (go_at_call 14; refine (i_inC _ _ _ _ _ _ _ _ _ L H _ _ HN.out (rngAt_up (rngAt_go HR.out HX2.out.2) HX2.out.2.size)).mono ?_; rintro e w3 ⟨rfl, hb3⟩; have HB3 := hide (HX2.out.2.trans (hb3.mono HX2.out.2.size)); clear hb3))
      go_ret
      exact ⟨ret_bool HV.out.symm, HB3.out⟩
  · have e2 : (kd == 2) = false := by simpa using hk
    go_enter Try.func6, Try.ntmps6
    go_wp2
    go_ret
    exact ⟨ret_bool (by simp [clsB, hk]), (Below.refl _ _).alloc (Nat.le_refl _) _⟩
theorem two_nodes {w w2 : World} {kd kd' : Int} {nt nt' : Bool} {a a' : Option Addr} {n c n' c' : Nat} {A B mn mx A' B' mn' mx' : Int} {T U : TypeId}
    (k : Below ((w.alloc (.cells #[.int .i64 kd, .bool nt, .slice a n c, .int .i64 A, .int .i64 B, .int .i64 mn, .int .i64 mx] T)).alloc (.cells #[.int .i64 kd', .bool nt', .slice a' n' c', .int .i64 A', .int .i64 B', .int .i64 mn', .int .i64 mx'] U)).heap.size
      ((w.alloc (.cells #[.int .i64 kd, .bool nt, .slice a n c, .int .i64 A, .int .i64 B, .int .i64 mn, .int .i64 mx] T)).alloc (.cells #[.int .i64 kd', .bool nt', .slice a' n' c', .int .i64 A', .int .i64 B', .int .i64 mn', .int .i64 mx'] U)) w2) :
    NodeAt w2 w.heap.size kd nt a n c A B mn mx ∧ NodeAt w2 (w.heap.size + 1) kd' nt' a' n' c' A' B' mn' mx' ∧ Below w.heap.size w w2 := by
  have h1 := nodeAt_new w kd nt a n c A B mn mx T
  have h2 := nodeAt_new (w.alloc (.cells #[.int .i64 kd, .bool nt, .slice a n c, .int .i64 A, .int .i64 B, .int .i64 mn, .int .i64 mx] T)) kd' nt' a' n' c' A' B' mn' mx' U
  have st : ∀ (x : World) (o : Obj), Below x.heap.size x (x.alloc o) := fun x o => (Below.refl _ _).alloc (Nat.le_refl _) _
  refine ⟨nodeAt_go (nodeAt_go h1 (st _ _)) k, ?_, ?_⟩
  · have := nodeAt_go h2 k
    simpa using this
  · exact (((Below.refl w.heap.size w).alloc (Nat.le_refl _) _).alloc (by simp) _).trans (k.mono (by simp; omega))
end Go.Proofs.Ytffgghbnkphieah
