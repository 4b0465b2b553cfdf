/-
  Contracts: the specification's RegexOk of one node that is a class.
-/
import Derived.Test.YtffgghbnkphieahClass5
namespace Go.Proofs.Ytffgghbnkphieah
open Go.RowKit Go.Joins
set_option linter.unusedVariables false
set_option linter.unusedSimpArgs false
set_option maxHeartbeats 1000000 in
theorem s_tree1 (g : Nat) (nt : Bool) (sa : Option Addr) (m c : Nat) (w : World) (hN : NodeAt w g 2 nt sa m c 0 0 0 0) : Calls Try.prog 18 #[.slice (some ⟨g, 0, none⟩) 1 1, .int .i64 0] w fun e w' => e = .returned (.int .i64 0) ∧ w' = w := by
  obtain ⟨a0, a1, a2, a3, a4, a5, a6⟩ := nodeAt_cells hN
  clear hN
  go_enter Try.func18, Try.ntmps18
  go_wp2
  go_ret
  exact ⟨rfl, rfl⟩
set_option maxHeartbeats 1000000 in
theorem s_weight1 (g : Nat) (nt : Bool) (sa : Option Addr) (m c : Nat) (w : World) (hN : NodeAt w g 2 nt sa m c 0 0 0 0) : Calls Try.prog 19 #[.slice (some ⟨g, 0, none⟩) 1 1, .int .i64 0] w fun e w' => e = .returned (.int .i64 1) ∧ Below w.heap.size w w' := by
  obtain ⟨a0, a1, a2, a3, a4, a5, a6⟩ := nodeAt_cells hN
  clear hN
  go_enter Try.func19, Try.ntmps19
  go_wp2
  go_ret
  exact ⟨rfl, (Below.refl _ _).alloc (Nat.le_refl _) _⟩
set_option maxHeartbeats 2000000 in
theorem s_one (g : Nat) (nt : Bool) (sa : Option Addr) (m c : Nat) (L H : Nat → Int) (w : World) (hm : m ≤ 3) (hN : NodeAt w g 2 nt sa m c 0 0 0 0) (hr : RngAt w sa m L H w.heap.size) : Calls Try.prog 8 #[.slice (some ⟨g, 0, none⟩) 1 1] w fun e w' => e = .returned (.bool (nodeB 2 nt m L H 0 0 0 0)) ∧ Below w.heap.size w w' := by
  have HN := hide hN
  have HR := hide hr
  have hmx : m ≤ maxLen := by unfold maxLen; omega
  have HMX := hide hmx
  clear hN hr hmx
  go_enter Try.func8, Try.ntmps8
  go_wp2
  go_loopw [3] (fun i wr => (i = .int .i64 0 ∨ (i = .int .i64 1 ∧ Hid (nodeB 2 nt m L H 0 0 0 0 = true))) ∧ Hid (NodeAt wr g 2 nt sa m c 0 0 0 0) ∧ Hid (Below w.heap.size w wr)) (fun i _ => 1 - (intOf i).toNat)
  case atStart => exact ⟨Or.inl rfl, HN, hide (Below.refl _ _)⟩
  case round =>
    obtain ⟨hi, hN2, hb⟩ := hrel
    obtain ⟨a0, a1, a2, a3, a4, a5, a6⟩ := nodeAt_cells hN2.out
    rcases hi with rfl | ⟨rfl, hv⟩
    · cases hno : nodeB 2 nt m L H 0 0 0 0
      · go_wp2_with (go_at_call 15; refine (s_nodeok _ _ _ _ _ _ _ _ _ L H _ HMX.out (rngAt_up (rngAt_go HR.out hb.out) hb.out.size)).mono ?_; rintro e w2 ⟨rfl, hb2⟩; rw [hno]; have HB2 := hide (hb.out.trans (hb2.mono hb.out.size)); clear hb2)
        go_ret
        exact ⟨ret_bool hno.symm, HB2.out⟩
      · go_wp2_with (go_at_call 15; refine (s_nodeok _ _ _ _ _ _ _ _ _ L H _ HMX.out (rngAt_up (rngAt_go HR.out hb.out) hb.out.size)).mono ?_; rintro e w2 ⟨rfl, hb2⟩; rw [hno]; have HB2 := hide (hb.out.trans (hb2.mono hb.out.size)); have HN3 := hide (nodeAt_go hN2.out hb2); clear hb2)
        go_roundw
        case rel => exact ⟨Or.inr ⟨rfl, by first | exact hno | exact trivial⟩, HN3, HB2⟩
        case measure => simp [intOf]
    · go_wp2_with (first | (go_at_call 18; refine (s_tree1 _ _ _ _ _ _ hN2.out).mono ?_; rintro e w' ⟨rfl, rfl⟩) | (go_at_call 19; refine (s_weight1 _ _ _ _ _ _ hN2.out).mono ?_; rintro e w2 ⟨rfl, hb2⟩; have HB2 := hide (hb.out.trans (hb2.mono hb.out.size)); clear hb2))
      go_ret
      exact ⟨ret_bool hv.out.symm, HB2.out⟩
end Go.Proofs.Ytffgghbnkphieah
