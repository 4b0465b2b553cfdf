/-
  Contracts: a class as a node: what the specification's and the program's own tests answer; the program's test of a character.
-/
import Derived.Test.YtbijilnbbbicmaaDoorClass
import Derived.Test.YtbijilnbbbicmaaDoorNodeI
namespace Go.Proofs.YtbijilnbbbicmaaDoor
open Go.RowKit Go.Joins
set_option linter.unusedVariables false
set_option linter.unusedSimpArgs false
set_option maxRecDepth 100000 in
set_option maxHeartbeats 2000000 in
theorem i_node2 (nt : Bool) (a : Option Addr) (n c : Nat) (A B mn mx : Int) (L H : Nat → Int) (w : World) (hn : n ≤ maxLen) (hr : RngAt w a n L H w.heap.size) : Calls Tryd.prog 25 #[.agg #[.int .i64 2, .bool nt, .slice a n c, .int .i64 A, .int .i64 B, .int .i64 mn, .int .i64 mx]] w fun e w' => e = .returned (.bool (nodeB 2 nt n L H A B mn mx)) ∧ Below w.heap.size w w' := by
  have HN := hide hn
  have HR := hide hr
  unfold maxLen at hn
  clear hr
  go_enter Tryd.func25, Tryd.ntmps25
  go_wp2_with (go_at_call 36; refine (i_ranges _ _ _ L H _ HN.out (rngAt_up (rngAt_go HR.out ((Below.refl _ _).alloc (Nat.le_refl _) _)) (by simp))).mono ?_; rintro e w2 ⟨rfl, hb2⟩; have HB2 := hide (box_below hb2); clear hb2)
  all_goals
    go_ret
    exact ⟨ret_bool (by simp_all [nodeB]), HB2.out⟩
set_option maxHeartbeats 2000000 in
theorem i_inC (kd : Int) (nt : Bool) (a : Option Addr) (n c : Nat) (A B mn mx : Int) (L H : Nat → Int) (r : Int) (w : World) (hn : n ≤ maxLen) (hr : RngAt w a n L H w.heap.size) : Calls Tryd.prog 43 #[.agg #[.int .i64 kd, .bool nt, .slice a n c, .int .i64 A, .int .i64 B, .int .i64 mn, .int .i64 mx], .int .i64 r] w fun e w' => e = .returned (.bool (chB r && (anyB n L H r != nt))) ∧ Below w.heap.size w w' := by
  have HR := hide hr
  unfold maxLen at hn
  clear hr
  cases hch : chB r
  · go_enter Tryd.func43, Tryd.ntmps43
    go_wp2_with (go_at_call 45; refine (i_chF _ _ hch).mono ?_; rintro e w' ⟨rfl, rfl⟩)
    go_ret
    exact ⟨ret_bool (by simp), (Below.refl _ _).alloc (Nat.le_refl _) _⟩
  · go_enter Tryd.func43, Tryd.ntmps43
    go_wp2_with (go_at_call 45; refine (i_chT _ _ hch).mono ?_; rintro e w' ⟨rfl, rfl⟩)
    go_loopw [13] (fun i wr => ∃ k : Nat, k ≤ n ∧ i = .int .i64 k ∧ Below w.heap.size w wr ∧ NodeAt wr w.heap.size kd nt a n c A B mn mx ∧ Hid (anyB k L H r = false)) (fun i _ => n - (intOf i).toNat)
    case atStart => exact ⟨0, Nat.zero_le _, rfl, (Below.refl _ _).alloc (Nat.le_refl _) _, nodeAt_new _ _ _ _ _ _ _ _ _ _ _, anyB_zero L H r⟩
    case round =>
      obtain ⟨k, hk, rfl, hb, hN, HM⟩ := hrel
      obtain ⟨a0, a1, a2, a3, a4, a5, a6⟩ := nodeAt_cells hN
      have HNN := hide hN
      clear hN
      by_cases hlt : k < n
      · obtain ⟨b, off, rfl, hbs, hc⟩ := HR.out (by omega)
        have hc1 : wr.cell? ⟨b, off + k * 2, none⟩ = some (.int .i64 (L k)) := (hb.cell hbs).trans (hc k hlt).1
        have hc2 : wr.cell? ⟨b, off + k * 2 + 1, none⟩ = some (.int .i64 (H k)) := (hb.cell hbs).trans (hc k hlt).2
        have HB := hide hb
        have hlt2 : w.heap.size < wr.heap.size := nodeAt_lt HNN.out
        clear hc hb
        by_cases hh : L k ≤ r ∧ r ≤ H k
        · go_wp2_with (go_at_call 46; refine (i_inT _ _ _ _ hh).mono ?_; rintro e w' ⟨rfl, rfl⟩)
          go_ret
          exact ⟨ret_bool (by rw [anyB_hit hlt (decide_eq_true hh)]; cases nt <;> rfl), HB.out.alloc HB.out.size _⟩
        · go_wp2_with (go_at_call 46; refine (i_inF _ _ _ _ hh).mono ?_; rintro e w' ⟨rfl, rfl⟩)
          go_roundw
          case rel =>
            refine ⟨k + 1, by omega, by go_num, HB.out.alloc HB.out.size _, nodeAt_go HNN.out ((Below.refl _ _).alloc (Nat.le_refl _) _), ?_⟩
            show anyB (k + 1) L H r = false
            rw [anyB_succ, HM.out, hasB, decide_eq_false hh]; rfl
          case measure => simp [intOf]; omega
      · have hkn : k = n := by omega
        subst hkn
        go_wp2
        go_ret
        exact ⟨ret_bool (by rw [HM.out]; cases nt <;> rfl), hb⟩
theorem i_fields (kd : Int) (nt : Bool) (a : Option Addr) (n c : Nat) (A B mn mx : Int) (L H : Nat → Int) (w : World) (hn : n ≤ maxLen) (hr : RngAt w a n L H w.heap.size) : Calls Tryd.prog 25 #[.agg #[.int .i64 kd, .bool nt, .slice a n c, .int .i64 A, .int .i64 B, .int .i64 mn, .int .i64 mx]] w fun e w' => e = .returned (.bool (nodeB kd nt n L H A B mn mx)) ∧ Below w.heap.size w w' := by
  by_cases h1 : kd = 1
  · subst h1; exact i_node1 nt a n c A B mn mx L H w hn
  by_cases h2 : kd = 2
  · subst h2; exact i_node2 nt a n c A B mn mx L H w hn hr
  by_cases h3 : kd = 3
  · subst h3; exact i_node3 nt a n c A B mn mx L H w hn
  by_cases h4 : kd = 4
  · subst h4; exact i_node4 nt a n c A B mn mx L H w hn
  by_cases h5 : kd = 5
  · subst h5; exact i_node5 nt a n c A B mn mx L H w hn
  exact i_node0 nt a n c A B mn mx L H w hn kd ⟨h1, h2, h3, h4, h5⟩
end Go.Proofs.YtbijilnbbbicmaaDoor
