/-
  Contracts: a class as a node: what the specification's own test answers, at every node.
-/
import Derived.Test.YtbijilnbbbicmaaDoorClass
namespace Go.Proofs.YtbijilnbbbicmaaDoor
open Go.RowKit Go.Joins
set_option linter.unusedVariables false
set_option linter.unusedSimpArgs false
set_option maxRecDepth 100000 in
set_option maxHeartbeats 4000000 in
theorem s_node2 (nt : Bool) (a : Option Addr) (n c : Nat) (A B mn mx : Int) (L H : Nat → Int) (w : World) (hn : n ≤ maxLen) (hr : RngAt w a n L H w.heap.size) : Calls Tryd.prog 20 #[.agg #[.int .i64 2, .bool nt, .slice a n c, .int .i64 A, .int .i64 B, .int .i64 mn, .int .i64 mx]] w fun e w' => e = .returned (.bool (nodeB 2 nt n L H A B mn mx)) ∧ Below w.heap.size w w' := by
  have HR := hide hr
  unfold maxLen at hn
  clear hr
  by_cases hp : (1 ≤ n ∧ n ≤ 12) ∧ A = 0 ∧ B = 0 ∧ mn = 0 ∧ mx = 0
  · obtain ⟨⟨g1, g2⟩, rfl, rfl, rfl, rfl⟩ := hp
    have g3 : (1 : Int) ≤ n := by omega
    have g4 : (n : Int) ≤ 12 := by omega
    go_enter Tryd.func20, Tryd.ntmps20
    go_wp2
    go_loopw [3] (fun i wr => ∃ k : Nat, k ≤ n ∧ i = .int .i64 k ∧ Below w.heap.size w wr ∧ NodeAt wr w.heap.size 2 nt a n c 0 0 0 0 ∧ Hid (∀ j, j < k → rgB (L j) (H j) = true)) (fun i _ => n - (intOf i).toNat)
    case atStart => exact ⟨0, Nat.zero_le _, rfl, (Below.refl _ _).alloc (Nat.le_refl _) _, nodeAt_new _ _ _ _ _ _ _ _ _ _ _, fun j h => by omega⟩
    case round =>
      obtain ⟨k, hk, rfl, hb, hN, HM⟩ := hrel
      obtain ⟨a0, a1, a2, a3, a4, a5, a6⟩ := nodeAt_cells hN
      have HNN := hide hN
      clear hN
      by_cases hlt : k < n
      · obtain ⟨b, off, rfl, hbs, hc⟩ := HR.out (by omega)
        have hc1 : wr.cell? ⟨b, off + k * 2, none⟩ = some (.int .i64 (L k)) := (hb.cell hbs).trans (hc k hlt).1
        have hc2 : wr.cell? ⟨b, off + k * 2 + 1, none⟩ = some (.int .i64 (H k)) := (hb.cell hbs).trans (hc k hlt).2
        have HB := hide hb
        have hi : (k : Int) < (n : Int) := by omega
        have hi0 : (0 : Int) ≤ (k : Int) := by omega
        clear hc hb
        cases el : chB (L k)
        · go_wp2
          go_big_quiet (first | (go_at_call_of 33 (L k); refine Calls.quiet_of_same (s_chF _ _ el)))
          go_wp2
          go_ret
          exact ⟨ret_bool (by simp [nodeB, rowB, rgsB_no hlt (rgB_l el)]), HB.out.trans ((drew_below _ _).mono HB.out.size)⟩
        · cases eh : chB (H k)
          · go_wp2
            go_big_quiet (first | (go_at_call_of 33 (L k); refine Calls.quiet_of_same (s_chT _ _ el)) | (go_at_call_of 33 (H k); refine Calls.quiet_of_same (s_chF _ _ eh)))
            go_wp2
            go_ret
            exact ⟨ret_bool (by simp [nodeB, rowB, rgsB_no hlt (rgB_h (l := L k) eh)]), HB.out.trans ((drew_below _ _).mono HB.out.size)⟩
          · by_cases ho : L k ≤ H k
            · go_wp2
              go_big_quiet (first | (go_at_call_of 33 (L k); refine Calls.quiet_of_same (s_chT _ _ el)) | (go_at_call_of 33 (H k); refine Calls.quiet_of_same (s_chT _ _ eh)))
              go_wp2
              go_roundw
              case rel =>
                refine ⟨k + 1, by omega, by go_num, HB.out.trans ((drew_below _ _).mono HB.out.size), nodeAt_go HNN.out (drew_below _ _), fun j hj => ?_⟩
                by_cases e : j = k
                · subst e; exact rgB_y el eh ho
                · exact HM.out j (by omega)
              case measure => simp [intOf]; omega
            · go_wp2
              go_big_quiet (first | (go_at_call_of 33 (L k); refine Calls.quiet_of_same (s_chT _ _ el)) | (go_at_call_of 33 (H k); refine Calls.quiet_of_same (s_chT _ _ eh)))
              go_wp2
              go_ret
              exact ⟨ret_bool (by simp [nodeB, rowB, rgsB_no hlt (rgB_o (by omega))]), HB.out.trans ((drew_below _ _).mono HB.out.size)⟩
      · have e : rowB n L H = true := by rw [rowB, rgsB_yes (fun j h => HM.out j (by omega)), decide_eq_true (⟨g1, g2⟩ : 1 ≤ n ∧ n ≤ 12)]; rfl
        have E := hide e
        clear e
        go_wp2
        go_ret
        exact ⟨ret_bool (by simp [nodeB, E.out]), hb⟩
  · have e : nodeB 2 nt n L H A B mn mx = false := by
      by_cases h12 : 1 ≤ n ∧ n ≤ 12
      · simp only [nodeB]
        simp
        intro _ hA hB hmn hmx
        exact hp ⟨h12, hA, hB, hmn, hmx⟩
      · simp [nodeB, rowB, h12]
    have E := hide e
    have HP := hide hp
    clear e hp
    go_enter Tryd.func20, Tryd.ntmps20
    go_wp2
    all_goals first
      | (go_ret; exact ⟨ret_bool E.out.symm, (Below.refl _ _).alloc (Nat.le_refl _) _⟩)
      | exact absurd (⟨⟨by omega, by omega⟩, by omega, by omega, by omega, by simp_all⟩) HP.out
theorem s_nodeok (kd : Int) (nt : Bool) (a : Option Addr) (n c : Nat) (A B mn mx : Int) (L H : Nat → Int) (w : World) (hn : n ≤ maxLen) (hr : RngAt w a n L H w.heap.size) : Calls Tryd.prog 20 #[.agg #[.int .i64 kd, .bool nt, .slice a n c, .int .i64 A, .int .i64 B, .int .i64 mn, .int .i64 mx]] w fun e w' => e = .returned (.bool (nodeB kd nt n L H A B mn mx)) ∧ Below w.heap.size w w' := by
  by_cases h1 : kd = 1
  · subst h1; exact s_node1 nt a n c A B mn mx L H w hn
  by_cases h2 : kd = 2
  · subst h2; exact s_node2 nt a n c A B mn mx L H w hn hr
  by_cases h3 : kd = 3
  · subst h3; exact s_node3 nt a n c A B mn mx L H w hn
  by_cases h4 : kd = 4
  · subst h4; exact s_node4 nt a n c A B mn mx L H w hn
  by_cases h5 : kd = 5
  · subst h5; exact s_node5 nt a n c A B mn mx L H w hn
  exact s_node0 nt a n c A B mn mx L H w hn kd ⟨h1, h2, h3, h4, h5⟩
end Go.Proofs.YtbijilnbbbicmaaDoor
