/-
  Contracts: ClassHas, the specification's and the program's; a node and its copy are told as alike.
-/
import Derived.Test.YtbijilnbbbicmaaDoorClass2
import Derived.Test.YtbijilnbbbicmaaDoorClass3
namespace Go.Proofs.YtbijilnbbbicmaaDoor
open Go.RowKit Go.Joins
set_option linter.unusedVariables false
set_option linter.unusedSimpArgs false
theorem box_node {w w2 : World} {kd : Int} {nt : Bool} {a : Option Addr} {n c : Nat} {A B mn mx : Int} {T : TypeId}
    (k : Below (w.alloc (.cells #[.int .i64 kd, .bool nt, .slice a n c, .int .i64 A, .int .i64 B, .int .i64 mn, .int .i64 mx] T)).heap.size (w.alloc (.cells #[.int .i64 kd, .bool nt, .slice a n c, .int .i64 A, .int .i64 B, .int .i64 mn, .int .i64 mx] T)) w2) :
    NodeAt w2 w.heap.size kd nt a n c A B mn mx ∧ Below w.heap.size w w2 := ⟨nodeAt_go (nodeAt_new _ _ _ _ _ _ _ _ _ _ _) k, box_below k⟩
set_option maxRecDepth 100000 in
set_option maxHeartbeats 4000000 in
theorem s_class (kd : Int) (nt : Bool) (a : Option Addr) (n c : Nat) (A B mn mx : Int) (L H : Nat → Int) (r : Int) (w : World) (hn : n ≤ maxLen) (hr : RngAt w a n L H w.heap.size) : Calls Tryd.prog 23 #[.agg #[.int .i64 kd, .bool nt, .slice a n c, .int .i64 A, .int .i64 B, .int .i64 mn, .int .i64 mx], .int .i64 r] w fun e w' => e = .returned (.bool (clsB kd nt n L H A B mn mx r)) ∧ Below w.heap.size w w' := by
  have HN := hide hn
  have HR := hide hr
  unfold maxLen at hn
  clear hr
  by_cases hk : kd = 2
  · subst hk
    cases hno : nodeB 2 nt n L H A B mn mx
    · go_enter Tryd.func23, Tryd.ntmps23
      go_wp2_with (go_at_call 20; refine (s_nodeok _ _ _ _ _ _ _ _ _ L H _ HN.out (rngAt_up (rngAt_go HR.out ((Below.refl _ _).alloc (Nat.le_refl _) _)) (by simp))).mono ?_; rintro e w2 ⟨rfl, hb2⟩; rw [hno]; have HB2 := hide (box_below hb2); clear hb2)
      go_ret
      exact ⟨ret_bool (by simp [clsB, hno]), HB2.out⟩
    · cases hch : chB r
      · go_enter Tryd.func23, Tryd.ntmps23
        go_wp2_with (first | (go_at_call 20; refine (s_nodeok _ _ _ _ _ _ _ _ _ L H _ HN.out (rngAt_up (rngAt_go HR.out ((Below.refl _ _).alloc (Nat.le_refl _) _)) (by simp))).mono ?_; rintro e w2 ⟨rfl, hb2⟩; rw [hno]; have HB2 := hide (box_below hb2); clear hb2) | (go_at_call 33; refine (s_chF _ _ hch).mono ?_; rintro e w' ⟨rfl, rfl⟩))
        go_ret
        exact ⟨ret_bool (by simp [clsB, hno, hch]), HB2.out⟩
      · have hv : clsB 2 nt n L H A B mn mx r = (anyB n L H r != nt) := by simp [clsB, hno, hch]
        have HV := hide hv
        clear hv
        go_enter Tryd.func23, Tryd.ntmps23
        go_wp2_with (first | (go_at_call 20; refine (s_nodeok _ _ _ _ _ _ _ _ _ L H _ HN.out (rngAt_up (rngAt_go HR.out ((Below.refl _ _).alloc (Nat.le_refl _) _)) (by simp))).mono ?_; rintro e w2 ⟨rfl, hb2⟩; rw [hno]; have HX2 := hide (box_node hb2); clear hb2) | (go_at_call 33; refine (s_chT _ _ hch).mono ?_; rintro e w' ⟨rfl, rfl⟩))
        go_loopw [5, 6] (fun v i wr => ∃ k : Nat, k ≤ n ∧ i = .int .i64 k ∧ v = .bool (anyB k L H r) ∧ Below w.heap.size w wr ∧ NodeAt wr w.heap.size 2 nt a n c A B mn mx) (fun _ i _ => n - (intOf i).toNat)
        case atStart => exact ⟨0, Nat.zero_le _, rfl, rfl, HX2.out.2, HX2.out.1⟩
        case round =>
          obtain ⟨k, hk, rfl, rfl, hb, hN⟩ := hrel
          obtain ⟨a0, a1, a2, a3, a4, a5, a6⟩ := nodeAt_cells hN
          have HNN := hide hN
          clear hN
          by_cases hlt : k < n
          · obtain ⟨b, off, rfl, hbs, hc⟩ := HR.out (by omega)
            have hc1 : wr.cell? ⟨b, off + k * 2, none⟩ = some (.int .i64 (L k)) := (hb.cell hbs).trans (hc k hlt).1
            have hc2 : wr.cell? ⟨b, off + k * 2 + 1, none⟩ = some (.int .i64 (H k)) := (hb.cell hbs).trans (hc k hlt).2
            have HB := hide hb
            have hi : (k : Int) < (n : Int) := by omega
            have hi0 : (0 : Int) ≤ (k : Int) := by omega
            clear hc hb
            cases hA : anyB k L H r
            · by_cases hh : L k ≤ r ∧ r ≤ H k
              · go_wp2
                go_big_quiet (first | (go_at_call 34; refine Calls.quiet_of_same (s_inT _ _ _ _ hh)))
                go_wp2
                go_roundw
                case rel => exact ⟨k + 1, by omega, by go_num, by rw [anyB_succ, hA, hasB, decide_eq_true hh]; rfl, HB.out.trans ((drew_below _ _).mono HB.out.size), nodeAt_go HNN.out (drew_below _ _)⟩
                case measure => simp [intOf]; omega
              · go_wp2
                go_big_quiet (first | (go_at_call 34; refine Calls.quiet_of_same (s_inF _ _ _ _ hh)))
                go_wp2
                go_roundw
                case rel => exact ⟨k + 1, by omega, by go_num, by rw [anyB_succ, hA, hasB, decide_eq_false hh]; rfl, HB.out.trans ((drew_below _ _).mono HB.out.size), nodeAt_go HNN.out (drew_below _ _)⟩
                case measure => simp [intOf]; omega
            · go_wp2
              go_big_quiet (fail)
              go_wp2
              go_roundw
              case rel => exact ⟨k + 1, by omega, by go_num, by rw [anyB_succ, hA]; rfl, HB.out.trans ((drew_below _ _).mono HB.out.size), nodeAt_go HNN.out (drew_below _ _)⟩
              case measure => simp [intOf]; omega
          · have hkn : k = n := by omega
            subst hkn
            go_wp2
            go_ret
            exact ⟨ret_bool HV.out.symm, hb⟩
  · have e2 : (kd != 2) = true := by simpa using hk
    go_enter Tryd.func23, Tryd.ntmps23
    go_wp2
    go_ret
    exact ⟨ret_bool (by simp [clsB, hk]), (Below.refl _ _).alloc (Nat.le_refl _) _⟩
end Go.Proofs.YtbijilnbbbicmaaDoor
