/-
  Contracts of Go's own library: slices.Grow of nothing, slices.Concat of two rows of numbers, slices.Repeat.
-/
import Derived.Test.YtdkldcobgjagkaaShT
import Derived.Test.YtdkldcobgjagkaaShelfM
import Derived.Lib.AppendZerosOnto
import Derived.Lib.SliceRun
import Derived.Laws.CopyOwn
import Derived.Deep.RegionLaw
namespace Go.Proofs.Ytdkldcobgjagkaa
open Go.RowKit Go.Joins
set_option linter.unusedVariables false
set_option linter.unusedSimpArgs false
set_option maxRecDepth 100000 in
set_option maxHeartbeats 4000000 in
theorem i_grow0 (w : World) : Calls Try.prog 50 #[.slice none 0 0, .int .i64 0] w fun e w' => e = .returned (.slice none 0 0) ∧ w' = w := by
  go_enter Try.func50, Try.ntmps50
  go_wp2
  go_ret
  exact ⟨rfl, rfl⟩
set_option maxRecDepth 100000 in
set_option maxHeartbeats 4000000 in
theorem i_grow (N : Nat) (w : World) (h1 : 1 ≤ N) (hN : N ≤ 1000) : Calls Try.prog 50 #[.slice none 0 0, .int .i64 N] w fun e w' => ∃ (ad : Option Addr) (c : Nat), e = .returned (.slice ad 0 c) ∧ IR w.heap.size w' ad c [] ∧ Below w.heap.size w w' := by
  obtain ⟨i0, hi0, hz0, hz1, hz2⟩ := info_parts info64S
  have hold : (Builtin.firstCells i0.size 0 (.slice none 0 0)).run Try.prog w.drew = .ok ([] : List Value).toArray w.drew := run_firstCells_none w.drew i0.size 0 0 0
  obtain ⟨G, hG⟩ : ∃ G, G = grownCap w (0 + N) 0 2 := ⟨_, rfl⟩
  have hGn : 0 + N ≤ G := hG ▸ grownCap_ge w _ _ _
  have hGm : G ≤ maxLen := hG ▸ grownCap_le_maxLen w (0 + N) 0 _ (by unfold maxLen; omega)
  have hrz : ∀ ty, (Builtin.append_ #[35, 3] ty #[.slice none 0 0, .int .i64 N]).run Try.prog w = .ok (.slice (some ⟨w.heap.size, 0, none⟩) (0 + N) G) (w.drew.alloc (.cells (([] : List Value).toArray ++ Builtin.zeroCells (Value.int .i64 0).cells N ++ Builtin.zeroCells (Value.int .i64 0).cells (G - (0 + N))) 2)) := fun ty => by
    have h := Lib.run_append_grow_zeros w 35 3 ty 2 i0 (.int .i64 0) .i64 .i64 Try.underlying35 Try.underlying3 hi0 hz0 none 0 0 [] hold N (by omega) (by omega) (by omega) (by omega) (by rw [hz2]; omega) (growslice_fits (by omega) (by rw [hz2]; omega))
    rw [← hG] at h
    exact h
  have HO : Hid (IR w.heap.size (w.drew.alloc (.cells (([] : List Value).toArray ++ Builtin.zeroCells (Value.int .i64 0).cells N ++ Builtin.zeroCells (Value.int .i64 0).cells (G - (0 + N))) 2)) (some ⟨w.heap.size, 0, none⟩) G []) := hide ⟨rfl, .inr ⟨w.heap.size, G, _, rfl, Nat.le_refl _, heap_alloc_new w.drew _, Nat.zero_le _, hGm, by rw [Array.size_append, Array.size_append, size_zeroCells, size_zeroCells]; show 0 + N * 1 + (G - (0 + N)) * 1 = G * 1; omega, rfl⟩⟩
  have HB : Hid (∀ o, Below w.heap.size w (w.drew.alloc o)) := hide (fun o => ⟨rfl, rfl, rfl, by rw [World.size_alloc]; exact Nat.le_succ _, fun k hk => heap_alloc_old w.drew _ hk⟩)
  have hG63 : G ≤ 9223372036854775807 := by unfold maxLen at hGm; omega
  have hN0 : (0 : Int) < N := by omega
  obtain ⟨O, hO⟩ : ∃ O, Obj.cells (([] : List Value).toArray ++ Builtin.zeroCells (Value.int .i64 0).cells N ++ Builtin.zeroCells (Value.int .i64 0).cells (G - (0 + N))) 2 = O := ⟨_, rfl⟩
  have hO2 : ∀ ty, (Builtin.append_ #[35, 3] ty #[.slice none 0 0, .int .i64 N]).run Try.prog w = .ok (.slice (some ⟨w.heap.size, 0, none⟩) N G) (w.drew.alloc O) := fun ty => by rw [hrz ty, hO, Nat.zero_add]
  rw [hO] at HO
  have HR := hide hO2
  clear hrz hold hO hG hO2
  go_enter Try.func50, Try.ntmps50
  go_wp2_with (at_builtin; refine Lib.wpList_append_run _ rfl _ _ _ _ rfl _ _ rfl rfl _ _ (HR.out _) ?_)
  all_goals (go_ret; exact ⟨_, G, rfl, HO.out, HB.out _⟩)
theorem i_growA (N : Nat) (w : World) (hN : N ≤ 1000) : Calls Try.prog 50 #[.slice none 0 0, .int .i64 N] w fun e w' => ∃ (ad : Option Addr) (c : Nat), e = .returned (.slice ad 0 c) ∧ IR w.heap.size w' ad c [] ∧ Below w.heap.size w w' := by
  by_cases h : N = 0
  · subst h
    refine (i_grow0 w).mono ?_
    rintro e w' ⟨rfl, rfl⟩
    exact ⟨none, 0, rfl, ir_nil _ _, Below.refl _ _⟩
  · exact i_grow N w (by omega) hN
theorem ir_rowQ {B L c : Nat} {w : World} {ad : Option Addr} {Q M : List Int} (hQ : Q = M) (hL : L = Q.length) (h : w.ownsRow B 2 1 (.slice ad L c) L (Q.map (Value.int .i64))) : IR B w ad c M := by subst hQ; subst hL; exact h
set_option maxRecDepth 100000 in
set_option maxHeartbeats 4000000 in
theorem i_concat (B B2 g : Nat) (T : TypeId) (a1 a2 : Option Addr) (k1 k2 m1 m2 : Nat) (M1 M2 : List Int) (w : World) (h1 : m1 = M1.length) (h2 : m2 = M2.length) (hz : m1 + m2 ≤ 300) (hi1 : IR B w a1 k1 M1) (hi2 : IR B2 w a2 k2 M2) (hg : w.heap[g]? = some (.cells #[.slice a1 m1 k1, .slice a2 m2 k2] T (0, 0))) :
    Calls Try.prog 43 #[.slice (some ⟨g, 0, none⟩) 2 2] w fun e w' => ∃ (ad : Option Addr) (c : Nat), e = .returned (.slice ad (m1 + m2) c) ∧ IR w.heap.size w' ad c (M1 ++ M2) ∧ Below w.heap.size w w' := by
  obtain ⟨i0, hi0, hz0, hz1, hz2⟩ := info_parts info64S
  have H1 := hide h1
  have H2 := hide h2
  have HI1 := hide hi1
  have HI2 := hide hi2
  have hgl : g < w.heap.size := (Array.getElem?_eq_some_iff.1 hg).1
  have x0 : w.cell? ⟨g, 0, none⟩ = some (.slice a1 m1 k1) := cell_of_row w g 0 _ T (0, 0) hg
  have x1 : w.cell? ⟨g, 1, none⟩ = some (.slice a2 m2 k2) := cell_of_row w g 1 _ T (0, 0) hg
  have hw1 : IntKind.i64.wrap ((m1 : Int) + (m2 : Int)) = (m1 : Int) + (m2 : Int) := by rw [IntKind.wrap_i64]; omega
  clear h1 h2 hi1 hi2 hg
  go_enter Try.func43, Try.ntmps43
  go_wp2
  go_loopw [3, 11] (fun sv iv wr => w = wr ∧ ((iv = .int .i64 0 ∧ sv = .int .i64 0) ∨ (iv = .int .i64 1 ∧ sv = .int .i64 (m1 : Int)) ∨ (iv = .int .i64 2 ∧ sv = .int .i64 ((m1 : Int) + (m2 : Int))))) (fun _ iv _ => 2 - (intOf iv).toNat)
  case atStart => exact ⟨rfl, .inl ⟨rfl, rfl⟩⟩
  case round =>
    rcases hrel with ⟨rfl, ⟨rfl, rfl⟩ | ⟨rfl, rfl⟩ | ⟨rfl, rfl⟩⟩
    · go_wp2
      go_roundw
      case rel => exact ⟨by first | rfl | trivial, .inr (.inl ⟨rfl, by first | rfl | simp⟩)⟩
      case measure => simp [intOf]
    · go_wp2
      go_roundw
      case rel => exact ⟨by first | rfl | trivial, .inr (.inr ⟨rfl, rfl⟩)⟩
      case measure => simp [intOf]
    · have CG : Hid (Calls Try.prog 50 #[.slice none 0 0, .int .i64 ((m1 : Int) + (m2 : Int))] w fun e w' => ∃ (ad : Option Addr) (c : Nat), e = .returned (.slice ad 0 c) ∧ IR w.heap.size w' ad c [] ∧ Below w.heap.size w w') := hide (by rw [show (m1 : Int) + (m2 : Int) = ((m1 + m2 : Nat) : Int) by omega]; exact i_growA (m1 + m2) w (by omega))
      go_wp2_with (go_at_call 50; refine CG.out.mono ?_; rintro e w3 ⟨a3, c3, rfl, hi3, hb3⟩; have HI3 := hide hi3; have HB3 := hide hb3; clear hi3 hb3)
      go_loopw [6, 27] (fun nv iv wr2 => ∃ (j L c5 : Nat) (a5 : Option Addr) (Q : List Int), j ≤ 2 ∧ iv = .int .i64 j ∧ nv = .slice a5 L c5 ∧ Hid (L = Q.length) ∧ (j = 0 → L = 0) ∧ (j = 1 → L = m1) ∧ (j = 2 → L = m1 + m2) ∧ Hid (j = 0 → Q = []) ∧ Hid (j = 1 → Q = M1) ∧ Hid (j = 2 → Q = M1 ++ M2) ∧ Hid (wr2.ownsRow w.heap.size 2 1 (.slice a5 L c5) L (Q.map (Value.int .i64))) ∧ Hid (Below w.heap.size w wr2)) (fun _ iv _ => 2 - (intOf iv).toNat)
      case atStart => exact ⟨0, 0, c3, a3, [], by omega, rfl, rfl, hide rfl, fun _ => rfl, by omega, by omega, hide (fun _ => rfl), hide (fun h => by omega), hide (fun h => by omega), HI3, HB3⟩
      case round =>
        obtain ⟨j, L, c5, a5, Q, hj, rfl, rfl, HQ, l0, l1, l2, q0, q1, q2, HO, HB⟩ := hrel
        have y0 := (HB.out.cell (p := ⟨g, 0, none⟩) hgl).trans x0
        have y1 := (HB.out.cell (p := ⟨g, 1, none⟩) hgl).trans x1
        have hsz := HB.out.size
        rcases (show j = 0 ∨ j = 1 ∨ j = 2 by omega) with hj0 | hj0 | hj0
        · have hL := l0 hj0
          have HQ0 := hide (q0.out hj0)
          subst hj0
          subst hL
          clear l0 l1 l2 q0 q1 q2
          go_wp2_with (at_builtin; refine wpList_append_src rfl (.tmp 31) (.tmp 32) 35 rfl w.heap.size 2 i0 (.int .i64 0) 1 8 Try.underlying35 hi0 hz0 hz1 hz2 rfl (by decide) _ 0 _ rfl HO.out a1 m1 k1 (M1.map (Value.int .i64)) rfl (by rw [List.length_map, Nat.mul_one]; exact H1.out.symm) (fun h9 => ir_src (ir_go HI1.out HB.out) (by rw [← H1.out]; exact h9)) (ints_one _) (by unfold maxLen; omega) (by omega) hsz ?_; intro a6 c6 w6 hown6 hgr6; rw [Nat.zero_add, HQ0.out] at hown6; rw [Nat.zero_add]; have HO6 := hide hown6; have HB6 := hide (gr_below HB.out HO.out hsz hgr6); clear hown6 hgr6)
          go_roundw
          case rel => exact ⟨1, m1, c6, a6, M1, by omega, by go_num, rfl, H1, fun h => by omega, fun _ => rfl, fun h => by omega, hide (fun h => by omega), hide (fun _ => rfl), hide (fun h => by omega), HO6, HB6⟩
          case measure => simp [intOf]
        · have hL := l1 hj0
          have HQ0 := hide (q1.out hj0)
          subst hj0
          subst hL
          clear l0 l1 l2 q0 q1 q2
          go_wp2_with (at_builtin; refine wpList_append_src rfl (.tmp 31) (.tmp 32) 35 rfl w.heap.size 2 i0 (.int .i64 0) 1 8 Try.underlying35 hi0 hz0 hz1 hz2 rfl (by decide) _ L _ rfl HO.out a2 m2 k2 (M2.map (Value.int .i64)) rfl (by rw [List.length_map, Nat.mul_one]; exact H2.out.symm) (fun h9 => ir_src (ir_go HI2.out HB.out) (by rw [← H2.out]; exact h9)) (ints_one _) (by unfold maxLen; omega) (by omega) hsz ?_; intro a6 c6 w6 hown6 hgr6; rw [HQ0.out, ← List.map_append] at hown6; have HO6 := hide hown6; have HB6 := hide (gr_below HB.out HO.out hsz hgr6); clear hown6 hgr6)
          go_roundw
          case rel => exact ⟨2, L + m2, c6, a6, M1 ++ M2, by omega, by go_num, rfl, hide (by rw [List.length_append, ← H1.out, ← H2.out]), fun h => by omega, fun h => by omega, fun _ => rfl, hide (fun h => by omega), hide (fun h => by omega), hide (fun _ => rfl), HO6, HB6⟩
          case measure => simp [intOf]
        · have HL := hide (l2 hj0)
          have HQ0 := hide (q2.out hj0)
          subst hj0
          clear l0 l1 l2 q0 q1 q2
          go_wp2
          go_ret
          exact ⟨a5, c5, by rw [HL.out]; rfl, ir_rowQ HQ0.out HQ.out HO.out, HB.out⟩
end Go.Proofs.Ytdkldcobgjagkaa
