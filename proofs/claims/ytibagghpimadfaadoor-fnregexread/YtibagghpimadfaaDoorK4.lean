/-
  Texts put together: NodeI, Class2, Class3, Class4, Class5, RxEq, KpG.
-/
import Derived.Test.YtibagghpimadfaaDoorK2
import Derived.Deep.DeepCutAuto
import Derived.Test.YtibagghpimadfaaDoorK3
import Derived.WalkLawsBesides
import Derived.Below
import Derived.OwnWalk
import Derived.Laws.OwnMore
import Derived.Deep.AppendLies
/-
  Contracts: what impl.fieldsOk answers at every node; nothing old has turned.
-/
namespace Go.Proofs.YtibagghpimadfaaDoor
open Go.RowKit Go.Joins
set_option linter.unusedVariables false
set_option linter.unusedSimpArgs false
theorem i_in (n a b : Int) (w : World) : Calls Tryd.prog 73 #[.int .i64 n, .int .i64 a, .int .i64 b] w fun e w' => e = .returned (.bool (decide (a ≤ n ∧ n ≤ b))) ∧ w' = w := by
  by_cases h : a ≤ n ∧ n ≤ b
  · rw [decide_eq_true h]; exact i_inT n a b w h
  · rw [decide_eq_false h]; exact i_inF n a b w h
theorem box_below {w w1 : World} {c : Array Value} {t : TypeId} (h : Below (w.alloc (.cells c t)).heap.size (w.alloc (.cells c t)) w1) : Below w.heap.size w w1 :=
  ((Below.refl w.heap.size w).alloc (Nat.le_refl _) _).trans (h.mono (by simp))
set_option maxRecDepth 100000 in
theorem i_count (kd : Int) (nt : Bool) (a : Option Addr) (n c : Nat) (A B mn mx : Int) (w : World) : Calls Tryd.prog 54 #[.agg #[.int .i64 kd, .bool nt, .slice a n c, .int .i64 A, .int .i64 B, .int .i64 mn, .int .i64 mx]] w fun e w' => e = .returned (.bool (decide (0 ≤ mn ∧ mn ≤ 20) && (mx == -1 || decide (mn ≤ mx ∧ mx ≤ 20)))) ∧ Below w.heap.size w w' := by
  go_enter Tryd.func54, Tryd.ntmps54
  go_wp2_with (go_at_call 73; refine (i_in _ _ _ _).mono ?_; rintro e w' ⟨rfl, rfl⟩)
  all_goals
    go_ret
    exact ⟨ret_bool (by first | (simp_all; done) | (simp_all; intros; omega)), (Below.refl _ _).alloc (Nat.le_refl _) _⟩
set_option maxRecDepth 100000 in
set_option maxHeartbeats 2000000 in
theorem i_node1 (nt : Bool) (a : Option Addr) (n c : Nat) (A B mn mx : Int) (L H : Nat → Int) (w : World) (hn : n ≤ maxLen) : Calls Tryd.prog 30 #[.agg #[.int .i64 1, .bool nt, .slice a n c, .int .i64 A, .int .i64 B, .int .i64 mn, .int .i64 mx]] w fun e w' => e = .returned (.bool (nodeB 1 nt n L H A B mn mx)) ∧ Below w.heap.size w w' := by
  unfold maxLen at hn
  go_enter Tryd.func30, Tryd.ntmps30
  go_wp2
  all_goals
    go_ret
    exact ⟨ret_bool (by first | (simp_all [nodeB]; done) | (simp_all [nodeB]; intros; omega)), (Below.refl _ _).alloc (Nat.le_refl _) _⟩
set_option maxRecDepth 100000 in
set_option maxHeartbeats 2000000 in
theorem i_node3 (nt : Bool) (a : Option Addr) (n c : Nat) (A B mn mx : Int) (L H : Nat → Int) (w : World) (hn : n ≤ maxLen) : Calls Tryd.prog 30 #[.agg #[.int .i64 3, .bool nt, .slice a n c, .int .i64 A, .int .i64 B, .int .i64 mn, .int .i64 mx]] w fun e w' => e = .returned (.bool (nodeB 3 nt n L H A B mn mx)) ∧ Below w.heap.size w w' := by
  unfold maxLen at hn
  go_enter Tryd.func30, Tryd.ntmps30
  go_wp2
  all_goals
    go_ret
    exact ⟨ret_bool (by first | (simp_all [nodeB]; done) | (simp_all [nodeB]; intros; omega)), (Below.refl _ _).alloc (Nat.le_refl _) _⟩
set_option maxRecDepth 100000 in
set_option maxHeartbeats 2000000 in
theorem i_node4 (nt : Bool) (a : Option Addr) (n c : Nat) (A B mn mx : Int) (L H : Nat → Int) (w : World) (hn : n ≤ maxLen) : Calls Tryd.prog 30 #[.agg #[.int .i64 4, .bool nt, .slice a n c, .int .i64 A, .int .i64 B, .int .i64 mn, .int .i64 mx]] w fun e w' => e = .returned (.bool (nodeB 4 nt n L H A B mn mx)) ∧ Below w.heap.size w w' := by
  unfold maxLen at hn
  go_enter Tryd.func30, Tryd.ntmps30
  go_wp2
  all_goals
    go_ret
    exact ⟨ret_bool (by first | (simp_all [nodeB]; done) | (simp_all [nodeB]; intros; omega)), (Below.refl _ _).alloc (Nat.le_refl _) _⟩
set_option maxRecDepth 100000 in
set_option maxHeartbeats 2000000 in
theorem i_node0 (nt : Bool) (a : Option Addr) (n c : Nat) (A B mn mx : Int) (L H : Nat → Int) (w : World) (hn : n ≤ maxLen) (kd : Int) (hk : ¬ kd = 1 ∧ ¬ kd = 2 ∧ ¬ kd = 3 ∧ ¬ kd = 4 ∧ ¬ kd = 5) : Calls Tryd.prog 30 #[.agg #[.int .i64 kd, .bool nt, .slice a n c, .int .i64 A, .int .i64 B, .int .i64 mn, .int .i64 mx]] w fun e w' => e = .returned (.bool (nodeB kd nt n L H A B mn mx)) ∧ Below w.heap.size w w' := by
  unfold maxLen at hn
  obtain ⟨k1, k2, k3, k4, k5⟩ := hk
  have e1 : (kd == 1) = false := by simpa using k1
  have e2 : (kd == 2) = false := by simpa using k2
  have e3 : (kd == 3) = false := by simpa using k3
  have e4 : (kd == 4) = false := by simpa using k4
  have e5 : (kd == 5) = false := by simpa using k5
  go_enter Tryd.func30, Tryd.ntmps30
  go_wp2
  all_goals
    go_ret
    exact ⟨ret_bool (by simp [nodeB, k1, k2, k3, k4, k5]), (Below.refl _ _).alloc (Nat.le_refl _) _⟩
set_option maxRecDepth 100000 in
set_option maxHeartbeats 2000000 in
theorem i_node5 (nt : Bool) (a : Option Addr) (n c : Nat) (A B mn mx : Int) (L H : Nat → Int) (w : World) (hn : n ≤ maxLen) : Calls Tryd.prog 30 #[.agg #[.int .i64 5, .bool nt, .slice a n c, .int .i64 A, .int .i64 B, .int .i64 mn, .int .i64 mx]] w fun e w' => e = .returned (.bool (nodeB 5 nt n L H A B mn mx)) ∧ Below w.heap.size w w' := by
  unfold maxLen at hn
  go_enter Tryd.func30, Tryd.ntmps30
  go_wp2_with (go_at_call 54; refine (i_count _ _ _ _ _ _ _ _ _ _).mono ?_; rintro e w2 ⟨rfl, hb2⟩; have HB2 := hide hb2; clear hb2)
  all_goals
    go_ret
    first
      | exact ⟨ret_bool (by first | (simp_all [nodeB]; done) | (simp_all [nodeB]; intros; omega)), (Below.refl _ _).alloc (Nat.le_refl _) _⟩
      | exact ⟨ret_bool (by first | (simp_all [nodeB]; done) | (simp_all [nodeB]; intros; omega)), box_below HB2.out⟩
end Go.Proofs.YtibagghpimadfaaDoor

/-
  Contracts: a class as a node: what the specification's and the program's own tests answer; the program's test of a character.
-/
namespace Go.Proofs.YtibagghpimadfaaDoor
open Go.RowKit Go.Joins
set_option linter.unusedVariables false
set_option linter.unusedSimpArgs false
set_option maxRecDepth 100000 in
set_option maxHeartbeats 2000000 in
theorem i_node2 (nt : Bool) (a : Option Addr) (n c : Nat) (A B mn mx : Int) (L H : Nat → Int) (w : World) (hn : n ≤ maxLen) (hr : RngAt w a n L H w.heap.size) : Calls Tryd.prog 30 #[.agg #[.int .i64 2, .bool nt, .slice a n c, .int .i64 A, .int .i64 B, .int .i64 mn, .int .i64 mx]] w fun e w' => e = .returned (.bool (nodeB 2 nt n L H A B mn mx)) ∧ Below w.heap.size w w' := by
  have HN := hide hn
  have HR := hide hr
  unfold maxLen at hn
  clear hr
  go_enter Tryd.func30, Tryd.ntmps30
  go_wp2_with (go_at_call 53; refine (i_ranges _ _ _ L H _ HN.out (rngAt_up (rngAt_go HR.out ((Below.refl _ _).alloc (Nat.le_refl _) _)) (by simp))).mono ?_; rintro e w2 ⟨rfl, hb2⟩; have HB2 := hide (box_below hb2); clear hb2)
  all_goals
    go_ret
    exact ⟨ret_bool (by simp_all [nodeB]), HB2.out⟩
theorem i_fields (kd : Int) (nt : Bool) (a : Option Addr) (n c : Nat) (A B mn mx : Int) (L H : Nat → Int) (w : World) (hn : n ≤ maxLen) (hr : RngAt w a n L H w.heap.size) : Calls Tryd.prog 30 #[.agg #[.int .i64 kd, .bool nt, .slice a n c, .int .i64 A, .int .i64 B, .int .i64 mn, .int .i64 mx]] w fun e w' => e = .returned (.bool (nodeB kd nt n L H A B mn mx)) ∧ Below w.heap.size w w' := by
  by_cases h1 : kd = 1
  · subst h1; exact i_node1 nt a n c A B mn mx L H w hn
  by_cases h2 : kd = 2
  · subst h2; exact i_node2 nt a n c A B mn mx L H w hn hr
  by_cases h3 : kd = 3
  · subst h3; exact i_node3 nt a n c A B mn mx L H w hn
  by_cases h4 : kd = 4
  · subst h4; exact i_node4 nt a n c A B mn mx L H w hn
  by_cases h5 : kd = 5
  · subst h5; exact i_node5 nt a n c A B mn mx L H w hn
  exact i_node0 nt a n c A B mn mx L H w hn kd ⟨h1, h2, h3, h4, h5⟩
end Go.Proofs.YtibagghpimadfaaDoor

/-
  Contracts: a class as a node: what the specification's own test answers, at every node.
-/
namespace Go.Proofs.YtibagghpimadfaaDoor
open Go.RowKit Go.Joins
set_option linter.unusedVariables false
set_option linter.unusedSimpArgs false
set_option maxRecDepth 100000 in
set_option maxHeartbeats 4000000 in
theorem s_node2 (nt : Bool) (a : Option Addr) (n c : Nat) (A B mn mx : Int) (L H : Nat → Int) (w : World) (hn : n ≤ maxLen) (hr : RngAt w a n L H w.heap.size) : Calls Tryd.prog 46 #[.agg #[.int .i64 2, .bool nt, .slice a n c, .int .i64 A, .int .i64 B, .int .i64 mn, .int .i64 mx]] w fun e w' => e = .returned (.bool (nodeB 2 nt n L H A B mn mx)) ∧ Below w.heap.size w w' := by
  have HR := hide hr
  unfold maxLen at hn
  clear hr
  by_cases hp : (1 ≤ n ∧ n ≤ 12) ∧ A = 0 ∧ B = 0 ∧ mn = 0 ∧ mx = 0
  · obtain ⟨⟨g1, g2⟩, rfl, rfl, rfl, rfl⟩ := hp
    have g3 : (1 : Int) ≤ n := by omega
    have g4 : (n : Int) ≤ 12 := by omega
    go_enter Tryd.func46, Tryd.ntmps46
    go_wp2
    go_loopw [3] (fun i wr => ∃ k : Nat, k ≤ n ∧ i = .int .i64 k ∧ Below w.heap.size w wr ∧ NodeAt wr w.heap.size 2 nt a n c 0 0 0 0 ∧ Hid (∀ j, j < k → rgB (L j) (H j) = true)) (fun i _ => n - (intOf i).toNat)
    case atStart => exact ⟨0, Nat.zero_le _, rfl, (Below.refl _ _).alloc (Nat.le_refl _) _, nodeAt_new _ _ _ _ _ _ _ _ _ _ _, fun j h => by omega⟩
    case round =>
      obtain ⟨k, hk, rfl, hb, hN, HM⟩ := hrel
      obtain ⟨a0, a1, a2, a3, a4, a5, a6⟩ := nodeAt_cells hN
      have HNN := hide hN
      clear hN
      by_cases hlt : k < n
      · obtain ⟨b, off, rfl, hbs, hc⟩ := HR.out (by omega)
        have hc1 : wr.cell? ⟨b, off + k * 2, none⟩ = some (.int .i64 (L k)) := (hb.cell hbs).trans (hc k hlt).1
        have hc2 : wr.cell? ⟨b, off + k * 2 + 1, none⟩ = some (.int .i64 (H k)) := (hb.cell hbs).trans (hc k hlt).2
        have HB := hide hb
        have hi : (k : Int) < (n : Int) := by omega
        have hi0 : (0 : Int) ≤ (k : Int) := by omega
        clear hc hb
        cases el : chB (L k)
        · go_wp2
          go_big_quiet (first | (go_at_call_of 66 (L k); refine Calls.quiet_of_same (s_chF _ _ el)))
          go_wp2
          go_ret
          exact ⟨ret_bool (by simp [nodeB, rowB, rgsB_no hlt (rgB_l el)]), HB.out.trans ((drew_below _ _).mono HB.out.size)⟩
        · cases eh : chB (H k)
          · go_wp2
            go_big_quiet (first | (go_at_call_of 66 (L k); refine Calls.quiet_of_same (s_chT _ _ el)) | (go_at_call_of 66 (H k); refine Calls.quiet_of_same (s_chF _ _ eh)))
            go_wp2
            go_ret
            exact ⟨ret_bool (by simp [nodeB, rowB, rgsB_no hlt (rgB_h (l := L k) eh)]), HB.out.trans ((drew_below _ _).mono HB.out.size)⟩
          · by_cases ho : L k ≤ H k
            · go_wp2
              go_big_quiet (first | (go_at_call_of 66 (L k); refine Calls.quiet_of_same (s_chT _ _ el)) | (go_at_call_of 66 (H k); refine Calls.quiet_of_same (s_chT _ _ eh)))
              go_wp2
              go_roundw
              case rel =>
                refine ⟨k + 1, by omega, by go_num, HB.out.trans ((drew_below _ _).mono HB.out.size), nodeAt_go HNN.out (drew_below _ _), fun j hj => ?_⟩
                by_cases e : j = k
                · subst e; exact rgB_y el eh ho
                · exact HM.out j (by omega)
              case measure => simp [intOf]; omega
            · go_wp2
              go_big_quiet (first | (go_at_call_of 66 (L k); refine Calls.quiet_of_same (s_chT _ _ el)) | (go_at_call_of 66 (H k); refine Calls.quiet_of_same (s_chT _ _ eh)))
              go_wp2
              go_ret
              exact ⟨ret_bool (by simp [nodeB, rowB, rgsB_no hlt (rgB_o (by omega))]), HB.out.trans ((drew_below _ _).mono HB.out.size)⟩
      · have e : rowB n L H = true := by rw [rowB, rgsB_yes (fun j h => HM.out j (by omega)), decide_eq_true (⟨g1, g2⟩ : 1 ≤ n ∧ n ≤ 12)]; rfl
        have E := hide e
        clear e
        go_wp2
        go_ret
        exact ⟨ret_bool (by simp [nodeB, E.out]), hb⟩
  · have e : nodeB 2 nt n L H A B mn mx = false := by
      by_cases h12 : 1 ≤ n ∧ n ≤ 12
      · simp only [nodeB]
        simp
        intro _ hA hB hmn hmx
        exact hp ⟨h12, hA, hB, hmn, hmx⟩
      · simp [nodeB, rowB, h12]
    have E := hide e
    have HP := hide hp
    clear e hp
    go_enter Tryd.func46, Tryd.ntmps46
    go_wp2
    all_goals first
      | (go_ret; exact ⟨ret_bool E.out.symm, (Below.refl _ _).alloc (Nat.le_refl _) _⟩)
      | exact absurd (⟨⟨by omega, by omega⟩, by omega, by omega, by omega, by simp_all⟩) HP.out
theorem s_nodeok (kd : Int) (nt : Bool) (a : Option Addr) (n c : Nat) (A B mn mx : Int) (L H : Nat → Int) (w : World) (hn : n ≤ maxLen) (hr : RngAt w a n L H w.heap.size) : Calls Tryd.prog 46 #[.agg #[.int .i64 kd, .bool nt, .slice a n c, .int .i64 A, .int .i64 B, .int .i64 mn, .int .i64 mx]] w fun e w' => e = .returned (.bool (nodeB kd nt n L H A B mn mx)) ∧ Below w.heap.size w w' := by
  by_cases h1 : kd = 1
  · subst h1; exact s_node1 nt a n c A B mn mx L H w hn
  by_cases h2 : kd = 2
  · subst h2; exact s_node2 nt a n c A B mn mx L H w hn hr
  by_cases h3 : kd = 3
  · subst h3; exact s_node3 nt a n c A B mn mx L H w hn
  by_cases h4 : kd = 4
  · subst h4; exact s_node4 nt a n c A B mn mx L H w hn
  by_cases h5 : kd = 5
  · subst h5; exact s_node5 nt a n c A B mn mx L H w hn
  exact s_node0 nt a n c A B mn mx L H w hn kd ⟨h1, h2, h3, h4, h5⟩
end Go.Proofs.YtibagghpimadfaaDoor

/-
  Contracts: ClassHas, the specification's and the program's; a node and its copy are told as alike.
-/
namespace Go.Proofs.YtibagghpimadfaaDoor
open Go.RowKit Go.Joins
set_option linter.unusedVariables false
set_option linter.unusedSimpArgs false
theorem box_node {w w2 : World} {kd : Int} {nt : Bool} {a : Option Addr} {n c : Nat} {A B mn mx : Int} {T : TypeId}
    (k : Below (w.alloc (.cells #[.int .i64 kd, .bool nt, .slice a n c, .int .i64 A, .int .i64 B, .int .i64 mn, .int .i64 mx] T)).heap.size (w.alloc (.cells #[.int .i64 kd, .bool nt, .slice a n c, .int .i64 A, .int .i64 B, .int .i64 mn, .int .i64 mx] T)) w2) :
    NodeAt w2 w.heap.size kd nt a n c A B mn mx ∧ Below w.heap.size w w2 := ⟨nodeAt_go (nodeAt_new _ _ _ _ _ _ _ _ _ _ _) k, box_below k⟩
end Go.Proofs.YtibagghpimadfaaDoor

/-
  Contracts: the program's ClassHas; a node and its copy are told as alike.
-/
namespace Go.Proofs.YtibagghpimadfaaDoor
open Go.RowKit Go.Joins
set_option linter.unusedVariables false
set_option linter.unusedSimpArgs false
theorem two_nodes {w w2 : World} {kd kd' : Int} {nt nt' : Bool} {a a' : Option Addr} {n c n' c' : Nat} {A B mn mx A' B' mn' mx' : Int} {T U : TypeId}
    (k : Below ((w.alloc (.cells #[.int .i64 kd, .bool nt, .slice a n c, .int .i64 A, .int .i64 B, .int .i64 mn, .int .i64 mx] T)).alloc (.cells #[.int .i64 kd', .bool nt', .slice a' n' c', .int .i64 A', .int .i64 B', .int .i64 mn', .int .i64 mx'] U)).heap.size
      ((w.alloc (.cells #[.int .i64 kd, .bool nt, .slice a n c, .int .i64 A, .int .i64 B, .int .i64 mn, .int .i64 mx] T)).alloc (.cells #[.int .i64 kd', .bool nt', .slice a' n' c', .int .i64 A', .int .i64 B', .int .i64 mn', .int .i64 mx'] U)) w2) :
    NodeAt w2 w.heap.size kd nt a n c A B mn mx ∧ NodeAt w2 (w.heap.size + 1) kd' nt' a' n' c' A' B' mn' mx' ∧ Below w.heap.size w w2 := by
  have h1 := nodeAt_new w kd nt a n c A B mn mx T
  have h2 := nodeAt_new (w.alloc (.cells #[.int .i64 kd, .bool nt, .slice a n c, .int .i64 A, .int .i64 B, .int .i64 mn, .int .i64 mx] T)) kd' nt' a' n' c' A' B' mn' mx' U
  have st : ∀ (x : World) (o : Obj), Below x.heap.size x (x.alloc o) := fun x o => (Below.refl _ _).alloc (Nat.le_refl _) _
  refine ⟨nodeAt_go (nodeAt_go h1 (st _ _)) k, ?_, ?_⟩
  · have := nodeAt_go h2 k
    simpa using this
  · exact (((Below.refl w.heap.size w).alloc (Nat.le_refl _) _).alloc (by simp) _).trans (k.mono (by simp; omega))
set_option maxHeartbeats 4000000 in
theorem l_eqN (kd : Int) (nt : Bool) (a a' : Option Addr) (n c c' : Nat) (A B mn mx : Int) (L H : Nat → Int) (w : World) (hn : n ≤ 1048576) (hr : RngAt w a n L H w.heap.size) (hr' : RngAt w a' n L H w.heap.size) : Calls Tryd.prog 32 #[.agg #[.int .i64 kd, .bool nt, .slice a n c, .int .i64 A, .int .i64 B, .int .i64 mn, .int .i64 mx], .agg #[.int .i64 kd, .bool nt, .slice a' n c', .int .i64 A, .int .i64 B, .int .i64 mn, .int .i64 mx]] w fun e w' => e = .returned (.bool true) ∧ Below w.heap.size w w' := by
  have HR := hide hr
  have HR' := hide hr'
  clear hr hr'
  go_enter Tryd.func32, Tryd.ntmps32
  go_wp2_with (go_at_call 56; refine (l_eqRs _ _ _ _ _ L H _ hn (rngAt_up (rngAt_go HR.out (((Below.refl _ _).alloc (Nat.le_refl _) _).alloc (by simp) _)) (by simp; omega)) (rngAt_up (rngAt_go HR'.out (((Below.refl _ _).alloc (Nat.le_refl _) _).alloc (by simp) _)) (by simp; omega))).mono ?_; rintro e w2 ⟨rfl, hb2⟩; have HX2 := hide (two_nodes hb2); obtain ⟨a0, a1, a2, a3, a4, a5, a6⟩ := nodeAt_cells HX2.out.1; obtain ⟨b0, b1, b2, b3, b4, b5, b6⟩ := nodeAt_cells HX2.out.2.1; clear hb2)
  go_ret
  exact ⟨rfl, HX2.out.2.2⟩
end Go.Proofs.YtibagghpimadfaaDoor

/-
  Contracts: two rows of nodes that are alike are told so.
-/
namespace Go.Proofs.YtibagghpimadfaaDoor
open Go.RowKit Go.Joins
set_option linter.unusedVariables false
set_option linter.unusedSimpArgs false
def EQN (w w' : World) (b o b' o' : Nat) (X : Rx) (k : Nat) (ad : Option Addr) (cp : Nat) (ad' : Option Addr) (cp' : Nat) : Prop := Below w.heap.size w w' ∧ (b < w.heap.size ∧ b' < w.heap.size) ∧
  RxCells w' b o X k ad cp ∧ RxCells w' b' o' X k ad' cp' ∧ RngAt w' ad (X.NR k) (X.L k) (X.H k) w.heap.size ∧ RngAt w' ad' (X.NR k) (X.L k) (X.H k) w.heap.size
section
variable {w w1 w2 : World} {b o b' o' : Nat} {X : Rx} {k : Nat} {ad : Option Addr} {cp : Nat} {ad' : Option Addr} {cp' : Nat}
theorem eqn_go (x : EQN w w1 b o b' o' X k ad cp ad' cp') (h : Below w1.heap.size w1 w2) : EQN w w2 b o b' o' X k ad cp ad' cp' := by
  obtain ⟨hb, ⟨h1, h2⟩, c1, c2, r1, r2⟩ := x
  have hh := h.mono hb.size
  exact ⟨hb.trans hh, ⟨h1, h2⟩, rxCells_go c1 h1 hh, rxCells_go c2 h2 hh, rngAt_go r1 hh, rngAt_go r2 hh⟩
theorem eqn_drew (x : EQN w w1 b o b' o' X k ad cp ad' cp') : EQN w w1.drew b o b' o' X k ad cp ad' cp' := eqn_go x ⟨rfl, rfl, rfl, Nat.le_refl _, fun _ _ => rfl⟩
theorem eqn_all (x : EQN w w1 b o b' o' X k ad cp ad' cp') : EQN w w1 b o b' o' X k ad cp ad' cp' ∧ (w1.cell? ⟨b, o, none⟩ = some (.int .i64 (X.K k)) ∧ w1.cell? ⟨b, o + 1, none⟩ = some (.bool (X.NT k)) ∧ w1.cell? ⟨b, o + 2, none⟩ = some (.slice ad (X.NR k) cp) ∧ w1.cell? ⟨b, o + 3, none⟩ = some (.int .i64 (X.A k)) ∧ w1.cell? ⟨b, o + 4, none⟩ = some (.int .i64 (X.B k)) ∧ w1.cell? ⟨b, o + 5, none⟩ = some (.int .i64 (X.MN k)) ∧ w1.cell? ⟨b, o + 6, none⟩ = some (.int .i64 (X.MX k))) ∧ w1.cell? ⟨b', o', none⟩ = some (.int .i64 (X.K k)) ∧ w1.cell? ⟨b', o' + 1, none⟩ = some (.bool (X.NT k)) ∧ w1.cell? ⟨b', o' + 2, none⟩ = some (.slice ad' (X.NR k) cp') ∧ w1.cell? ⟨b', o' + 3, none⟩ = some (.int .i64 (X.A k)) ∧ w1.cell? ⟨b', o' + 4, none⟩ = some (.int .i64 (X.B k)) ∧ w1.cell? ⟨b', o' + 5, none⟩ = some (.int .i64 (X.MN k)) ∧ w1.cell? ⟨b', o' + 6, none⟩ = some (.int .i64 (X.MX k)) := ⟨x, x.2.2.1, x.2.2.2.1⟩
theorem eqn_r1 (x : EQN w w1 b o b' o' X k ad cp ad' cp') : RngAt w1 ad (X.NR k) (X.L k) (X.H k) w1.heap.size := rngAt_up x.2.2.2.2.1 x.1.size
theorem eqn_r2 (x : EQN w w1 b o b' o' X k ad cp ad' cp') : RngAt w1 ad' (X.NR k) (X.L k) (X.H k) w1.heap.size := rngAt_up x.2.2.2.2.2 x.1.size
end
set_option maxRecDepth 100000 in
set_option maxHeartbeats 4000000 in
theorem l_eqNs (X : Rx) (n : Nat) (a1 a2 : Option Addr) (c1 c2 : Nat) (w : World) (hX : X.len = n) (hn : n ≤ 1048576) (hnr : ∀ j, j < n → X.NR j ≤ 1048576) (h1 : RxAt w a1 X w.heap.size) (h2 : RxAt w a2 X w.heap.size) :
    Calls Tryd.prog 14 #[.slice a1 n c1, .slice a2 n c2] w fun e w' => e = .returned (.bool true) ∧ Below w.heap.size w w' := by
  have HX := hide hX
  have HNR := hide hnr
  have H1 := hide h1
  have H2 := hide h2
  clear h1 h2 hnr hX
  go_enter Tryd.func14, Tryd.ntmps14
  go_wp2
  go_loopw [5] (fun i wr => ∃ k : Nat, k ≤ n ∧ i = .int .i64 k ∧ Below w.heap.size w wr) (fun i _ => n - (intOf i).toNat)
  case atStart => exact ⟨0, Nat.zero_le _, rfl, Below.refl _ _⟩
  case round =>
    obtain ⟨k, hk, rfl, hb⟩ := hrel
    by_cases hlt : k < n
    · obtain ⟨b, off, rfl, hbs, hc⟩ := H1.out (by rw [HX.out]; omega)
      obtain ⟨b', off', rfl, hbs', hc'⟩ := H2.out (by rw [HX.out]; omega)
      obtain ⟨ad, cp, hk1, hr1⟩ := hc k (by rw [HX.out]; omega)
      obtain ⟨ad', cp', hk2, hr2⟩ := hc' k (by rw [HX.out]; omega)
      have hnk := HNR.out k hlt
      have XX : Hid (EQN w wr b (off + k * 7) b' (off' + k * 7) X k ad cp ad' cp') := ⟨hb, ⟨hbs, hbs'⟩, rxCells_go hk1 hbs hb, rxCells_go hk2 hbs' hb, rngAt_go hr1 hb, rngAt_go hr2 hb⟩
      have hi : (k : Int) < (n : Int) := by omega
      have hi0 : (0 : Int) ≤ (k : Int) := by omega
      clear hc hc' hb hk1 hk2 hr1 hr2
      go_wp2
      go_region_held3 (fun w' => EQN w w' b (off + k * 7) b' (off' + k * 7) X k ad cp ad' cp' ∧ (w'.cell? ⟨b, off + k * 7, none⟩ = some (.int .i64 (X.K k)) ∧ w'.cell? ⟨b, off + k * 7 + 1, none⟩ = some (.bool (X.NT k)) ∧ w'.cell? ⟨b, off + k * 7 + 2, none⟩ = some (.slice ad (X.NR k) cp) ∧ w'.cell? ⟨b, off + k * 7 + 3, none⟩ = some (.int .i64 (X.A k)) ∧ w'.cell? ⟨b, off + k * 7 + 4, none⟩ = some (.int .i64 (X.B k)) ∧ w'.cell? ⟨b, off + k * 7 + 5, none⟩ = some (.int .i64 (X.MN k)) ∧ w'.cell? ⟨b, off + k * 7 + 6, none⟩ = some (.int .i64 (X.MX k))) ∧ w'.cell? ⟨b', off' + k * 7, none⟩ = some (.int .i64 (X.K k)) ∧ w'.cell? ⟨b', off' + k * 7 + 1, none⟩ = some (.bool (X.NT k)) ∧ w'.cell? ⟨b', off' + k * 7 + 2, none⟩ = some (.slice ad' (X.NR k) cp') ∧ w'.cell? ⟨b', off' + k * 7 + 3, none⟩ = some (.int .i64 (X.A k)) ∧ w'.cell? ⟨b', off' + k * 7 + 4, none⟩ = some (.int .i64 (X.B k)) ∧ w'.cell? ⟨b', off' + k * 7 + 5, none⟩ = some (.int .i64 (X.MN k)) ∧ w'.cell? ⟨b', off' + k * 7 + 6, none⟩ = some (.int .i64 (X.MX k))) (first | assumption | exact eqn_all (eqn_drew XX.out) | exact eqn_all XX.out) (first | (go_at_call 32; refine (l_eqN _ _ _ _ _ _ _ _ _ _ _ (X.L k) (X.H k) _ hnk (eqn_r1 (And.left (by assumption))) (eqn_r2 (And.left (by assumption)))).mono ?_; rintro e w2 ⟨rfl, hb2⟩; have X2 := hide (eqn_go (eqn_drew XX.out) hb2); replace XX := X2; clear X2 hb2))
      all_goals
        go_wp2
        go_roundw
        case rel => exact ⟨k + 1, by omega, by go_num, XX.out.1⟩
        case measure => simp [intOf]; omega
    · go_wp2
      go_ret
      exact ⟨rfl, hb⟩
end Go.Proofs.YtibagghpimadfaaDoor

/-
  Plain facts: what stays as it was, rows of one's own.
-/
namespace Go.Proofs.YtibagghpimadfaaDoor
open Go.RowKit Go.Joins
set_option linter.unusedVariables false
set_option linter.unusedSimpArgs false
/-- All that was there is as it was, but blocks of S. -/
structure Kp (S : Nat → Prop) (w w' : World) : Prop where
  os : w'.os = w.os
  tape : w'.tape = w.tape
  output : w'.output = w.output
  size : w.heap.size ≤ w'.heap.size
  block : ∀ k, k < w.heap.size → ¬ S k → w'.heap[k]? = w.heap[k]?
theorem Kp.refl (S : Nat → Prop) (w : World) : Kp S w w := ⟨rfl, rfl, rfl, Nat.le_refl _, fun _ _ _ => rfl⟩
theorem Kp.trans {S T : Nat → Prop} {w w1 w2 : World} (h : Kp S w w1) (k : Kp T w1 w2) (hT : ∀ j, j < w.heap.size → T j → S j) : Kp S w w2 :=
  ⟨k.os.trans h.os, k.tape.trans h.tape, k.output.trans h.output, Nat.le_trans h.size k.size, fun j hj hs => (k.block j (Nat.lt_of_lt_of_le hj h.size) (fun ht => hs (hT j hj ht))).trans (h.block j hj hs)⟩
theorem kp_grown {S : Nat → Prop} {w w' : World} {row : Option Nat} (h : w.grownBy w' row) (hS : ∀ k, row = some k → S k) : Kp S w w' :=
  ⟨h.os, h.tape, h.output, h.size, fun k hk hs => h.block k hk (fun e => hs (hS k e.symm))⟩
theorem kp_set {S : Nat → Prop} (w : World) (p : Addr) (v : Value) (h : S p.block) : Kp S w (w.setCell p v) :=
  ⟨rfl, rfl, rfl, by rw [heap_setCell_size]; exact Nat.le_refl _, fun k hk hs => heap_setCell_far _ _ _ _ (fun e => hs (by rw [← e]; exact h))⟩
theorem kp_alloc {S : Nat → Prop} (w : World) (o : Obj) : Kp S w (w.alloc o) := kp_grown (World.grownBy_alloc w o none) (fun k hk => by cases hk)
theorem kp_drew {S : Nat → Prop} (w : World) : Kp S w w.drew := ⟨rfl, rfl, rfl, Nat.le_refl _, fun _ _ _ => rfl⟩
theorem kp_drewN {S : Nat → Prop} (w : World) (q : Nat) : Kp S w (w.drewN q) := ⟨rfl, rfl, rfl, Nat.le_refl _, fun _ _ _ => rfl⟩
theorem kp_below {S : Nat → Prop} {B : Nat} {w w' : World} (h : Kp S w w') (hB : B ≤ w.heap.size) (hS : ∀ k, S k → B ≤ k) : Below B w w' :=
  ⟨h.os, h.tape, h.output, h.size, fun k hk => h.block k (Nat.lt_of_lt_of_le hk hB) (fun hs => by have := hS k hs; omega)⟩
theorem own_kp {S : Nat → Prop} {w w' : World} {B e z n : Nat} {v : Value} {xs : List Value} (h : w.ownsRow B e z v n xs) (k : Kp S w w') (hS : ∀ j, v.ownBlock = some j → ¬ S j) : w'.ownsRow B e z v n xs := by
  obtain ⟨hl, h⟩ := h
  refine ⟨hl, ?_⟩
  rcases h with h | ⟨g, cap, cur, hv, hg, hh, h1, h2, h3, h4⟩
  · exact .inl h
  · exact .inr ⟨g, cap, cur, hv, hg, (k.block g (Array.getElem?_eq_some_iff.1 hh).1 (hS g (by rw [hv]; rfl))).trans hh, h1, h2, h3, h4⟩
/-- The block of a row has the type of its cells. -/
theorem own_type {w : World} {B e z n k : Nat} {v : Value} {xs : List Value} (h : w.ownsRow B e z v n xs) (hk : v.ownBlock = some k) : ∃ cur, w.heap[k]? = some (.cells cur e (0, 0)) := by
  rcases h.2 with ⟨rfl, -⟩ | ⟨g, cap, cur, hv, -, hh, -⟩
  · cases hk
  · rw [hv] at hk
    have : g = k := by simpa [Value.ownBlock] using hk
    subst this
    exact ⟨cur, hh⟩
theorem type_ne {w : World} {B e z n k : Nat} {v : Value} {xs : List Value} (h : w.ownsRow B e z v n xs) (hk : v.ownBlock = some k) {cs : Array Value} {t : TypeId} {fr : Nat × Nat} {R : Nat} (hR : w.heap[R]? = some (.cells cs t fr)) (ht : e ≠ t) : k ≠ R := by
  rintro rfl
  obtain ⟨cur, hc⟩ := own_type h hk
  rw [hc] at hR
  simp only [Option.some.injEq, Obj.cells.injEq] at hR
  exact ht hR.2.1
theorem own_ne {w : World} {B e z n k B' e' z' n' k' : Nat} {v v' : Value} {xs xs' : List Value} (h : w.ownsRow B e z v n xs) (hk : v.ownBlock = some k) (h' : w.ownsRow B' e' z' v' n' xs') (hk' : v'.ownBlock = some k') (ht : e ≠ e') : k ≠ k' := by
  obtain ⟨cur, hc⟩ := own_type h' hk'
  exact type_ne h hk hc ht
end Go.Proofs.YtibagghpimadfaaDoor
