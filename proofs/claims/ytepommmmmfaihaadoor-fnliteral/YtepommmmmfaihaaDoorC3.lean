/-
  Texts put together: Class, NodeI, Class2, Class3.
-/
import Derived.Test.YtepommmmmfaihaaDoorC2
import Derived.Deep.DeepCutAuto
/-
  Contracts: rows of ranges, classes: what the specification's and the program's tests answer at each; nothing old has turned.
-/
namespace Go.Proofs.YtepommmmmfaihaaDoor
open Go.RowKit Go.Joins
set_option linter.unusedVariables false
set_option linter.unusedSimpArgs false
theorem rgB_l {l h : Int} (e : chB l = false) : rgB l h = false := by simp [rgB, e]
theorem rgB_h {l h : Int} (e : chB h = false) : rgB l h = false := by simp [rgB, e]
theorem rgB_o {l h : Int} (e : h < l) : rgB l h = false := by
  have e' : ¬ l ≤ h := by omega
  simp [rgB, e']
theorem rgB_y {l h : Int} (e1 : chB l = true) (e2 : chB h = true) (e : l ≤ h) : rgB l h = true := by simp [rgB, e1, e2, e]
theorem drew_below (w : World) (q : Nat) : Below w.heap.size w (w.drewN q) := by
  induction q with
  | zero => exact Below.refl _ _
  | succ q ih => exact ih.drew
set_option maxHeartbeats 2000000 in
theorem i_ranges (a : Option Addr) (n c : Nat) (L H : Nat → Int) (w : World) (hn : n ≤ maxLen) (hr : RngAt w a n L H w.heap.size) :
    Calls Tryd.prog 34 #[.slice a n c] w fun e w' => e = .returned (.bool (rowB n L H)) ∧ Below w.heap.size w w' := by
  unfold maxLen at hn
  have HR := hide hr
  clear hr
  by_cases h12 : 1 ≤ n ∧ n ≤ 12
  · obtain ⟨g1, g2⟩ := h12
    go_enter Tryd.func34, Tryd.ntmps34
    go_wp2
    go_loopw [15] (fun i wr => ∃ k : Nat, k ≤ n ∧ i = .int .i64 k ∧ Below w.heap.size w wr ∧ Hid (∀ j, j < k → rgB (L j) (H j) = true)) (fun i _ => n - (intOf i).toNat)
    case atStart => exact ⟨0, Nat.zero_le _, rfl, Below.refl _ _, fun j h => by omega⟩
    case round =>
      obtain ⟨k, hk, rfl, hb, HM⟩ := hrel
      by_cases hlt : k < n
      · obtain ⟨b, off, rfl, hbs, hc⟩ := HR.out (by omega)
        have hc1 : wr.cell? ⟨b, off + k * 2, none⟩ = some (.int .i64 (L k)) := (hb.cell hbs).trans (hc k hlt).1
        have hc2 : wr.cell? ⟨b, off + k * 2 + 1, none⟩ = some (.int .i64 (H k)) := (hb.cell hbs).trans (hc k hlt).2
        have HB := hide hb
        clear hc hb
        cases el : chB (L k)
        · go_wp2_with (go_at_call_of 50 (L k); refine (i_chF _ _ el).mono ?_; rintro e w' ⟨rfl, rfl⟩)
          go_ret
          exact ⟨ret_bool (by simp [rowB, rgsB_no hlt (rgB_l el)]), HB.out.alloc HB.out.size _⟩
        · cases eh : chB (H k)
          · go_wp2_with (first | (go_at_call_of 50 (L k); refine (i_chT _ _ el).mono ?_; rintro e w' ⟨rfl, rfl⟩) | (go_at_call_of 50 (H k); refine (i_chF _ _ eh).mono ?_; rintro e w' ⟨rfl, rfl⟩))
            go_ret
            exact ⟨ret_bool (by simp [rowB, rgsB_no hlt (rgB_h (l := L k) eh)]), HB.out.alloc HB.out.size _⟩
          · by_cases ho : L k ≤ H k
            · go_wp2_with (first | (go_at_call_of 50 (L k); refine (i_chT _ _ el).mono ?_; rintro e w' ⟨rfl, rfl⟩) | (go_at_call_of 50 (H k); refine (i_chT _ _ eh).mono ?_; rintro e w' ⟨rfl, rfl⟩))
              go_roundw
              case rel =>
                refine ⟨k + 1, by omega, by go_num, HB.out.alloc HB.out.size _, fun j hj => ?_⟩
                by_cases e : j = k
                · subst e; exact rgB_y el eh ho
                · exact HM.out j (by omega)
              case measure => simp [intOf]; omega
            · go_wp2_with (first | (go_at_call_of 50 (L k); refine (i_chT _ _ el).mono ?_; rintro e w' ⟨rfl, rfl⟩) | (go_at_call_of 50 (H k); refine (i_chT _ _ eh).mono ?_; rintro e w' ⟨rfl, rfl⟩))
              go_ret
              exact ⟨ret_bool (by simp [rowB, rgsB_no hlt (rgB_o (by omega))]), HB.out.alloc HB.out.size _⟩
      · go_wp2
        go_ret
        exact ⟨ret_bool (by rw [rowB, rgsB_yes (fun j h => HM.out j (by omega)), decide_eq_true (⟨g1, g2⟩ : 1 ≤ n ∧ n ≤ 12)]; rfl), hb⟩
  · have e : rowB n L H = false := by simp only [rowB, decide_eq_false h12, Bool.false_and]
    rw [e]
    go_enter Tryd.func34, Tryd.ntmps34
    by_cases g : n = 0
    · go_wp2
      go_ret
      exact ⟨rfl, Below.refl _ _⟩
    · have g2 : 12 < n := by omega
      have g3 : (12 : Int) < (n : Int) := by omega
      go_wp2
      go_ret
      exact ⟨rfl, Below.refl _ _⟩
end Go.Proofs.YtepommmmmfaihaaDoor

/-
  Contracts: what impl.fieldsOk answers at every node; nothing old has turned.
-/
namespace Go.Proofs.YtepommmmmfaihaaDoor
open Go.RowKit Go.Joins
set_option linter.unusedVariables false
set_option linter.unusedSimpArgs false
theorem i_in (n a b : Int) (w : World) : Calls Tryd.prog 51 #[.int .i64 n, .int .i64 a, .int .i64 b] w fun e w' => e = .returned (.bool (decide (a ≤ n ∧ n ≤ b))) ∧ w' = w := by
  by_cases h : a ≤ n ∧ n ≤ b
  · rw [decide_eq_true h]; exact i_inT n a b w h
  · rw [decide_eq_false h]; exact i_inF n a b w h
theorem box_below {w w1 : World} {c : Array Value} {t : TypeId} (h : Below (w.alloc (.cells c t)).heap.size (w.alloc (.cells c t)) w1) : Below w.heap.size w w1 :=
  ((Below.refl w.heap.size w).alloc (Nat.le_refl _) _).trans (h.mono (by simp))
set_option maxRecDepth 100000 in
theorem i_count (kd : Int) (nt : Bool) (a : Option Addr) (n c : Nat) (A B mn mx : Int) (w : World) : Calls Tryd.prog 35 #[.agg #[.int .i64 kd, .bool nt, .slice a n c, .int .i64 A, .int .i64 B, .int .i64 mn, .int .i64 mx]] w fun e w' => e = .returned (.bool (decide (0 ≤ mn ∧ mn ≤ 20) && (mx == -1 || decide (mn ≤ mx ∧ mx ≤ 20)))) ∧ Below w.heap.size w w' := by
  go_enter Tryd.func35, Tryd.ntmps35
  go_wp2_with (go_at_call 51; refine (i_in _ _ _ _).mono ?_; rintro e w' ⟨rfl, rfl⟩)
  all_goals
    go_ret
    exact ⟨ret_bool (by first | (simp_all; done) | (simp_all; intros; omega)), (Below.refl _ _).alloc (Nat.le_refl _) _⟩
set_option maxRecDepth 100000 in
set_option maxHeartbeats 2000000 in
theorem i_node1 (nt : Bool) (a : Option Addr) (n c : Nat) (A B mn mx : Int) (L H : Nat → Int) (w : World) (hn : n ≤ maxLen) : Calls Tryd.prog 21 #[.agg #[.int .i64 1, .bool nt, .slice a n c, .int .i64 A, .int .i64 B, .int .i64 mn, .int .i64 mx]] w fun e w' => e = .returned (.bool (nodeB 1 nt n L H A B mn mx)) ∧ Below w.heap.size w w' := by
  unfold maxLen at hn
  go_enter Tryd.func21, Tryd.ntmps21
  go_wp2
  all_goals
    go_ret
    exact ⟨ret_bool (by first | (simp_all [nodeB]; done) | (simp_all [nodeB]; intros; omega)), (Below.refl _ _).alloc (Nat.le_refl _) _⟩
set_option maxRecDepth 100000 in
set_option maxHeartbeats 2000000 in
theorem i_node3 (nt : Bool) (a : Option Addr) (n c : Nat) (A B mn mx : Int) (L H : Nat → Int) (w : World) (hn : n ≤ maxLen) : Calls Tryd.prog 21 #[.agg #[.int .i64 3, .bool nt, .slice a n c, .int .i64 A, .int .i64 B, .int .i64 mn, .int .i64 mx]] w fun e w' => e = .returned (.bool (nodeB 3 nt n L H A B mn mx)) ∧ Below w.heap.size w w' := by
  unfold maxLen at hn
  go_enter Tryd.func21, Tryd.ntmps21
  go_wp2
  all_goals
    go_ret
    exact ⟨ret_bool (by first | (simp_all [nodeB]; done) | (simp_all [nodeB]; intros; omega)), (Below.refl _ _).alloc (Nat.le_refl _) _⟩
set_option maxRecDepth 100000 in
set_option maxHeartbeats 2000000 in
theorem i_node4 (nt : Bool) (a : Option Addr) (n c : Nat) (A B mn mx : Int) (L H : Nat → Int) (w : World) (hn : n ≤ maxLen) : Calls Tryd.prog 21 #[.agg #[.int .i64 4, .bool nt, .slice a n c, .int .i64 A, .int .i64 B, .int .i64 mn, .int .i64 mx]] w fun e w' => e = .returned (.bool (nodeB 4 nt n L H A B mn mx)) ∧ Below w.heap.size w w' := by
  unfold maxLen at hn
  go_enter Tryd.func21, Tryd.ntmps21
  go_wp2
  all_goals
    go_ret
    exact ⟨ret_bool (by first | (simp_all [nodeB]; done) | (simp_all [nodeB]; intros; omega)), (Below.refl _ _).alloc (Nat.le_refl _) _⟩
set_option maxRecDepth 100000 in
set_option maxHeartbeats 2000000 in
theorem i_node0 (nt : Bool) (a : Option Addr) (n c : Nat) (A B mn mx : Int) (L H : Nat → Int) (w : World) (hn : n ≤ maxLen) (kd : Int) (hk : ¬ kd = 1 ∧ ¬ kd = 2 ∧ ¬ kd = 3 ∧ ¬ kd = 4 ∧ ¬ kd = 5) : Calls Tryd.prog 21 #[.agg #[.int .i64 kd, .bool nt, .slice a n c, .int .i64 A, .int .i64 B, .int .i64 mn, .int .i64 mx]] w fun e w' => e = .returned (.bool (nodeB kd nt n L H A B mn mx)) ∧ Below w.heap.size w w' := by
  unfold maxLen at hn
  obtain ⟨k1, k2, k3, k4, k5⟩ := hk
  have e1 : (kd == 1) = false := by simpa using k1
  have e2 : (kd == 2) = false := by simpa using k2
  have e3 : (kd == 3) = false := by simpa using k3
  have e4 : (kd == 4) = false := by simpa using k4
  have e5 : (kd == 5) = false := by simpa using k5
  go_enter Tryd.func21, Tryd.ntmps21
  go_wp2
  all_goals
    go_ret
    exact ⟨ret_bool (by simp [nodeB, k1, k2, k3, k4, k5]), (Below.refl _ _).alloc (Nat.le_refl _) _⟩
set_option maxRecDepth 100000 in
set_option maxHeartbeats 2000000 in
theorem i_node5 (nt : Bool) (a : Option Addr) (n c : Nat) (A B mn mx : Int) (L H : Nat → Int) (w : World) (hn : n ≤ maxLen) : Calls Tryd.prog 21 #[.agg #[.int .i64 5, .bool nt, .slice a n c, .int .i64 A, .int .i64 B, .int .i64 mn, .int .i64 mx]] w fun e w' => e = .returned (.bool (nodeB 5 nt n L H A B mn mx)) ∧ Below w.heap.size w w' := by
  unfold maxLen at hn
  go_enter Tryd.func21, Tryd.ntmps21
  go_wp2_with (go_at_call 35; refine (i_count _ _ _ _ _ _ _ _ _ _).mono ?_; rintro e w2 ⟨rfl, hb2⟩; have HB2 := hide hb2; clear hb2)
  all_goals
    go_ret
    first
      | exact ⟨ret_bool (by first | (simp_all [nodeB]; done) | (simp_all [nodeB]; intros; omega)), (Below.refl _ _).alloc (Nat.le_refl _) _⟩
      | exact ⟨ret_bool (by first | (simp_all [nodeB]; done) | (simp_all [nodeB]; intros; omega)), box_below HB2.out⟩
end Go.Proofs.YtepommmmmfaihaaDoor

/-
  Contracts: a class as a node: what the specification's and the program's own tests answer; the program's test of a character.
-/
namespace Go.Proofs.YtepommmmmfaihaaDoor
open Go.RowKit Go.Joins
set_option linter.unusedVariables false
set_option linter.unusedSimpArgs false
set_option maxRecDepth 100000 in
set_option maxHeartbeats 2000000 in
theorem i_node2 (nt : Bool) (a : Option Addr) (n c : Nat) (A B mn mx : Int) (L H : Nat → Int) (w : World) (hn : n ≤ maxLen) (hr : RngAt w a n L H w.heap.size) : Calls Tryd.prog 21 #[.agg #[.int .i64 2, .bool nt, .slice a n c, .int .i64 A, .int .i64 B, .int .i64 mn, .int .i64 mx]] w fun e w' => e = .returned (.bool (nodeB 2 nt n L H A B mn mx)) ∧ Below w.heap.size w w' := by
  have HN := hide hn
  have HR := hide hr
  unfold maxLen at hn
  clear hr
  go_enter Tryd.func21, Tryd.ntmps21
  go_wp2_with (go_at_call 34; refine (i_ranges _ _ _ L H _ HN.out (rngAt_up (rngAt_go HR.out ((Below.refl _ _).alloc (Nat.le_refl _) _)) (by simp))).mono ?_; rintro e w2 ⟨rfl, hb2⟩; have HB2 := hide (box_below hb2); clear hb2)
  all_goals
    go_ret
    exact ⟨ret_bool (by simp_all [nodeB]), HB2.out⟩
set_option maxHeartbeats 2000000 in
theorem i_inC (kd : Int) (nt : Bool) (a : Option Addr) (n c : Nat) (A B mn mx : Int) (L H : Nat → Int) (r : Int) (w : World) (hn : n ≤ maxLen) (hr : RngAt w a n L H w.heap.size) : Calls Tryd.prog 55 #[.agg #[.int .i64 kd, .bool nt, .slice a n c, .int .i64 A, .int .i64 B, .int .i64 mn, .int .i64 mx], .int .i64 r] w fun e w' => e = .returned (.bool (chB r && (anyB n L H r != nt))) ∧ Below w.heap.size w w' := by
  have HR := hide hr
  unfold maxLen at hn
  clear hr
  cases hch : chB r
  · go_enter Tryd.func55, Tryd.ntmps55
    go_wp2_with (go_at_call 50; refine (i_chF _ _ hch).mono ?_; rintro e w' ⟨rfl, rfl⟩)
    go_ret
    exact ⟨ret_bool (by simp), (Below.refl _ _).alloc (Nat.le_refl _) _⟩
  · go_enter Tryd.func55, Tryd.ntmps55
    go_wp2_with (go_at_call 50; refine (i_chT _ _ hch).mono ?_; rintro e w' ⟨rfl, rfl⟩)
    go_loopw [13] (fun i wr => ∃ k : Nat, k ≤ n ∧ i = .int .i64 k ∧ Below w.heap.size w wr ∧ NodeAt wr w.heap.size kd nt a n c A B mn mx ∧ Hid (anyB k L H r = false)) (fun i _ => n - (intOf i).toNat)
    case atStart => exact ⟨0, Nat.zero_le _, rfl, (Below.refl _ _).alloc (Nat.le_refl _) _, nodeAt_new _ _ _ _ _ _ _ _ _ _ _, anyB_zero L H r⟩
    case round =>
      obtain ⟨k, hk, rfl, hb, hN, HM⟩ := hrel
      obtain ⟨a0, a1, a2, a3, a4, a5, a6⟩ := nodeAt_cells hN
      have HNN := hide hN
      clear hN
      by_cases hlt : k < n
      · obtain ⟨b, off, rfl, hbs, hc⟩ := HR.out (by omega)
        have hc1 : wr.cell? ⟨b, off + k * 2, none⟩ = some (.int .i64 (L k)) := (hb.cell hbs).trans (hc k hlt).1
        have hc2 : wr.cell? ⟨b, off + k * 2 + 1, none⟩ = some (.int .i64 (H k)) := (hb.cell hbs).trans (hc k hlt).2
        have HB := hide hb
        have hlt2 : w.heap.size < wr.heap.size := nodeAt_lt HNN.out
        clear hc hb
        by_cases hh : L k ≤ r ∧ r ≤ H k
        · go_wp2_with (go_at_call 51; refine (i_inT _ _ _ _ hh).mono ?_; rintro e w' ⟨rfl, rfl⟩)
          go_ret
          exact ⟨ret_bool (by rw [anyB_hit hlt (decide_eq_true hh)]; cases nt <;> rfl), HB.out.alloc HB.out.size _⟩
        · go_wp2_with (go_at_call 51; refine (i_inF _ _ _ _ hh).mono ?_; rintro e w' ⟨rfl, rfl⟩)
          go_roundw
          case rel =>
            refine ⟨k + 1, by omega, by go_num, HB.out.alloc HB.out.size _, nodeAt_go HNN.out ((Below.refl _ _).alloc (Nat.le_refl _) _), ?_⟩
            show anyB (k + 1) L H r = false
            rw [anyB_succ, HM.out, hasB, decide_eq_false hh]; rfl
          case measure => simp [intOf]; omega
      · have hkn : k = n := by omega
        subst hkn
        go_wp2
        go_ret
        exact ⟨ret_bool (by rw [HM.out]; cases nt <;> rfl), hb⟩
theorem i_fields (kd : Int) (nt : Bool) (a : Option Addr) (n c : Nat) (A B mn mx : Int) (L H : Nat → Int) (w : World) (hn : n ≤ maxLen) (hr : RngAt w a n L H w.heap.size) : Calls Tryd.prog 21 #[.agg #[.int .i64 kd, .bool nt, .slice a n c, .int .i64 A, .int .i64 B, .int .i64 mn, .int .i64 mx]] w fun e w' => e = .returned (.bool (nodeB kd nt n L H A B mn mx)) ∧ Below w.heap.size w w' := by
  by_cases h1 : kd = 1
  · subst h1; exact i_node1 nt a n c A B mn mx L H w hn
  by_cases h2 : kd = 2
  · subst h2; exact i_node2 nt a n c A B mn mx L H w hn hr
  by_cases h3 : kd = 3
  · subst h3; exact i_node3 nt a n c A B mn mx L H w hn
  by_cases h4 : kd = 4
  · subst h4; exact i_node4 nt a n c A B mn mx L H w hn
  by_cases h5 : kd = 5
  · subst h5; exact i_node5 nt a n c A B mn mx L H w hn
  exact i_node0 nt a n c A B mn mx L H w hn kd ⟨h1, h2, h3, h4, h5⟩
end Go.Proofs.YtepommmmmfaihaaDoor

/-
  Contracts: a class as a node: what the specification's own test answers, at every node.
-/
namespace Go.Proofs.YtepommmmmfaihaaDoor
open Go.RowKit Go.Joins
set_option linter.unusedVariables false
set_option linter.unusedSimpArgs false
set_option maxRecDepth 100000 in
set_option maxHeartbeats 4000000 in
theorem s_node2 (nt : Bool) (a : Option Addr) (n c : Nat) (A B mn mx : Int) (L H : Nat → Int) (w : World) (hn : n ≤ maxLen) (hr : RngAt w a n L H w.heap.size) : Calls Tryd.prog 45 #[.agg #[.int .i64 2, .bool nt, .slice a n c, .int .i64 A, .int .i64 B, .int .i64 mn, .int .i64 mx]] w fun e w' => e = .returned (.bool (nodeB 2 nt n L H A B mn mx)) ∧ Below w.heap.size w w' := by
  have HR := hide hr
  unfold maxLen at hn
  clear hr
  by_cases hp : (1 ≤ n ∧ n ≤ 12) ∧ A = 0 ∧ B = 0 ∧ mn = 0 ∧ mx = 0
  · obtain ⟨⟨g1, g2⟩, rfl, rfl, rfl, rfl⟩ := hp
    have g3 : (1 : Int) ≤ n := by omega
    have g4 : (n : Int) ≤ 12 := by omega
    go_enter Tryd.func45, Tryd.ntmps45
    go_wp2
    go_loopw [3] (fun i wr => ∃ k : Nat, k ≤ n ∧ i = .int .i64 k ∧ Below w.heap.size w wr ∧ NodeAt wr w.heap.size 2 nt a n c 0 0 0 0 ∧ Hid (∀ j, j < k → rgB (L j) (H j) = true)) (fun i _ => n - (intOf i).toNat)
    case atStart => exact ⟨0, Nat.zero_le _, rfl, (Below.refl _ _).alloc (Nat.le_refl _) _, nodeAt_new _ _ _ _ _ _ _ _ _ _ _, fun j h => by omega⟩
    case round =>
      obtain ⟨k, hk, rfl, hb, hN, HM⟩ := hrel
      obtain ⟨a0, a1, a2, a3, a4, a5, a6⟩ := nodeAt_cells hN
      have HNN := hide hN
      clear hN
      by_cases hlt : k < n
      · obtain ⟨b, off, rfl, hbs, hc⟩ := HR.out (by omega)
        have hc1 : wr.cell? ⟨b, off + k * 2, none⟩ = some (.int .i64 (L k)) := (hb.cell hbs).trans (hc k hlt).1
        have hc2 : wr.cell? ⟨b, off + k * 2 + 1, none⟩ = some (.int .i64 (H k)) := (hb.cell hbs).trans (hc k hlt).2
        have HB := hide hb
        have hi : (k : Int) < (n : Int) := by omega
        have hi0 : (0 : Int) ≤ (k : Int) := by omega
        clear hc hb
        cases el : chB (L k)
        · go_wp2
          go_big_quiet (first | (go_at_call_of 42 (L k); refine Calls.quiet_of_same (s_chF _ _ el)))
          go_wp2
          go_ret
          exact ⟨ret_bool (by simp [nodeB, rowB, rgsB_no hlt (rgB_l el)]), HB.out.trans ((drew_below _ _).mono HB.out.size)⟩
        · cases eh : chB (H k)
          · go_wp2
            go_big_quiet (first | (go_at_call_of 42 (L k); refine Calls.quiet_of_same (s_chT _ _ el)) | (go_at_call_of 42 (H k); refine Calls.quiet_of_same (s_chF _ _ eh)))
            go_wp2
            go_ret
            exact ⟨ret_bool (by simp [nodeB, rowB, rgsB_no hlt (rgB_h (l := L k) eh)]), HB.out.trans ((drew_below _ _).mono HB.out.size)⟩
          · by_cases ho : L k ≤ H k
            · go_wp2
              go_big_quiet (first | (go_at_call_of 42 (L k); refine Calls.quiet_of_same (s_chT _ _ el)) | (go_at_call_of 42 (H k); refine Calls.quiet_of_same (s_chT _ _ eh)))
              go_wp2
              go_roundw
              case rel =>
                refine ⟨k + 1, by omega, by go_num, HB.out.trans ((drew_below _ _).mono HB.out.size), nodeAt_go HNN.out (drew_below _ _), fun j hj => ?_⟩
                by_cases e : j = k
                · subst e; exact rgB_y el eh ho
                · exact HM.out j (by omega)
              case measure => simp [intOf]; omega
            · go_wp2
              go_big_quiet (first | (go_at_call_of 42 (L k); refine Calls.quiet_of_same (s_chT _ _ el)) | (go_at_call_of 42 (H k); refine Calls.quiet_of_same (s_chT _ _ eh)))
              go_wp2
              go_ret
              exact ⟨ret_bool (by simp [nodeB, rowB, rgsB_no hlt (rgB_o (by omega))]), HB.out.trans ((drew_below _ _).mono HB.out.size)⟩
      · have e : rowB n L H = true := by rw [rowB, rgsB_yes (fun j h => HM.out j (by omega)), decide_eq_true (⟨g1, g2⟩ : 1 ≤ n ∧ n ≤ 12)]; rfl
        have E := hide e
        clear e
        go_wp2
        go_ret
        exact ⟨ret_bool (by simp [nodeB, E.out]), hb⟩
  · have e : nodeB 2 nt n L H A B mn mx = false := by
      by_cases h12 : 1 ≤ n ∧ n ≤ 12
      · simp only [nodeB]
        simp
        intro _ hA hB hmn hmx
        exact hp ⟨h12, hA, hB, hmn, hmx⟩
      · simp [nodeB, rowB, h12]
    have E := hide e
    have HP := hide hp
    clear e hp
    go_enter Tryd.func45, Tryd.ntmps45
    go_wp2
    all_goals first
      | (go_ret; exact ⟨ret_bool E.out.symm, (Below.refl _ _).alloc (Nat.le_refl _) _⟩)
      | exact absurd (⟨⟨by omega, by omega⟩, by omega, by omega, by omega, by simp_all⟩) HP.out
theorem s_nodeok (kd : Int) (nt : Bool) (a : Option Addr) (n c : Nat) (A B mn mx : Int) (L H : Nat → Int) (w : World) (hn : n ≤ maxLen) (hr : RngAt w a n L H w.heap.size) : Calls Tryd.prog 45 #[.agg #[.int .i64 kd, .bool nt, .slice a n c, .int .i64 A, .int .i64 B, .int .i64 mn, .int .i64 mx]] w fun e w' => e = .returned (.bool (nodeB kd nt n L H A B mn mx)) ∧ Below w.heap.size w w' := by
  by_cases h1 : kd = 1
  · subst h1; exact s_node1 nt a n c A B mn mx L H w hn
  by_cases h2 : kd = 2
  · subst h2; exact s_node2 nt a n c A B mn mx L H w hn hr
  by_cases h3 : kd = 3
  · subst h3; exact s_node3 nt a n c A B mn mx L H w hn
  by_cases h4 : kd = 4
  · subst h4; exact s_node4 nt a n c A B mn mx L H w hn
  by_cases h5 : kd = 5
  · subst h5; exact s_node5 nt a n c A B mn mx L H w hn
  exact s_node0 nt a n c A B mn mx L H w hn kd ⟨h1, h2, h3, h4, h5⟩
end Go.Proofs.YtepommmmmfaihaaDoor
