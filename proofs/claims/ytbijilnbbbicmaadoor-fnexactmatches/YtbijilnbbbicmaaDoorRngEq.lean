/-
  Contracts: two rows of ranges that are alike are told so; a node's copy, and that a node and its copy are told as alike.
-/
import Derived.Test.YtbijilnbbbicmaaDoorRngs
import Derived.Deep.RegionHeld3
import Derived.Lib.SmallJoins
namespace Go.Proofs.YtbijilnbbbicmaaDoor
open Go.RowKit Go.Joins
set_option linter.unusedVariables false
set_option linter.unusedSimpArgs false
def EQ (w w' : World) (p q : Addr) (l h : Int) : Prop := Below w.heap.size w w' ∧ (p.block < w.heap.size ∧ q.block < w.heap.size) ∧
  (w'.cell? p = some (.int .i64 l) ∧ w'.cell? ⟨p.block, p.off + 1, p.spot⟩ = some (.int .i64 h)) ∧ (w'.cell? q = some (.int .i64 l) ∧ w'.cell? ⟨q.block, q.off + 1, q.spot⟩ = some (.int .i64 h))
theorem eq_go {w w1 w2 : World} {p q : Addr} {l h : Int} (x : EQ w w1 p q l h) (k : Below w1.heap.size w1 w2) : EQ w w2 p q l h := by
  obtain ⟨hb, ⟨h1, h2⟩, ⟨c1, c2⟩, ⟨c3, c4⟩⟩ := x
  have s := hb.size
  exact ⟨hb.trans (k.mono s), ⟨h1, h2⟩, ⟨(k.cell (p := p) (by omega)).trans c1, (k.cell (p := ⟨p.block, p.off + 1, p.spot⟩) (by simp; omega)).trans c2⟩, ⟨(k.cell (p := q) (by omega)).trans c3, (k.cell (p := ⟨q.block, q.off + 1, q.spot⟩) (by simp; omega)).trans c4⟩⟩
theorem eq_drew {w w1 : World} {p q : Addr} {l h : Int} (x : EQ w w1 p q l h) : EQ w w1.drew p q l h := eq_go x ⟨rfl, rfl, rfl, Nat.le_refl _, fun _ _ => rfl⟩
theorem eq_all {w w1 : World} {b o b' o' : Nat} {l h : Int} (x : EQ w w1 ⟨b, o, none⟩ ⟨b', o', none⟩ l h) : EQ w w1 ⟨b, o, none⟩ ⟨b', o', none⟩ l h ∧ w1.cell? ⟨b, o, none⟩ = some (.int .i64 l) ∧ w1.cell? ⟨b, o + 1, none⟩ = some (.int .i64 h) ∧ w1.cell? ⟨b', o', none⟩ = some (.int .i64 l) ∧ w1.cell? ⟨b', o' + 1, none⟩ = some (.int .i64 h) :=
  ⟨x, x.2.2.1.1, x.2.2.1.2, x.2.2.2.1, x.2.2.2.2⟩
set_option maxHeartbeats 1000000 in
theorem l_eqRs (a1 a2 : Option Addr) (n c1 c2 : Nat) (L H : Nat → Int) (w : World) (hn : n ≤ 1048576) (h1 : RngAt w a1 n L H w.heap.size) (h2 : RngAt w a2 n L H w.heap.size) :
    Calls Tryd.prog 32 #[.slice a1 n c1, .slice a2 n c2] w fun e w' => e = .returned (.bool true) ∧ Below w.heap.size w w' := by
  have H1 := hide h1
  have H2 := hide h2
  clear h1 h2
  go_enter Tryd.func32, Tryd.ntmps32
  go_wp2
  go_loopw [5] (fun i wr => ∃ k : Nat, k ≤ n ∧ i = .int .i64 k ∧ Below w.heap.size w wr) (fun i _ => n - (intOf i).toNat)
  case atStart => exact ⟨0, Nat.zero_le _, rfl, Below.refl _ _⟩
  case round =>
    obtain ⟨k, hk, rfl, hb⟩ := hrel
    by_cases hlt : k < n
    · obtain ⟨b, off, rfl, hbs, hc⟩ := H1.out (by omega)
      obtain ⟨b', off', rfl, hbs', hc'⟩ := H2.out (by omega)
      have X : Hid (EQ w wr ⟨b, off + k * 2, none⟩ ⟨b', off' + k * 2, none⟩ (L k) (H k)) := ⟨hb, ⟨hbs, hbs'⟩, ⟨(hb.cell hbs).trans (hc k hlt).1, (hb.cell (p := ⟨b, off + k * 2 + 1, none⟩) hbs).trans (hc k hlt).2⟩, ⟨(hb.cell hbs').trans (hc' k hlt).1, (hb.cell (p := ⟨b', off' + k * 2 + 1, none⟩) hbs').trans (hc' k hlt).2⟩⟩
      have hi : (k : Int) < (n : Int) := by omega
      have hi0 : (0 : Int) ≤ (k : Int) := by omega
      clear hc hc' hb
      go_wp2
      go_region_held3 (fun w' => EQ w w' ⟨b, off + k * 2, none⟩ ⟨b', off' + k * 2, none⟩ (L k) (H k) ∧ w'.cell? ⟨b, off + k * 2, none⟩ = some (.int .i64 (L k)) ∧ w'.cell? ⟨b, off + k * 2 + 1, none⟩ = some (.int .i64 (H k)) ∧ w'.cell? ⟨b', off' + k * 2, none⟩ = some (.int .i64 (L k)) ∧ w'.cell? ⟨b', off' + k * 2 + 1, none⟩ = some (.int .i64 (H k))) (first | assumption | exact eq_all (eq_drew X.out) | exact eq_all X.out) (first | (go_at_call 44; refine (l_eqR _ _ _).mono ?_; rintro e w2 ⟨rfl, hb2⟩; have X2 := hide (eq_go (eq_drew X.out) hb2); replace X := X2; clear X2 hb2))
      all_goals
        go_wp2
        go_roundw
        case rel => exact ⟨k + 1, by omega, by go_num, X.out.1⟩
        case measure => simp [intOf]; omega
    · go_wp2
      go_ret
      exact ⟨rfl, hb⟩
/-- A node lies in block G. -/
def NodeAt (w : World) (G : Nat) (kd : Int) (nt : Bool) (a : Option Addr) (n c : Nat) (A B mn mx : Int) : Prop :=
  ∃ T, w.heap[G]? = some (.cells #[.int .i64 kd, .bool nt, .slice a n c, .int .i64 A, .int .i64 B, .int .i64 mn, .int .i64 mx] T (0, 0))
section
variable {w w1 : World} {G : Nat} {kd : Int} {nt : Bool} {a : Option Addr} {n c : Nat} {A B mn mx : Int}
theorem nodeAt_lt (h : NodeAt w G kd nt a n c A B mn mx) : G < w.heap.size := by
  obtain ⟨T, h⟩ := h
  exact (Array.getElem?_eq_some_iff.1 h).1
theorem nodeAt_go (h : NodeAt w G kd nt a n c A B mn mx) (k : Below w.heap.size w w1) : NodeAt w1 G kd nt a n c A B mn mx := by
  have hl := nodeAt_lt h
  obtain ⟨T, h⟩ := h
  exact ⟨T, (k.block G hl).trans h⟩
theorem nodeAt_at {X : Nat} (h : NodeAt w G kd nt a n c A B mn mx) (k : Below X w w1) (hG : G < X) : NodeAt w1 G kd nt a n c A B mn mx := by
  obtain ⟨T, h⟩ := h
  exact ⟨T, (k.block G hG).trans h⟩
theorem nodeAt_new (w : World) (kd : Int) (nt : Bool) (a : Option Addr) (n c : Nat) (A B mn mx : Int) (T : TypeId) : NodeAt (w.alloc (.cells #[.int .i64 kd, .bool nt, .slice a n c, .int .i64 A, .int .i64 B, .int .i64 mn, .int .i64 mx] T)) w.heap.size kd nt a n c A B mn mx := ⟨T, heap_alloc_new w _⟩
theorem nodeAt_cells (h : NodeAt w G kd nt a n c A B mn mx) : w.cell? ⟨G, 0, none⟩ = some (.int .i64 kd) ∧ w.cell? ⟨G, 1, none⟩ = some (.bool nt) ∧ w.cell? ⟨G, 2, none⟩ = some (.slice a n c) ∧ w.cell? ⟨G, 3, none⟩ = some (.int .i64 A) ∧ w.cell? ⟨G, 4, none⟩ = some (.int .i64 B) ∧ w.cell? ⟨G, 5, none⟩ = some (.int .i64 mn) ∧ w.cell? ⟨G, 6, none⟩ = some (.int .i64 mx) := by
  obtain ⟨T, h⟩ := h
  have e : ∀ i, w.cell? ⟨G, i, none⟩ = #[Value.int .i64 kd, .bool nt, .slice a n c, .int .i64 A, .int .i64 B, .int .i64 mn, .int .i64 mx][i]? := fun i => by rw [cell_of_row w G i _ T (0, 0) h]
  exact ⟨e 0, e 1, e 2, e 3, e 4, e 5, e 6⟩
theorem nodeAt_frozen (h : NodeAt w G kd nt a n c A B mn mx) (i : Nat) : w.frozen? ⟨G, i, none⟩ = false := by
  obtain ⟨T, h⟩ := h
  simp [World.frozen?, h]
end
theorem rngAt_set {w : World} {g n : Nat} {L H : Nat → Int} {B : Nat} (h : RngAt w (some ⟨g, 0, none⟩) n L H B) (p : Addr) (v : Value) (hne : p.block ≠ g) : RngAt (w.setCell p v) (some ⟨g, 0, none⟩) n L H B := fun h0 => by
  obtain ⟨b, off, e, hb, hc⟩ := h h0
  simp only [Option.some.injEq, Addr.mk.injEq] at e
  obtain ⟨rfl, rfl, -⟩ := e
  refine ⟨g, 0, rfl, hb, fun j hj => ⟨?_, ?_⟩⟩
  · rw [World.cell?_setCell_far _ _ _ _ hne]; exact (hc j hj).1
  · rw [World.cell?_setCell_far _ _ _ _ hne]; exact (hc j hj).2
theorem heap_setCell_far (w : World) (p : Addr) (v : Value) (G : Nat) (h : p.block ≠ G) : (w.setCell p v).heap[G]? = w.heap[G]? := by
  simp [World.setCell, Array.getElem?_modify, h]
theorem heap_setCell_size (w : World) (p : Addr) (v : Value) : (w.setCell p v).heap.size = w.heap.size := by simp [World.setCell]
theorem nodeAt_far {w : World} {G : Nat} {kd : Int} {nt : Bool} {a : Option Addr} {n c : Nat} {A B mn mx : Int} (h : NodeAt w G kd nt a n c A B mn mx) (p : Addr) (v : Value) (hne : p.block ≠ G) : NodeAt (w.setCell p v) G kd nt a n c A B mn mx := by
  obtain ⟨T, h⟩ := h
  exact ⟨T, by rw [heap_setCell_far _ _ _ _ hne]; exact h⟩
theorem nodeAt_sets {w : World} {G : Nat} {kd kd' : Int} {nt nt' : Bool} {a a' : Option Addr} {n c n' c' : Nat} {A B mn mx A' B' mn' mx' : Int} (h : NodeAt w G kd nt a n c A B mn mx) :
    NodeAt (((((((w.setCell ⟨G, 0, none⟩ (.int .i64 kd')).setCell ⟨G, 1, none⟩ (.bool nt')).setCell ⟨G, 2, none⟩ (.slice a' n' c')).setCell ⟨G, 3, none⟩ (.int .i64 A')).setCell ⟨G, 4, none⟩ (.int .i64 B')).setCell ⟨G, 5, none⟩ (.int .i64 mn')).setCell ⟨G, 6, none⟩ (.int .i64 mx')) G kd' nt' a' n' c' A' B' mn' mx' := by
  obtain ⟨T, h0⟩ := h
  have h1 := block_setCell (i := 0) h0 (.int .i64 kd')
  have h2 := block_setCell (i := 1) h1 (.bool nt')
  have h3 := block_setCell (i := 2) h2 (.slice a' n' c')
  have h4 := block_setCell (i := 3) h3 (.int .i64 A')
  have h5 := block_setCell (i := 4) h4 (.int .i64 B')
  have h6 := block_setCell (i := 5) h5 (.int .i64 mn')
  have h7 := block_setCell (i := 6) h6 (.int .i64 mx')
  exact ⟨T, by simpa using h7⟩
def nodeC (kd : Int) (nt : Bool) (a : Option Addr) (n c : Nat) (A B mn mx : Int) : Array Value := #[.int .i64 kd, .bool nt, .slice a n c, .int .i64 A, .int .i64 B, .int .i64 mn, .int .i64 mx]
theorem three_nodes {w w2 : World} {kd : Int} {nt : Bool} {a : Option Addr} {n c : Nat} {A B mn mx : Int} {T U V : TypeId}
    (k : Below (((w.alloc (.cells #[.int .i64 kd, .bool nt, .slice a n c, .int .i64 A, .int .i64 B, .int .i64 mn, .int .i64 mx] T)).alloc (.cells #[.int .i64 0, .bool false, .slice none 0 0, .int .i64 0, .int .i64 0, .int .i64 0, .int .i64 0] U)).alloc (.cells #[.int .i64 kd, .bool nt, .slice none 0 0, .int .i64 0, .int .i64 0, .int .i64 0, .int .i64 0] V)).heap.size
      (((w.alloc (.cells #[.int .i64 kd, .bool nt, .slice a n c, .int .i64 A, .int .i64 B, .int .i64 mn, .int .i64 mx] T)).alloc (.cells #[.int .i64 0, .bool false, .slice none 0 0, .int .i64 0, .int .i64 0, .int .i64 0, .int .i64 0] U)).alloc (.cells #[.int .i64 kd, .bool nt, .slice none 0 0, .int .i64 0, .int .i64 0, .int .i64 0, .int .i64 0] V)) w2) :
    NodeAt w2 w.heap.size kd nt a n c A B mn mx ∧ NodeAt w2 (w.heap.size + 1) 0 false none 0 0 0 0 0 0 ∧ NodeAt w2 (w.heap.size + 1 + 1) kd nt none 0 0 0 0 0 0 ∧ Below w.heap.size w w2 := by
  have h1 := nodeAt_new w kd nt a n c A B mn mx T
  have h2 := nodeAt_new (w.alloc (.cells #[.int .i64 kd, .bool nt, .slice a n c, .int .i64 A, .int .i64 B, .int .i64 mn, .int .i64 mx] T)) 0 false none 0 0 0 0 0 0 U
  have h3 := nodeAt_new ((w.alloc (.cells #[.int .i64 kd, .bool nt, .slice a n c, .int .i64 A, .int .i64 B, .int .i64 mn, .int .i64 mx] T)).alloc (.cells #[.int .i64 0, .bool false, .slice none 0 0, .int .i64 0, .int .i64 0, .int .i64 0, .int .i64 0] U)) kd nt none 0 0 0 0 0 0 V
  have st : ∀ (x : World) (o : Obj), Below x.heap.size x (x.alloc o) := fun x o => (Below.refl _ _).alloc (Nat.le_refl _) _
  refine ⟨nodeAt_go (nodeAt_go (nodeAt_go h1 (st _ _)) (st _ _)) k, ?_, ?_, ?_⟩
  · have := nodeAt_go (nodeAt_go h2 (st _ _)) k
    simpa using this
  · have := nodeAt_go h3 k
    simpa using this
  · refine ((((Below.refl w.heap.size w).alloc (Nat.le_refl _) _).alloc (by simp) _).alloc (by simp; omega) _).trans (k.mono (by simp; omega))
set_option maxHeartbeats 2000000 in
theorem l_toN (kd : Int) (nt : Bool) (a : Option Addr) (n c : Nat) (A B mn mx : Int) (L H : Nat → Int) (w : World) (hn : n ≤ 1048576) (hr : RngAt w a n L H w.heap.size) :
    Calls Tryd.prog 13 #[.agg #[.int .i64 kd, .bool nt, .slice a n c, .int .i64 A, .int .i64 B, .int .i64 mn, .int .i64 mx]] w fun e w' => ∃ G, e = .returned (.agg #[.int .i64 kd, .bool nt, .slice (some ⟨G, 0, none⟩) n n, .int .i64 A, .int .i64 B, .int .i64 mn, .int .i64 mx]) ∧
      RngAt w' (some ⟨G, 0, none⟩) n L H w'.heap.size ∧ Below w.heap.size w w' := by
  have HR := hide hr
  clear hr
  go_enter Tryd.func13, Tryd.ntmps13
  go_wp2_with (go_at_call 24; refine (l_toRs _ _ _ L H _ hn (rngAt_up (rngAt_go HR.out ((((Below.refl _ _).alloc (Nat.le_refl _) _).alloc (by simp) _).alloc (by simp; omega) _)) (by simp; omega))).mono ?_; rintro e w2 ⟨rfl, hr2, hb2⟩; obtain ⟨hN1, hN2, hN3, hB⟩ := three_nodes hb2; have HN2 := hide hN2; have HR2 := hide hr2; have HB := hide hB; obtain ⟨a0, a1, a2, a3, a4, a5, a6⟩ := nodeAt_cells hN1; obtain ⟨b0, b1, b2, b3, b4, b5, b6⟩ := nodeAt_cells hN2; obtain ⟨c0, c1, c2, c3, c4, c5, c6⟩ := nodeAt_cells hN3; have f0 := nodeAt_frozen hN2; have g0 := nodeAt_frozen hN3; clear hb2 hr2 hN1 hN2 hN3 hB)
  refine bodyPost_ret (v := .agg #[.int .i64 kd, .bool nt, .slice (some ⟨w.heap.size + 1 + 1 + 1, 0, none⟩) n n, .int .i64 A, .int .i64 B, .int .i64 mn, .int .i64 mx]) ?_ rfl ⟨_, rfl, ?_, ?_⟩
  · obtain ⟨T, hT⟩ := nodeAt_sets (kd' := kd) (nt' := nt) (a' := some ⟨w.heap.size + 1 + 1 + 1, 0, none⟩) (n' := n) (c' := n) (A' := A) (B' := B) (mn' := mn) (mx' := mx) (nodeAt_far (nodeAt_far (nodeAt_far (nodeAt_far (nodeAt_far HN2.out ⟨w.heap.size + 1 + 1, 2, none⟩ (.slice (some ⟨w.heap.size + 1 + 1 + 1, 0, none⟩) n n) (by simp)) ⟨w.heap.size + 1 + 1, 3, none⟩ (.int .i64 A) (by simp)) ⟨w.heap.size + 1 + 1, 4, none⟩ (.int .i64 B) (by simp)) ⟨w.heap.size + 1 + 1, 5, none⟩ (.int .i64 mn) (by simp)) ⟨w.heap.size + 1 + 1, 6, none⟩ (.int .i64 mx) (by simp))
    exact results_cell_row Tryd.results13 _ _ (w.heap.size + 1) T _ _ _ rfl hT Tryd.underlying41 rfl (by kernel_rfl)
  · have h := HR2.out
    simp only [heap_setCell_size]
    iterate 12 (refine rngAt_set ?_ _ _ (by simp))
    simpa using h
  · iterate 12 (refine Below.setCell ?_ (by simp; try omega) _)
    exact HB.out
end Go.Proofs.YtbijilnbbbicmaaDoor
