/-
  Contracts: two rows of ranges that are alike are told so; a node's copy, and that a node and its copy are told as alike.
-/
import Derived.Test.YtffgghbnkphieahRngs
import Derived.Deep.RegionHeld3
import Derived.Lib.SmallJoins
namespace Go.Proofs.Ytffgghbnkphieah
open Go.RowKit Go.Joins
set_option linter.unusedVariables false
set_option linter.unusedSimpArgs false
def EQ (w w' : World) (p q : Addr) (l h : Int) : Prop := Below w.heap.size w w' ∧ (p.block < w.heap.size ∧ q.block < w.heap.size) ∧
  (w'.cell? p = some (.int .i64 l) ∧ w'.cell? ⟨p.block, p.off + 1, p.spot⟩ = some (.int .i64 h)) ∧ (w'.cell? q = some (.int .i64 l) ∧ w'.cell? ⟨q.block, q.off + 1, q.spot⟩ = some (.int .i64 h))
theorem eq_go {w w1 w2 : World} {p q : Addr} {l h : Int} (x : EQ w w1 p q l h) (k : Below w1.heap.size w1 w2) : EQ w w2 p q l h := by
  obtain ⟨hb, ⟨h1, h2⟩, ⟨c1, c2⟩, ⟨c3, c4⟩⟩ := x
  have s := hb.size
  exact ⟨hb.trans (k.mono s), ⟨h1, h2⟩, ⟨(k.cell (p := p) (by omega)).trans c1, (k.cell (p := ⟨p.block, p.off + 1, p.spot⟩) (by simp; omega)).trans c2⟩, ⟨(k.cell (p := q) (by omega)).trans c3, (k.cell (p := ⟨q.block, q.off + 1, q.spot⟩) (by simp; omega)).trans c4⟩⟩
theorem eq_drew {w w1 : World} {p q : Addr} {l h : Int} (x : EQ w w1 p q l h) : EQ w w1.drew p q l h := eq_go x ⟨rfl, rfl, rfl, Nat.le_refl _, fun _ _ => rfl⟩
theorem eq_all {w w1 : World} {b o b' o' : Nat} {l h : Int} (x : EQ w w1 ⟨b, o, none⟩ ⟨b', o', none⟩ l h) : EQ w w1 ⟨b, o, none⟩ ⟨b', o', none⟩ l h ∧ w1.cell? ⟨b, o, none⟩ = some (.int .i64 l) ∧ w1.cell? ⟨b, o + 1, none⟩ = some (.int .i64 h) ∧ w1.cell? ⟨b', o', none⟩ = some (.int .i64 l) ∧ w1.cell? ⟨b', o' + 1, none⟩ = some (.int .i64 h) :=
  ⟨x, x.2.2.1.1, x.2.2.1.2, x.2.2.2.1, x.2.2.2.2⟩
/-- A node lies in block G. -/
def NodeAt (w : World) (G : Nat) (kd : Int) (nt : Bool) (a : Option Addr) (n c : Nat) (A B mn mx : Int) : Prop :=
  ∃ T, w.heap[G]? = some (.cells #[.int .i64 kd, .bool nt, .slice a n c, .int .i64 A, .int .i64 B, .int .i64 mn, .int .i64 mx] T (0, 0))
section
variable {w w1 : World} {G : Nat} {kd : Int} {nt : Bool} {a : Option Addr} {n c : Nat} {A B mn mx : Int}
theorem nodeAt_lt (h : NodeAt w G kd nt a n c A B mn mx) : G < w.heap.size := by
  obtain ⟨T, h⟩ := h
  exact (Array.getElem?_eq_some_iff.1 h).1
theorem nodeAt_go (h : NodeAt w G kd nt a n c A B mn mx) (k : Below w.heap.size w w1) : NodeAt w1 G kd nt a n c A B mn mx := by
  have hl := nodeAt_lt h
  obtain ⟨T, h⟩ := h
  exact ⟨T, (k.block G hl).trans h⟩
theorem nodeAt_at {X : Nat} (h : NodeAt w G kd nt a n c A B mn mx) (k : Below X w w1) (hG : G < X) : NodeAt w1 G kd nt a n c A B mn mx := by
  obtain ⟨T, h⟩ := h
  exact ⟨T, (k.block G hG).trans h⟩
theorem nodeAt_new (w : World) (kd : Int) (nt : Bool) (a : Option Addr) (n c : Nat) (A B mn mx : Int) (T : TypeId) : NodeAt (w.alloc (.cells #[.int .i64 kd, .bool nt, .slice a n c, .int .i64 A, .int .i64 B, .int .i64 mn, .int .i64 mx] T)) w.heap.size kd nt a n c A B mn mx := ⟨T, heap_alloc_new w _⟩
theorem nodeAt_cells (h : NodeAt w G kd nt a n c A B mn mx) : w.cell? ⟨G, 0, none⟩ = some (.int .i64 kd) ∧ w.cell? ⟨G, 1, none⟩ = some (.bool nt) ∧ w.cell? ⟨G, 2, none⟩ = some (.slice a n c) ∧ w.cell? ⟨G, 3, none⟩ = some (.int .i64 A) ∧ w.cell? ⟨G, 4, none⟩ = some (.int .i64 B) ∧ w.cell? ⟨G, 5, none⟩ = some (.int .i64 mn) ∧ w.cell? ⟨G, 6, none⟩ = some (.int .i64 mx) := by
  obtain ⟨T, h⟩ := h
  have e : ∀ i, w.cell? ⟨G, i, none⟩ = #[Value.int .i64 kd, .bool nt, .slice a n c, .int .i64 A, .int .i64 B, .int .i64 mn, .int .i64 mx][i]? := fun i => by rw [cell_of_row w G i _ T (0, 0) h]
  exact ⟨e 0, e 1, e 2, e 3, e 4, e 5, e 6⟩
theorem nodeAt_frozen (h : NodeAt w G kd nt a n c A B mn mx) (i : Nat) : w.frozen? ⟨G, i, none⟩ = false := by
  obtain ⟨T, h⟩ := h
  simp [World.frozen?, h]
end
theorem rngAt_set {w : World} {g n : Nat} {L H : Nat → Int} {B : Nat} (h : RngAt w (some ⟨g, 0, none⟩) n L H B) (p : Addr) (v : Value) (hne : p.block ≠ g) : RngAt (w.setCell p v) (some ⟨g, 0, none⟩) n L H B := fun h0 => by
  obtain ⟨b, off, e, hb, hc⟩ := h h0
  simp only [Option.some.injEq, Addr.mk.injEq] at e
  obtain ⟨rfl, rfl, -⟩ := e
  refine ⟨g, 0, rfl, hb, fun j hj => ⟨?_, ?_⟩⟩
  · rw [World.cell?_setCell_far _ _ _ _ hne]; exact (hc j hj).1
  · rw [World.cell?_setCell_far _ _ _ _ hne]; exact (hc j hj).2
theorem heap_setCell_far (w : World) (p : Addr) (v : Value) (G : Nat) (h : p.block ≠ G) : (w.setCell p v).heap[G]? = w.heap[G]? := by
  simp [World.setCell, Array.getElem?_modify, h]
theorem heap_setCell_size (w : World) (p : Addr) (v : Value) : (w.setCell p v).heap.size = w.heap.size := by simp [World.setCell]
theorem nodeAt_far {w : World} {G : Nat} {kd : Int} {nt : Bool} {a : Option Addr} {n c : Nat} {A B mn mx : Int} (h : NodeAt w G kd nt a n c A B mn mx) (p : Addr) (v : Value) (hne : p.block ≠ G) : NodeAt (w.setCell p v) G kd nt a n c A B mn mx := by
  obtain ⟨T, h⟩ := h
  exact ⟨T, by rw [heap_setCell_far _ _ _ _ hne]; exact h⟩
theorem nodeAt_sets {w : World} {G : Nat} {kd kd' : Int} {nt nt' : Bool} {a a' : Option Addr} {n c n' c' : Nat} {A B mn mx A' B' mn' mx' : Int} (h : NodeAt w G kd nt a n c A B mn mx) :
    NodeAt (((((((w.setCell ⟨G, 0, none⟩ (.int .i64 kd')).setCell ⟨G, 1, none⟩ (.bool nt')).setCell ⟨G, 2, none⟩ (.slice a' n' c')).setCell ⟨G, 3, none⟩ (.int .i64 A')).setCell ⟨G, 4, none⟩ (.int .i64 B')).setCell ⟨G, 5, none⟩ (.int .i64 mn')).setCell ⟨G, 6, none⟩ (.int .i64 mx')) G kd' nt' a' n' c' A' B' mn' mx' := by
  obtain ⟨T, h0⟩ := h
  have h1 := block_setCell (i := 0) h0 (.int .i64 kd')
  have h2 := block_setCell (i := 1) h1 (.bool nt')
  have h3 := block_setCell (i := 2) h2 (.slice a' n' c')
  have h4 := block_setCell (i := 3) h3 (.int .i64 A')
  have h5 := block_setCell (i := 4) h4 (.int .i64 B')
  have h6 := block_setCell (i := 5) h5 (.int .i64 mn')
  have h7 := block_setCell (i := 6) h6 (.int .i64 mx')
  exact ⟨T, by simpa using h7⟩
def nodeC (kd : Int) (nt : Bool) (a : Option Addr) (n c : Nat) (A B mn mx : Int) : Array Value := #[.int .i64 kd, .bool nt, .slice a n c, .int .i64 A, .int .i64 B, .int .i64 mn, .int .i64 mx]
theorem three_nodes {w w2 : World} {kd : Int} {nt : Bool} {a : Option Addr} {n c : Nat} {A B mn mx : Int} {T U V : TypeId}
    (k : Below (((w.alloc (.cells #[.int .i64 kd, .bool nt, .slice a n c, .int .i64 A, .int .i64 B, .int .i64 mn, .int .i64 mx] T)).alloc (.cells #[.int .i64 0, .bool false, .slice none 0 0, .int .i64 0, .int .i64 0, .int .i64 0, .int .i64 0] U)).alloc (.cells #[.int .i64 kd, .bool nt, .slice none 0 0, .int .i64 0, .int .i64 0, .int .i64 0, .int .i64 0] V)).heap.size
      (((w.alloc (.cells #[.int .i64 kd, .bool nt, .slice a n c, .int .i64 A, .int .i64 B, .int .i64 mn, .int .i64 mx] T)).alloc (.cells #[.int .i64 0, .bool false, .slice none 0 0, .int .i64 0, .int .i64 0, .int .i64 0, .int .i64 0] U)).alloc (.cells #[.int .i64 kd, .bool nt, .slice none 0 0, .int .i64 0, .int .i64 0, .int .i64 0, .int .i64 0] V)) w2) :
    NodeAt w2 w.heap.size kd nt a n c A B mn mx ∧ NodeAt w2 (w.heap.size + 1) 0 false none 0 0 0 0 0 0 ∧ NodeAt w2 (w.heap.size + 1 + 1) kd nt none 0 0 0 0 0 0 ∧ Below w.heap.size w w2 := by
  have h1 := nodeAt_new w kd nt a n c A B mn mx T
  have h2 := nodeAt_new (w.alloc (.cells #[.int .i64 kd, .bool nt, .slice a n c, .int .i64 A, .int .i64 B, .int .i64 mn, .int .i64 mx] T)) 0 false none 0 0 0 0 0 0 U
  have h3 := nodeAt_new ((w.alloc (.cells #[.int .i64 kd, .bool nt, .slice a n c, .int .i64 A, .int .i64 B, .int .i64 mn, .int .i64 mx] T)).alloc (.cells #[.int .i64 0, .bool false, .slice none 0 0, .int .i64 0, .int .i64 0, .int .i64 0, .int .i64 0] U)) kd nt none 0 0 0 0 0 0 V
  have st : ∀ (x : World) (o : Obj), Below x.heap.size x (x.alloc o) := fun x o => (Below.refl _ _).alloc (Nat.le_refl _) _
  refine ⟨nodeAt_go (nodeAt_go (nodeAt_go h1 (st _ _)) (st _ _)) k, ?_, ?_, ?_⟩
  · have := nodeAt_go (nodeAt_go h2 (st _ _)) k
    simpa using this
  · have := nodeAt_go h3 k
    simpa using this
  · refine ((((Below.refl w.heap.size w).alloc (Nat.le_refl _) _).alloc (by simp) _).alloc (by simp; omega) _).trans (k.mono (by simp; omega))
end Go.Proofs.Ytffgghbnkphieah
