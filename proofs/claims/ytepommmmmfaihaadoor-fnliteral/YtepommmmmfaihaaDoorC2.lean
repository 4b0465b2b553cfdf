/-
  Texts put together: RngEq, RxRow, NodeS.
-/
import Derived.Test.YtepommmmmfaihaaDoorC1
import Derived.Deep.RegionHeld3
import Derived.Lib.SmallJoins
import Derived.Deep.DeepCutAuto
/-
  Contracts: two rows of ranges that are alike are told so; a node's copy, and that a node and its copy are told as alike.
-/
namespace Go.Proofs.YtepommmmmfaihaaDoor
open Go.RowKit Go.Joins
set_option linter.unusedVariables false
set_option linter.unusedSimpArgs false
def EQ (w w' : World) (p q : Addr) (l h : Int) : Prop := Below w.heap.size w w' ∧ (p.block < w.heap.size ∧ q.block < w.heap.size) ∧
  (w'.cell? p = some (.int .i64 l) ∧ w'.cell? ⟨p.block, p.off + 1, p.spot⟩ = some (.int .i64 h)) ∧ (w'.cell? q = some (.int .i64 l) ∧ w'.cell? ⟨q.block, q.off + 1, q.spot⟩ = some (.int .i64 h))
theorem eq_go {w w1 w2 : World} {p q : Addr} {l h : Int} (x : EQ w w1 p q l h) (k : Below w1.heap.size w1 w2) : EQ w w2 p q l h := by
  obtain ⟨hb, ⟨h1, h2⟩, ⟨c1, c2⟩, ⟨c3, c4⟩⟩ := x
  have s := hb.size
  exact ⟨hb.trans (k.mono s), ⟨h1, h2⟩, ⟨(k.cell (p := p) (by omega)).trans c1, (k.cell (p := ⟨p.block, p.off + 1, p.spot⟩) (by simp; omega)).trans c2⟩, ⟨(k.cell (p := q) (by omega)).trans c3, (k.cell (p := ⟨q.block, q.off + 1, q.spot⟩) (by simp; omega)).trans c4⟩⟩
theorem eq_drew {w w1 : World} {p q : Addr} {l h : Int} (x : EQ w w1 p q l h) : EQ w w1.drew p q l h := eq_go x ⟨rfl, rfl, rfl, Nat.le_refl _, fun _ _ => rfl⟩
theorem eq_all {w w1 : World} {b o b' o' : Nat} {l h : Int} (x : EQ w w1 ⟨b, o, none⟩ ⟨b', o', none⟩ l h) : EQ w w1 ⟨b, o, none⟩ ⟨b', o', none⟩ l h ∧ w1.cell? ⟨b, o, none⟩ = some (.int .i64 l) ∧ w1.cell? ⟨b, o + 1, none⟩ = some (.int .i64 h) ∧ w1.cell? ⟨b', o', none⟩ = some (.int .i64 l) ∧ w1.cell? ⟨b', o' + 1, none⟩ = some (.int .i64 h) :=
  ⟨x, x.2.2.1.1, x.2.2.1.2, x.2.2.2.1, x.2.2.2.2⟩
/-- A node lies in block G. -/
def NodeAt (w : World) (G : Nat) (kd : Int) (nt : Bool) (a : Option Addr) (n c : Nat) (A B mn mx : Int) : Prop :=
  ∃ T, w.heap[G]? = some (.cells #[.int .i64 kd, .bool nt, .slice a n c, .int .i64 A, .int .i64 B, .int .i64 mn, .int .i64 mx] T (0, 0))
section
variable {w w1 : World} {G : Nat} {kd : Int} {nt : Bool} {a : Option Addr} {n c : Nat} {A B mn mx : Int}
theorem nodeAt_lt (h : NodeAt w G kd nt a n c A B mn mx) : G < w.heap.size := by
  obtain ⟨T, h⟩ := h
  exact (Array.getElem?_eq_some_iff.1 h).1
theorem nodeAt_go (h : NodeAt w G kd nt a n c A B mn mx) (k : Below w.heap.size w w1) : NodeAt w1 G kd nt a n c A B mn mx := by
  have hl := nodeAt_lt h
  obtain ⟨T, h⟩ := h
  exact ⟨T, (k.block G hl).trans h⟩
theorem nodeAt_at {X : Nat} (h : NodeAt w G kd nt a n c A B mn mx) (k : Below X w w1) (hG : G < X) : NodeAt w1 G kd nt a n c A B mn mx := by
  obtain ⟨T, h⟩ := h
  exact ⟨T, (k.block G hG).trans h⟩
theorem nodeAt_new (w : World) (kd : Int) (nt : Bool) (a : Option Addr) (n c : Nat) (A B mn mx : Int) (T : TypeId) : NodeAt (w.alloc (.cells #[.int .i64 kd, .bool nt, .slice a n c, .int .i64 A, .int .i64 B, .int .i64 mn, .int .i64 mx] T)) w.heap.size kd nt a n c A B mn mx := ⟨T, heap_alloc_new w _⟩
theorem nodeAt_cells (h : NodeAt w G kd nt a n c A B mn mx) : w.cell? ⟨G, 0, none⟩ = some (.int .i64 kd) ∧ w.cell? ⟨G, 1, none⟩ = some (.bool nt) ∧ w.cell? ⟨G, 2, none⟩ = some (.slice a n c) ∧ w.cell? ⟨G, 3, none⟩ = some (.int .i64 A) ∧ w.cell? ⟨G, 4, none⟩ = some (.int .i64 B) ∧ w.cell? ⟨G, 5, none⟩ = some (.int .i64 mn) ∧ w.cell? ⟨G, 6, none⟩ = some (.int .i64 mx) := by
  obtain ⟨T, h⟩ := h
  have e : ∀ i, w.cell? ⟨G, i, none⟩ = #[Value.int .i64 kd, .bool nt, .slice a n c, .int .i64 A, .int .i64 B, .int .i64 mn, .int .i64 mx][i]? := fun i => by rw [cell_of_row w G i _ T (0, 0) h]
  exact ⟨e 0, e 1, e 2, e 3, e 4, e 5, e 6⟩
theorem nodeAt_frozen (h : NodeAt w G kd nt a n c A B mn mx) (i : Nat) : w.frozen? ⟨G, i, none⟩ = false := by
  obtain ⟨T, h⟩ := h
  simp [World.frozen?, h]
end
theorem rngAt_set {w : World} {g n : Nat} {L H : Nat → Int} {B : Nat} (h : RngAt w (some ⟨g, 0, none⟩) n L H B) (p : Addr) (v : Value) (hne : p.block ≠ g) : RngAt (w.setCell p v) (some ⟨g, 0, none⟩) n L H B := fun h0 => by
  obtain ⟨b, off, e, hb, hc⟩ := h h0
  simp only [Option.some.injEq, Addr.mk.injEq] at e
  obtain ⟨rfl, rfl, -⟩ := e
  refine ⟨g, 0, rfl, hb, fun j hj => ⟨?_, ?_⟩⟩
  · rw [World.cell?_setCell_far _ _ _ _ hne]; exact (hc j hj).1
  · rw [World.cell?_setCell_far _ _ _ _ hne]; exact (hc j hj).2
theorem heap_setCell_far (w : World) (p : Addr) (v : Value) (G : Nat) (h : p.block ≠ G) : (w.setCell p v).heap[G]? = w.heap[G]? := by
  simp [World.setCell, Array.getElem?_modify, h]
theorem heap_setCell_size (w : World) (p : Addr) (v : Value) : (w.setCell p v).heap.size = w.heap.size := by simp [World.setCell]
theorem nodeAt_far {w : World} {G : Nat} {kd : Int} {nt : Bool} {a : Option Addr} {n c : Nat} {A B mn mx : Int} (h : NodeAt w G kd nt a n c A B mn mx) (p : Addr) (v : Value) (hne : p.block ≠ G) : NodeAt (w.setCell p v) G kd nt a n c A B mn mx := by
  obtain ⟨T, h⟩ := h
  exact ⟨T, by rw [heap_setCell_far _ _ _ _ hne]; exact h⟩
theorem nodeAt_sets {w : World} {G : Nat} {kd kd' : Int} {nt nt' : Bool} {a a' : Option Addr} {n c n' c' : Nat} {A B mn mx A' B' mn' mx' : Int} (h : NodeAt w G kd nt a n c A B mn mx) :
    NodeAt (((((((w.setCell ⟨G, 0, none⟩ (.int .i64 kd')).setCell ⟨G, 1, none⟩ (.bool nt')).setCell ⟨G, 2, none⟩ (.slice a' n' c')).setCell ⟨G, 3, none⟩ (.int .i64 A')).setCell ⟨G, 4, none⟩ (.int .i64 B')).setCell ⟨G, 5, none⟩ (.int .i64 mn')).setCell ⟨G, 6, none⟩ (.int .i64 mx')) G kd' nt' a' n' c' A' B' mn' mx' := by
  obtain ⟨T, h0⟩ := h
  have h1 := block_setCell (i := 0) h0 (.int .i64 kd')
  have h2 := block_setCell (i := 1) h1 (.bool nt')
  have h3 := block_setCell (i := 2) h2 (.slice a' n' c')
  have h4 := block_setCell (i := 3) h3 (.int .i64 A')
  have h5 := block_setCell (i := 4) h4 (.int .i64 B')
  have h6 := block_setCell (i := 5) h5 (.int .i64 mn')
  have h7 := block_setCell (i := 6) h6 (.int .i64 mx')
  exact ⟨T, by simpa using h7⟩
def nodeC (kd : Int) (nt : Bool) (a : Option Addr) (n c : Nat) (A B mn mx : Int) : Array Value := #[.int .i64 kd, .bool nt, .slice a n c, .int .i64 A, .int .i64 B, .int .i64 mn, .int .i64 mx]
theorem three_nodes {w w2 : World} {kd : Int} {nt : Bool} {a : Option Addr} {n c : Nat} {A B mn mx : Int} {T U V : TypeId}
    (k : Below (((w.alloc (.cells #[.int .i64 kd, .bool nt, .slice a n c, .int .i64 A, .int .i64 B, .int .i64 mn, .int .i64 mx] T)).alloc (.cells #[.int .i64 0, .bool false, .slice none 0 0, .int .i64 0, .int .i64 0, .int .i64 0, .int .i64 0] U)).alloc (.cells #[.int .i64 kd, .bool nt, .slice none 0 0, .int .i64 0, .int .i64 0, .int .i64 0, .int .i64 0] V)).heap.size
      (((w.alloc (.cells #[.int .i64 kd, .bool nt, .slice a n c, .int .i64 A, .int .i64 B, .int .i64 mn, .int .i64 mx] T)).alloc (.cells #[.int .i64 0, .bool false, .slice none 0 0, .int .i64 0, .int .i64 0, .int .i64 0, .int .i64 0] U)).alloc (.cells #[.int .i64 kd, .bool nt, .slice none 0 0, .int .i64 0, .int .i64 0, .int .i64 0, .int .i64 0] V)) w2) :
    NodeAt w2 w.heap.size kd nt a n c A B mn mx ∧ NodeAt w2 (w.heap.size + 1) 0 false none 0 0 0 0 0 0 ∧ NodeAt w2 (w.heap.size + 1 + 1) kd nt none 0 0 0 0 0 0 ∧ Below w.heap.size w w2 := by
  have h1 := nodeAt_new w kd nt a n c A B mn mx T
  have h2 := nodeAt_new (w.alloc (.cells #[.int .i64 kd, .bool nt, .slice a n c, .int .i64 A, .int .i64 B, .int .i64 mn, .int .i64 mx] T)) 0 false none 0 0 0 0 0 0 U
  have h3 := nodeAt_new ((w.alloc (.cells #[.int .i64 kd, .bool nt, .slice a n c, .int .i64 A, .int .i64 B, .int .i64 mn, .int .i64 mx] T)).alloc (.cells #[.int .i64 0, .bool false, .slice none 0 0, .int .i64 0, .int .i64 0, .int .i64 0, .int .i64 0] U)) kd nt none 0 0 0 0 0 0 V
  have st : ∀ (x : World) (o : Obj), Below x.heap.size x (x.alloc o) := fun x o => (Below.refl _ _).alloc (Nat.le_refl _) _
  refine ⟨nodeAt_go (nodeAt_go (nodeAt_go h1 (st _ _)) (st _ _)) k, ?_, ?_, ?_⟩
  · have := nodeAt_go (nodeAt_go h2 (st _ _)) k
    simpa using this
  · have := nodeAt_go h3 k
    simpa using this
  · refine ((((Below.refl w.heap.size w).alloc (Nat.le_refl _) _).alloc (by simp) _).alloc (by simp; omega) _).trans (k.mono (by simp; omega))
end Go.Proofs.YtepommmmmfaihaaDoor

/-
  Contracts of the laws' helpers on rows of nodes: how much they hold, a copy in new memory.
-/
namespace Go.Proofs.YtepommmmmfaihaaDoor
open Go.RowKit Go.Joins
set_option linter.unusedVariables false
set_option linter.unusedSimpArgs false
/-- A row of nodes, as numbers. -/
structure Rx where
  len : Nat
  K : Nat → Int
  A : Nat → Int
  B : Nat → Int
  MN : Nat → Int
  MX : Nat → Int
  NT : Nat → Bool
  NR : Nat → Nat
  L : Nat → Nat → Int
  H : Nat → Nat → Int
def RxCells (w : World) (b o : Nat) (X : Rx) (j : Nat) (ad : Option Addr) (cp : Nat) : Prop := w.cell? ⟨b, o, none⟩ = some (.int .i64 (X.K j)) ∧ w.cell? ⟨b, o + 1, none⟩ = some (.bool (X.NT j)) ∧ w.cell? ⟨b, o + 2, none⟩ = some (.slice ad (X.NR j) cp) ∧ w.cell? ⟨b, o + 3, none⟩ = some (.int .i64 (X.A j)) ∧ w.cell? ⟨b, o + 4, none⟩ = some (.int .i64 (X.B j)) ∧ w.cell? ⟨b, o + 5, none⟩ = some (.int .i64 (X.MN j)) ∧ w.cell? ⟨b, o + 6, none⟩ = some (.int .i64 (X.MX j))
def RxRow (w : World) (b off : Nat) (X : Rx) (B : Nat) : Prop := ∀ j, j < X.len → ∃ ad cp, RxCells w b (off + j * 7) X j ad cp ∧ RngAt w ad (X.NR j) (X.L j) (X.H j) B
def RxAt (w : World) (a : Option Addr) (X : Rx) (B : Nat) : Prop := 0 < X.len → ∃ b off, a = some ⟨b, off, none⟩ ∧ b < B ∧ RxRow w b off X B
theorem rxCells_go {w w' : World} {b o : Nat} {X : Rx} {j : Nat} {ad : Option Addr} {cp B : Nat} (h : RxCells w b o X j ad cp) (hb : b < B) (k : Below B w w') : RxCells w' b o X j ad cp := by
  obtain ⟨h0, h1, h2, h3, h4, h5, h6⟩ := h
  exact ⟨(k.cell (p := ⟨b, o, none⟩) hb).trans h0, (k.cell (p := ⟨b, o + 1, none⟩) hb).trans h1, (k.cell (p := ⟨b, o + 2, none⟩) hb).trans h2, (k.cell (p := ⟨b, o + 3, none⟩) hb).trans h3, (k.cell (p := ⟨b, o + 4, none⟩) hb).trans h4, (k.cell (p := ⟨b, o + 5, none⟩) hb).trans h5, (k.cell (p := ⟨b, o + 6, none⟩) hb).trans h6⟩
theorem rxRow_go {w w' : World} {b off : Nat} {X : Rx} {B : Nat} (h : RxRow w b off X B) (hb : b < B) (k : Below B w w') : RxRow w' b off X B := fun j hj => by
  obtain ⟨ad, cp, hc, hr⟩ := h j hj
  exact ⟨ad, cp, rxCells_go hc hb k, rngAt_go hr k⟩
theorem rxRow_up {w : World} {b off : Nat} {X : Rx} {B B' : Nat} (h : RxRow w b off X B) (k : B ≤ B') : RxRow w b off X B' := fun j hj => by
  obtain ⟨ad, cp, hc, hr⟩ := h j hj
  exact ⟨ad, cp, hc, rngAt_up hr k⟩
theorem rxAt_go {w w' : World} {a : Option Addr} {X : Rx} {B : Nat} (h : RxAt w a X B) (k : Below B w w') : RxAt w' a X B := fun h0 => by
  obtain ⟨b, off, e, hb, hr⟩ := h h0
  exact ⟨b, off, e, hb, rxRow_go hr hb k⟩
theorem rxAt_up {w : World} {a : Option Addr} {X : Rx} {B B' : Nat} (h : RxAt w a X B) (k : B ≤ B') : RxAt w a X B' := fun h0 => by
  obtain ⟨b, off, e, hb, hr⟩ := h h0
  exact ⟨b, off, e, Nat.lt_of_lt_of_le hb k, rxRow_up hr k⟩
theorem ret_iI {a b : Int} (h : a = b) : Ending.returned (.int .i64 a) = .returned (.int .i64 b) := by rw [h]
def sumN (f : Nat → Nat) : Nat → Nat
  | 0 => 0
  | k + 1 => sumN f k + f k
theorem sumN_le (f : Nat → Nat) {a b : Nat} (h : a ≤ b) : sumN f a ≤ sumN f b := by
  induction b with
  | zero => have : a = 0 := by omega
            subst this; exact Nat.le_refl _
  | succ b ih =>
    by_cases e : a = b + 1
    · subst e; exact Nat.le_refl _
    · have := ih (by omega)
      show sumN f a ≤ sumN f b + f b
      omega
theorem sumN_at (f : Nat → Nat) {a b : Nat} (h : a < b) : sumN f a + f a ≤ sumN f b := sumN_le f (a := a + 1) h
/-- Of a row of cells the first k nodes are those of X, each with its ranges in a block of its own above g. -/
def Sept (w : World) (g : Nat) (xs : List Value) (k : Nat) (X : Rx) : Prop := ∀ j, j < k → ∃ G, g < G ∧ (xs[j * 7]? = some (.int .i64 (X.K j)) ∧ xs[j * 7 + 1]? = some (.bool (X.NT j)) ∧ xs[j * 7 + 2]? = some (.slice (some ⟨G, 0, none⟩) (X.NR j) (X.NR j)) ∧ xs[j * 7 + 3]? = some (.int .i64 (X.A j)) ∧ xs[j * 7 + 4]? = some (.int .i64 (X.B j)) ∧ xs[j * 7 + 5]? = some (.int .i64 (X.MN j)) ∧ xs[j * 7 + 6]? = some (.int .i64 (X.MX j))) ∧ RngAt w (some ⟨G, 0, none⟩) (X.NR j) (X.L j) (X.H j) w.heap.size
theorem sept_go {w w' : World} {g k : Nat} {xs : List Value} {X : Rx} (h : Sept w g xs k X) (hb : Below w.heap.size w w') : Sept w' g xs k X := fun j hj => by
  obtain ⟨G, hG, hc, hr⟩ := h j hj
  exact ⟨G, hG, hc, rngAt_up (rngAt_go hr hb) hb.size⟩
theorem sept_set {w : World} {g k o : Nat} {xs : List Value} {X : Rx} (h : Sept w g xs k X) (v : Value) : Sept (w.setCell ⟨g, o, none⟩ v) g xs k X := fun j hj => by
  obtain ⟨G, hG, hc, hr⟩ := h j hj
  refine ⟨G, hG, hc, ?_⟩
  rw [heap_setCell_size]
  exact rngAt_set hr _ _ (by show g ≠ G; omega)
theorem sept_step {w : World} {g k n G : Nat} {xs : List Value} {X : Rx} (h : Sept w g xs k X) (hk : k < n) (hl : xs.length = n * 7) (hG : g < G) (hr : RngAt w (some ⟨G, 0, none⟩) (X.NR k) (X.L k) (X.H k) w.heap.size) :
    Sept w g (((((((xs.set (k * 7) (.int .i64 (X.K k))).set (k * 7 + 1) (.bool (X.NT k))).set (k * 7 + 2) (.slice (some ⟨G, 0, none⟩) (X.NR k) (X.NR k))).set (k * 7 + 3) (.int .i64 (X.A k))).set (k * 7 + 4) (.int .i64 (X.B k))).set (k * 7 + 5) (.int .i64 (X.MN k))).set (k * 7 + 6) (.int .i64 (X.MX k))) (k + 1) X := by
  intro j hj
  simp only [List.getElem?_set, List.length_set]
  by_cases e : j = k
  · subst e
    refine ⟨G, hG, ⟨?_, ?_, ?_, ?_, ?_, ?_, ?_⟩, hr⟩
    all_goals
      repeat (first | rw [if_pos rfl, if_pos (by omega)] | rw [if_neg (by omega)])
  · obtain ⟨G', hG', ⟨h0, h1, h2, h3, h4, h5, h6⟩, hr'⟩ := h j (by omega)
    refine ⟨G', hG', ⟨?_, ?_, ?_, ?_, ?_, ?_, ?_⟩, hr'⟩
    all_goals
      repeat rw [if_neg (by omega)]
      assumption
theorem own_rx {w : World} {B g n t : Nat} {xs : List Value} {X : Rx} (hn : X.len = n) (h : w.ownsRow B t 7 (.slice (some ⟨g, 0, none⟩) n n) n xs) (hp : Sept w g xs n X) : RxAt w (some ⟨g, 0, none⟩) X w.heap.size := fun h0 => by
  have hg : g < w.heap.size := (h.lt g rfl).2
  refine ⟨g, 0, rfl, hg, fun j hj => ?_⟩
  obtain ⟨G, hG, ⟨h0, h1, h2, h3, h4, h5, h6⟩, hr⟩ := hp j (by omega)
  refine ⟨some ⟨G, 0, none⟩, X.NR j, ⟨?_, ?_, ?_, ?_, ?_, ?_, ?_⟩, hr⟩
  · rw [Nat.zero_add, h.cellAt (j * 7) (by omega)]; exact h0
  · rw [Nat.zero_add, h.cellAt (j * 7 + 1) (by omega)]; exact h1
  · rw [Nat.zero_add, h.cellAt (j * 7 + 2) (by omega)]; exact h2
  · rw [Nat.zero_add, h.cellAt (j * 7 + 3) (by omega)]; exact h3
  · rw [Nat.zero_add, h.cellAt (j * 7 + 4) (by omega)]; exact h4
  · rw [Nat.zero_add, h.cellAt (j * 7 + 5) (by omega)]; exact h5
  · rw [Nat.zero_add, h.cellAt (j * 7 + 6) (by omega)]; exact h6
theorem own_some7 {w : World} {B g n t : Nat} {xs : List Value} (h : w.ownsRow B t 7 (.slice (some ⟨g, 0, none⟩) n n) n xs) (j : Nat) (hj : j < n * 7) : ∃ v, w.cell? ⟨g, j, none⟩ = some v := by
  rw [h.cellAt j hj]
  exact ⟨_, List.getElem?_eq_getElem (by rw [h.1]; exact hj)⟩
end Go.Proofs.YtepommmmmfaihaaDoor

/-
  Contracts: what spec.l6NodeOk answers at every node; nothing old has turned.
-/
namespace Go.Proofs.YtepommmmmfaihaaDoor
open Go.RowKit Go.Joins
set_option linter.unusedVariables false
set_option linter.unusedSimpArgs false
theorem s_in (n a b : Int) (w : World) : Calls Tryd.prog 56 #[.int .i64 n, .int .i64 a, .int .i64 b] w fun e w' => e = .returned (.bool (decide (a ≤ n ∧ n ≤ b))) ∧ w' = w := by
  by_cases h : a ≤ n ∧ n ≤ b
  · rw [decide_eq_true h]; exact s_inT n a b w h
  · rw [decide_eq_false h]; exact s_inF n a b w h
set_option maxRecDepth 100000 in
set_option maxHeartbeats 2000000 in
theorem s_node1 (nt : Bool) (a : Option Addr) (n c : Nat) (A B mn mx : Int) (L H : Nat → Int) (w : World) (hn : n ≤ maxLen) : Calls Tryd.prog 45 #[.agg #[.int .i64 1, .bool nt, .slice a n c, .int .i64 A, .int .i64 B, .int .i64 mn, .int .i64 mx]] w fun e w' => e = .returned (.bool (nodeB 1 nt n L H A B mn mx)) ∧ Below w.heap.size w w' := by
  unfold maxLen at hn
  go_enter Tryd.func45, Tryd.ntmps45
  go_wp2
  all_goals
    go_ret
    exact ⟨ret_bool (by first | (simp_all [nodeB]; done) | (simp_all [nodeB]; intros; omega)), (Below.refl _ _).alloc (Nat.le_refl _) _⟩
set_option maxRecDepth 100000 in
set_option maxHeartbeats 2000000 in
theorem s_node3 (nt : Bool) (a : Option Addr) (n c : Nat) (A B mn mx : Int) (L H : Nat → Int) (w : World) (hn : n ≤ maxLen) : Calls Tryd.prog 45 #[.agg #[.int .i64 3, .bool nt, .slice a n c, .int .i64 A, .int .i64 B, .int .i64 mn, .int .i64 mx]] w fun e w' => e = .returned (.bool (nodeB 3 nt n L H A B mn mx)) ∧ Below w.heap.size w w' := by
  unfold maxLen at hn
  go_enter Tryd.func45, Tryd.ntmps45
  go_wp2
  all_goals
    go_ret
    exact ⟨ret_bool (by first | (simp_all [nodeB]; done) | (simp_all [nodeB]; intros; omega)), (Below.refl _ _).alloc (Nat.le_refl _) _⟩
set_option maxRecDepth 100000 in
set_option maxHeartbeats 2000000 in
theorem s_node4 (nt : Bool) (a : Option Addr) (n c : Nat) (A B mn mx : Int) (L H : Nat → Int) (w : World) (hn : n ≤ maxLen) : Calls Tryd.prog 45 #[.agg #[.int .i64 4, .bool nt, .slice a n c, .int .i64 A, .int .i64 B, .int .i64 mn, .int .i64 mx]] w fun e w' => e = .returned (.bool (nodeB 4 nt n L H A B mn mx)) ∧ Below w.heap.size w w' := by
  unfold maxLen at hn
  go_enter Tryd.func45, Tryd.ntmps45
  go_wp2
  all_goals
    go_ret
    exact ⟨ret_bool (by first | (simp_all [nodeB]; done) | (simp_all [nodeB]; intros; omega)), (Below.refl _ _).alloc (Nat.le_refl _) _⟩
set_option maxRecDepth 100000 in
set_option maxHeartbeats 2000000 in
theorem s_node5 (nt : Bool) (a : Option Addr) (n c : Nat) (A B mn mx : Int) (L H : Nat → Int) (w : World) (hn : n ≤ maxLen) : Calls Tryd.prog 45 #[.agg #[.int .i64 5, .bool nt, .slice a n c, .int .i64 A, .int .i64 B, .int .i64 mn, .int .i64 mx]] w fun e w' => e = .returned (.bool (nodeB 5 nt n L H A B mn mx)) ∧ Below w.heap.size w w' := by
  unfold maxLen at hn
  go_enter Tryd.func45, Tryd.ntmps45
  go_wp2_with (go_at_call 56; refine (s_in _ _ _ _).mono ?_; rintro e w' ⟨rfl, rfl⟩)
  all_goals
    go_ret
    exact ⟨ret_bool (by first | (simp_all [nodeB]; done) | (simp_all [nodeB]; intros; omega)), (Below.refl _ _).alloc (Nat.le_refl _) _⟩
set_option maxRecDepth 100000 in
set_option maxHeartbeats 2000000 in
theorem s_node0 (nt : Bool) (a : Option Addr) (n c : Nat) (A B mn mx : Int) (L H : Nat → Int) (w : World) (hn : n ≤ maxLen) (kd : Int) (hk : ¬ kd = 1 ∧ ¬ kd = 2 ∧ ¬ kd = 3 ∧ ¬ kd = 4 ∧ ¬ kd = 5) : Calls Tryd.prog 45 #[.agg #[.int .i64 kd, .bool nt, .slice a n c, .int .i64 A, .int .i64 B, .int .i64 mn, .int .i64 mx]] w fun e w' => e = .returned (.bool (nodeB kd nt n L H A B mn mx)) ∧ Below w.heap.size w w' := by
  unfold maxLen at hn
  obtain ⟨k1, k2, k3, k4, k5⟩ := hk
  have e1 : (kd == 1) = false := by simpa using k1
  have e2 : (kd == 2) = false := by simpa using k2
  have e3 : (kd == 3) = false := by simpa using k3
  have e4 : (kd == 4) = false := by simpa using k4
  have e5 : (kd == 5) = false := by simpa using k5
  go_enter Tryd.func45, Tryd.ntmps45
  go_wp2
  go_ret
  exact ⟨ret_bool (by simp [nodeB, k1, k2, k3, k4, k5]), (Below.refl _ _).alloc (Nat.le_refl _) _⟩
end Go.Proofs.YtepommmmmfaihaaDoor
