/-
  Texts put together: ItRow, Gen, DrMath.
-/
import Derived.Test.YtdepgkpfibmbgaaGreatDoorD1
import Derived.Below
import Derived.OwnWalk
import Derived.Laws.OwnMore
/-
  Contracts of the laws' helpers on rows of items: how much they hold, a copy in new memory.
-/
namespace Go.Proofs.YtdepgkpfibmbgaaGreatDoor
open Go.RowKit Go.Joins
set_option linter.unusedVariables false
set_option linter.unusedSimpArgs false
/-- A row of items. -/
structure Dc where
  n : Nat
  U : Nat → Int
  NM : Nat → ByteArray
  TX : Nat → ByteArray
  AC : Nat → Nat
  AN : Nat → Nat → ByteArray
  AV : Nat → Nat → ByteArray
def DcCells (w : World) (b o : Nat) (D : Dc) (j : Nat) (ad : Option Addr) (cp : Nat) : Prop := w.cell? ⟨b, o, none⟩ = some (.int .i64 (D.U j)) ∧ w.cell? ⟨b, o + 1, none⟩ = some (.string (D.NM j)) ∧ w.cell? ⟨b, o + 2, none⟩ = some (.string (D.TX j)) ∧ w.cell? ⟨b, o + 3, none⟩ = some (.slice ad (D.AC j) cp)
def DcRow (w : World) (b off : Nat) (D : Dc) (B : Nat) : Prop := ∀ j, j < D.n → ∃ ad cp, DcCells w b (off + j * 4) D j ad cp ∧ AtAt w ad (D.AC j) (D.AN j) (D.AV j) B ∧ D.AC j ≤ cp
def DcAt (w : World) (a : Option Addr) (D : Dc) (B : Nat) : Prop := 0 < D.n → ∃ b off, a = some ⟨b, off, none⟩ ∧ b < B ∧ DcRow w b off D B
theorem dcCells_go {w w' : World} {b o : Nat} {D : Dc} {j : Nat} {ad : Option Addr} {cp B : Nat} (h : DcCells w b o D j ad cp) (hb : b < B) (k : Below B w w') : DcCells w' b o D j ad cp := by
  obtain ⟨h0, h1, h2, h3⟩ := h
  exact ⟨(k.cell (p := ⟨b, o, none⟩) hb).trans h0, (k.cell (p := ⟨b, o + 1, none⟩) hb).trans h1, (k.cell (p := ⟨b, o + 2, none⟩) hb).trans h2, (k.cell (p := ⟨b, o + 3, none⟩) hb).trans h3⟩
theorem dcRow_go {w w' : World} {b off : Nat} {D : Dc} {B : Nat} (h : DcRow w b off D B) (hb : b < B) (k : Below B w w') : DcRow w' b off D B := fun j hj => by
  obtain ⟨ad, cp, hc, hr, hl⟩ := h j hj
  exact ⟨ad, cp, dcCells_go hc hb k, atAt_go hr k, hl⟩
theorem dcRow_up {w : World} {b off : Nat} {D : Dc} {B B' : Nat} (h : DcRow w b off D B) (k : B ≤ B') : DcRow w b off D B' := fun j hj => by
  obtain ⟨ad, cp, hc, hr, hl⟩ := h j hj
  exact ⟨ad, cp, hc, atAt_up hr k, hl⟩
theorem dcAt_go {w w' : World} {a : Option Addr} {D : Dc} {B : Nat} (h : DcAt w a D B) (k : Below B w w') : DcAt w' a D B := fun h0 => by
  obtain ⟨b, off, e, hb, hr⟩ := h h0
  exact ⟨b, off, e, hb, dcRow_go hr hb k⟩
theorem dcAt_up {w : World} {a : Option Addr} {D : Dc} {B B' : Nat} (h : DcAt w a D B) (k : B ≤ B') : DcAt w a D B' := fun h0 => by
  obtain ⟨b, off, e, hb, hr⟩ := h h0
  exact ⟨b, off, e, Nat.lt_of_lt_of_le hb k, dcRow_up hr k⟩
/-- The sizes that a row in memory can have. -/
def DcSz (D : Dc) : Prop := D.n ≤ maxLen ∧ ∀ j, j < D.n → (D.NM j).size ≤ maxLen ∧ (D.TX j).size ≤ maxLen ∧ D.AC j ≤ maxLen ∧ ∀ k, k < D.AC j → (D.AN j k).size ≤ maxLen ∧ (D.AV j k).size ≤ maxLen
def itSz (D : Dc) (j : Nat) : Nat := (D.NM j).size + (D.TX j).size + atTot (D.AC j) (D.AN j) (D.AV j)
def dcTot (D : Dc) : Nat := D.n + sumN (itSz D) D.n
theorem box_belowI {w w1 : World} {c : Array Value} {t : TypeId} (h : Below (w.alloc (.cells c t)).heap.size (w.alloc (.cells c t)) w1) : Below w.heap.size w w1 :=
  ((Below.refl w.heap.size w).alloc (Nat.le_refl _) _).trans (h.mono (by simp))
/-- An item lies in block G. -/
def ItAt (w : World) (G : Nat) (up : Int) (nm tx : ByteArray) (a : Option Addr) (n c : Nat) : Prop :=
  ∃ T, w.heap[G]? = some (.cells #[.int .i64 up, .string nm, .string tx, .slice a n c] T (0, 0))
section
variable {w w1 : World} {G : Nat} {up : Int} {nm tx : ByteArray} {a : Option Addr} {n c : Nat}
theorem itAt_lt (h : ItAt w G up nm tx a n c) : G < w.heap.size := by
  obtain ⟨T, h⟩ := h
  exact (Array.getElem?_eq_some_iff.1 h).1
theorem itAt_go (h : ItAt w G up nm tx a n c) (k : Below w.heap.size w w1) : ItAt w1 G up nm tx a n c := by
  have hl := itAt_lt h
  obtain ⟨T, h⟩ := h
  exact ⟨T, (k.block G hl).trans h⟩
theorem itAt_new (w : World) (up : Int) (nm tx : ByteArray) (a : Option Addr) (n c : Nat) (T : TypeId) : ItAt (w.alloc (.cells #[.int .i64 up, .string nm, .string tx, .slice a n c] T)) w.heap.size up nm tx a n c := ⟨T, heap_alloc_new w _⟩
theorem itAt_cells (h : ItAt w G up nm tx a n c) : w.cell? ⟨G, 0, none⟩ = some (.int .i64 up) ∧ w.cell? ⟨G, 1, none⟩ = some (.string nm) ∧ w.cell? ⟨G, 2, none⟩ = some (.string tx) ∧ w.cell? ⟨G, 3, none⟩ = some (.slice a n c) := by
  obtain ⟨T, h⟩ := h
  have e : ∀ i, w.cell? ⟨G, i, none⟩ = #[Value.int .i64 up, .string nm, .string tx, .slice a n c][i]? := fun i => by rw [cell_of_row w G i _ T (0, 0) h]
  exact ⟨e 0, e 1, e 2, e 3⟩
theorem itAt_frozen (h : ItAt w G up nm tx a n c) (i : Nat) : w.frozen? ⟨G, i, none⟩ = false := by
  obtain ⟨T, h⟩ := h
  simp [World.frozen?, h]
theorem itAt_far (h : ItAt w G up nm tx a n c) (p : Addr) (v : Value) (hne : p.block ≠ G) : ItAt (w.setCell p v) G up nm tx a n c := by
  obtain ⟨T, h⟩ := h
  exact ⟨T, by rw [heap_setCell_far _ _ _ _ hne]; exact h⟩
theorem itAt_sets {up' : Int} {nm' tx' : ByteArray} {a' : Option Addr} {n' c' : Nat} (h : ItAt w G up nm tx a n c) :
    ItAt ((((w.setCell ⟨G, 0, none⟩ (.int .i64 up')).setCell ⟨G, 1, none⟩ (.string nm')).setCell ⟨G, 2, none⟩ (.string tx')).setCell ⟨G, 3, none⟩ (.slice a' n' c')) G up' nm' tx' a' n' c' := by
  obtain ⟨T, h0⟩ := h
  have h1 := block_setCell (i := 0) h0 (.int .i64 up')
  have h2 := block_setCell (i := 1) h1 (.string nm')
  have h3 := block_setCell (i := 2) h2 (.string tx')
  have h4 := block_setCell (i := 3) h3 (.slice a' n' c')
  exact ⟨T, by simpa using h4⟩
end
theorem box_item {w w2 : World} {up : Int} {nm tx : ByteArray} {a : Option Addr} {n c : Nat} {T : TypeId} (k : Below (w.alloc (.cells #[.int .i64 up, .string nm, .string tx, .slice a n c] T)).heap.size (w.alloc (.cells #[.int .i64 up, .string nm, .string tx, .slice a n c] T)) w2) :
    ItAt w2 w.heap.size up nm tx a n c ∧ Below w.heap.size w w2 := ⟨itAt_go (itAt_new w up nm tx a n c T) k, ((Below.refl w.heap.size w).alloc (Nat.le_refl _) _).trans (k.mono (by simp))⟩
theorem three_items {w w2 : World} {up : Int} {nm tx : ByteArray} {a : Option Addr} {n c : Nat} {T U V : TypeId}
    (k : Below (((w.alloc (.cells #[.int .i64 up, .string nm, .string tx, .slice a n c] T)).alloc (.cells #[.int .i64 0, .string ⟨#[]⟩, .string ⟨#[]⟩, .slice none 0 0] U)).alloc (.cells #[.int .i64 up, .string nm, .string tx, .slice none 0 0] V)).heap.size
      (((w.alloc (.cells #[.int .i64 up, .string nm, .string tx, .slice a n c] T)).alloc (.cells #[.int .i64 0, .string ⟨#[]⟩, .string ⟨#[]⟩, .slice none 0 0] U)).alloc (.cells #[.int .i64 up, .string nm, .string tx, .slice none 0 0] V)) w2) :
    ItAt w2 w.heap.size up nm tx a n c ∧ ItAt w2 (w.heap.size + 1) 0 ⟨#[]⟩ ⟨#[]⟩ none 0 0 ∧ ItAt w2 (w.heap.size + 1 + 1) up nm tx none 0 0 ∧ Below w.heap.size w w2 := by
  have h1 := itAt_new w up nm tx a n c T
  have h2 := itAt_new (w.alloc (.cells #[.int .i64 up, .string nm, .string tx, .slice a n c] T)) 0 ⟨#[]⟩ ⟨#[]⟩ none 0 0 U
  have h3 := itAt_new ((w.alloc (.cells #[.int .i64 up, .string nm, .string tx, .slice a n c] T)).alloc (.cells #[.int .i64 0, .string ⟨#[]⟩, .string ⟨#[]⟩, .slice none 0 0] U)) up nm tx none 0 0 V
  have st : ∀ (x : World) (o : Obj), Below x.heap.size x (x.alloc o) := fun x o => (Below.refl _ _).alloc (Nat.le_refl _) _
  refine ⟨itAt_go (itAt_go (itAt_go h1 (st _ _)) (st _ _)) k, ?_, ?_, ?_⟩
  · have := itAt_go (itAt_go h2 (st _ _)) k
    simpa using this
  · have := itAt_go h3 k
    simpa using this
  · refine ((((Below.refl w.heap.size w).alloc (Nat.le_refl _) _).alloc (by simp) _).alloc (by simp; omega) _).trans (k.mono (by simp; omega))
/-- Of a row of cells the first k items are those of D, each with its attributes in a block of its own above g. -/
def Quad (w : World) (g : Nat) (xs : List Value) (k : Nat) (D : Dc) : Prop := ∀ j, j < k → ∃ G, g < G ∧ (xs[j * 4]? = some (.int .i64 (D.U j)) ∧ xs[j * 4 + 1]? = some (.string (D.NM j)) ∧ xs[j * 4 + 2]? = some (.string (D.TX j)) ∧ xs[j * 4 + 3]? = some (.slice (some ⟨G, 0, none⟩) (D.AC j) (D.AC j))) ∧ AtAt w (some ⟨G, 0, none⟩) (D.AC j) (D.AN j) (D.AV j) w.heap.size
theorem quad_go {w w' : World} {g k : Nat} {xs : List Value} {D : Dc} (h : Quad w g xs k D) (hb : Below w.heap.size w w') : Quad w' g xs k D := fun j hj => by
  obtain ⟨G, hG, hc, hr⟩ := h j hj
  exact ⟨G, hG, hc, atAt_up (atAt_go hr hb) hb.size⟩
theorem quad_set {w : World} {g k o : Nat} {xs : List Value} {D : Dc} (h : Quad w g xs k D) (v : Value) : Quad (w.setCell ⟨g, o, none⟩ v) g xs k D := fun j hj => by
  obtain ⟨G, hG, hc, hr⟩ := h j hj
  refine ⟨G, hG, hc, ?_⟩
  rw [heap_setCell_size]
  exact atAt_set hr _ _ (by show g ≠ G; omega)
theorem quad_step {w : World} {g k n G : Nat} {xs : List Value} {D : Dc} (h : Quad w g xs k D) (hk : k < n) (hl : xs.length = n * 4) (hG : g < G) (hr : AtAt w (some ⟨G, 0, none⟩) (D.AC k) (D.AN k) (D.AV k) w.heap.size) :
    Quad w g ((((xs.set (k * 4) (.int .i64 (D.U k))).set (k * 4 + 1) (.string (D.NM k))).set (k * 4 + 2) (.string (D.TX k))).set (k * 4 + 3) (.slice (some ⟨G, 0, none⟩) (D.AC k) (D.AC k))) (k + 1) D := by
  intro j hj
  simp only [List.getElem?_set, List.length_set]
  by_cases e : j = k
  · subst e
    refine ⟨G, hG, ⟨?_, ?_, ?_, ?_⟩, hr⟩
    all_goals
      repeat (first | rw [if_pos rfl, if_pos (by omega)] | rw [if_neg (by omega)])
  · obtain ⟨G', hG', ⟨h0, h1, h2, h3⟩, hr'⟩ := h j (by omega)
    refine ⟨G', hG', ⟨?_, ?_, ?_, ?_⟩, hr'⟩
    all_goals
      repeat rw [if_neg (by omega)]
      assumption
theorem own_dc {w : World} {B g n t : Nat} {xs : List Value} {D : Dc} (hn : D.n = n) (h : w.ownsRow B t 4 (.slice (some ⟨g, 0, none⟩) n n) n xs) (hp : Quad w g xs n D) : DcAt w (some ⟨g, 0, none⟩) D w.heap.size := fun h0 => by
  have hg : g < w.heap.size := (h.lt g rfl).2
  refine ⟨g, 0, rfl, hg, fun j hj => ?_⟩
  obtain ⟨G, hG, ⟨h0, h1, h2, h3⟩, hr⟩ := hp j (by omega)
  refine ⟨some ⟨G, 0, none⟩, D.AC j, ⟨?_, ?_, ?_, ?_⟩, hr, Nat.le_refl _⟩
  · rw [Nat.zero_add, h.cellAt (j * 4) (by omega)]; exact h0
  · rw [Nat.zero_add, h.cellAt (j * 4 + 1) (by omega)]; exact h1
  · rw [Nat.zero_add, h.cellAt (j * 4 + 2) (by omega)]; exact h2
  · rw [Nat.zero_add, h.cellAt (j * 4 + 3) (by omega)]; exact h3
end Go.Proofs.YtdepgkpfibmbgaaGreatDoor

/-
  Plain laws on rows of the call's own, of no program: their shape, what stays of them, what one more cell makes of the world.
-/
namespace Go.Proofs.YtdepgkpfibmbgaaGreatDoor
open Go.RowKit
set_option linter.unusedVariables false
theorem gOwn_shape {w : World} {B : Nat} {e : TypeId} {z : Nat} {v : Value} {n : Nat} {xs : List Value} (h : w.ownsRow B e z v n xs) : ∃ ad cap, v = .slice ad n cap := by
  rcases h.2 with ⟨rfl, rfl⟩ | ⟨g, cap, cur, rfl, _⟩
  · exact ⟨_, _, rfl⟩
  · exact ⟨_, _, rfl⟩
theorem gOwn_after {w w' : World} {B e size n : Nat} {v : Value} {xs : List Value} (h : w.ownsRow B e size v n xs) (hb : Below w.heap.size w w') : w'.ownsRow B e size v n xs := by
  obtain ⟨hl, h⟩ := h
  refine ⟨hl, ?_⟩
  rcases h with h | ⟨g, cap, cur, hv, hg, hh, h1, h2, h3, h4⟩
  · exact .inl h
  · have hlt : g < w.heap.size := (Array.getElem?_eq_some_iff.1 hh).1
    exact .inr ⟨g, cap, cur, hv, hg, (hb.block g hlt).trans hh, h1, h2, h3, h4⟩
theorem gOne_new (w : World) (v : Value) (t : TypeId) (j : Nat) (u : Value) (hj : [v][j]? = some u) : (w.alloc (.cells #[v] t)).cell? ((⟨w.heap.size, 0, none⟩ : Addr).add j) = some u := by
  have h0 : j = 0 := by
    rcases Nat.eq_zero_or_pos j with h | h
    · exact h
    · rw [List.getElem?_eq_none (by simp; omega)] at hj; simp at hj
  subst h0
  simp at hj
  subst hj
  simp [Addr.add]
theorem gStr_list (s : ByteArray) : ∀ u ∈ [Value.string s], u.oneCell' = true := by
  intro u hu
  simp at hu
  subst hu
  rfl
theorem gBelow_one {w wr w2 : World} {o : Obj} {e : TypeId} {z : Nat} {ad : Option Addr} {n c : Nat} {xs : List Value} (hb : Below w.heap.size w wr) (hown : wr.ownsRow w.heap.size e z (.slice ad n c) n xs)
    (hg : (wr.alloc o).grownBy w2 (Value.slice ad n c).ownBlock) : Below w.heap.size w w2 := by
  have h2 : Below w.heap.size w (wr.alloc o) := hb.alloc hb.size o
  refine h2.grown hg h2.size fun j hj => ?_
  rcases hown.2 with ⟨hv, h0⟩ | ⟨g, cap, cur, hv, hB, rest⟩
  · rw [hv] at hj
    simp [Value.ownBlock] at hj
  · rw [hv] at hj
    simp [Value.ownBlock] at hj
    omega
/-- A block of the call's own, with these cells. -/
def CellsAt (w : World) (G : Nat) (cs : Array Value) : Prop := ∃ T, w.heap[G]? = some (.cells cs T (0, 0))
theorem cellsAt_new (w : World) (cs : Array Value) (T : TypeId) : CellsAt (w.alloc (.cells cs T)) w.heap.size cs := ⟨T, heap_alloc_new w _⟩
theorem cellsAt_lt {w : World} {G : Nat} {cs : Array Value} (h : CellsAt w G cs) : G < w.heap.size := by
  obtain ⟨T, h⟩ := h
  exact (Array.getElem?_eq_some_iff.1 h).1
theorem cellsAt_go {w w' : World} {G B : Nat} {cs : Array Value} (h : CellsAt w G cs) (hb : Below B w w') (hB : G < B) : CellsAt w' G cs := by
  obtain ⟨T, h⟩ := h
  exact ⟨T, (hb.block G hB).trans h⟩
theorem cellsAt_cell {w : World} {G : Nat} {cs : Array Value} (h : CellsAt w G cs) (i : Nat) : w.cell? ⟨G, i, none⟩ = cs[i]? := by
  obtain ⟨T, h⟩ := h
  rw [cell_of_row w G i _ T (0, 0) h]
theorem cellsAt_frozen {w : World} {G : Nat} {cs : Array Value} (h : CellsAt w G cs) (i : Nat) : w.frozen? ⟨G, i, none⟩ = false := by
  obtain ⟨T, h⟩ := h
  simp [World.frozen?, h]
theorem cellsAt_set {w : World} {G i : Nat} {cs : Array Value} (h : CellsAt w G cs) (v : Value) : CellsAt (w.setCell ⟨G, i, none⟩ v) G (cs.setIfInBounds i v) := by
  obtain ⟨T, h⟩ := h
  have hl := (Array.getElem?_eq_some_iff.1 h).1
  refine ⟨T, ?_⟩
  simp [World.setCell, Array.getElem?_modify, h]
theorem cellsAt_far {w : World} {G : Nat} {p : Addr} {cs : Array Value} (h : CellsAt w G cs) (v : Value) (hne : p.block ≠ G) : CellsAt (w.setCell p v) G cs := by
  obtain ⟨T, h⟩ := h
  refine ⟨T, ?_⟩
  simp [World.setCell, Array.getElem?_modify, hne, h]
theorem gOwn_set {w : World} {B : Nat} {e : TypeId} {z : Nat} {v : Value} {n : Nat} {xs : List Value} (h : w.ownsRow B e z v n xs) (p : Addr) (u : Value) (hne : v.ownBlock ≠ some p.block) : (w.setCell p u).ownsRow B e z v n xs := by
  obtain ⟨hl, h⟩ := h
  refine ⟨hl, ?_⟩
  rcases h with h | ⟨g, cap, cur, hv, hg, hh, h1, h2, h3, h4⟩
  · exact .inl h
  · have hne2 : p.block ≠ g := fun e => hne (by rw [hv, e]; rfl)
    exact .inr ⟨g, cap, cur, hv, hg, by rw [← hh]; simp [World.setCell, Array.getElem?_modify, hne2], h1, h2, h3, h4⟩
theorem gBox_below {w w2 : World} {o : Obj} (k : Below (w.alloc o).heap.size (w.alloc o) w2) : Below w.heap.size w w2 :=
  ((Below.refl _ _).alloc (Nat.le_refl _) _).trans (k.mono (by simp))
theorem gOwn_lower {w : World} {B B' : Nat} {e : TypeId} {z : Nat} {v : Value} {n : Nat} {xs : List Value} (h : w.ownsRow B e z v n xs) (hB : B' ≤ B) : w.ownsRow B' e z v n xs := by
  obtain ⟨hl, h⟩ := h
  refine ⟨hl, ?_⟩
  rcases h with h | ⟨g, cap, cur, hv, hg, hh, h1, h2, h3, h4⟩
  · exact .inl h
  · exact .inr ⟨g, cap, cur, hv, Nat.le_trans hB hg, hh, h1, h2, h3, h4⟩
theorem gTwo_new (w : World) (x y : Value) (T : TypeId) (j : Nat) (u : Value) (hj : [x, y][j]? = some u) : (w.alloc (.cells #[x, y] T)).cell? ((⟨w.heap.size, 0, none⟩ : Addr).add j) = some u := by
  match j, hj with
  | 0, hj => simp at hj; subst hj; simp [Addr.add]
  | 1, hj => simp at hj; subst hj; simp [Addr.add]
theorem gStr_two (x y : ByteArray) : ∀ u ∈ [Value.string x, Value.string y], u.oneCell' = true := by
  intro u hu
  simp at hu
  rcases hu with rfl | rfl <;> rfl
end Go.Proofs.YtdepgkpfibmbgaaGreatDoor

/-
  Plain facts on a document that is drawn, of no program's run: a row of items of the draw's own, their attributes in blocks that stay.
-/
namespace Go.Proofs.YtdepgkpfibmbgaaGreatDoor
open Go.RowKit Go.Joins
set_option linter.unusedVariables false
set_option linter.unusedSimpArgs false
abbrev IT : TypeId := 47
abbrev AT : TypeId := 83
/-- Blocks of attributes stay. -/
def KeepA (w w' : World) : Prop := w.heap.size ≤ w'.heap.size ∧ ∀ (b : Nat) (cs : Array Value) (fr : Nat × Nat), w.heap[b]? = some (.cells cs AT fr) → w'.heap[b]? = some (.cells cs AT fr)
theorem keepA_refl (w : World) : KeepA w w := ⟨Nat.le_refl _, fun _ _ _ h => h⟩
theorem keepA_step {w0 w w' : World} {row : Option Nat} (h : KeepA w0 w) (hg : w.grownBy w' row) (hr : ∀ k, row = some k → w0.heap.size ≤ k ∨ ∃ cs T fr, w.heap[k]? = some (.cells cs T fr) ∧ T ≠ AT) : KeepA w0 w' := by
  refine ⟨Nat.le_trans h.1 hg.size, fun b cs fr hb => ?_⟩
  have h1 := h.2 b cs fr hb
  have hlt := (Array.getElem?_eq_some_iff.1 h1).1
  have hlt0 := (Array.getElem?_eq_some_iff.1 hb).1
  refine (hg.block b hlt fun e => ?_).trans h1
  rcases hr b e.symm with h2 | ⟨cs', T, fr', h2, h3⟩
  · omega
  · rw [h1] at h2
    simp only [Option.some.injEq, Obj.cells.injEq] at h2
    exact h3 h2.2.1.symm
theorem keepA_below {w0 w w' : World} (h : KeepA w0 w) (hb : Below w.heap.size w w') : KeepA w0 w' :=
  ⟨Nat.le_trans h.1 hb.size, fun b cs fr hb0 => (hb.block b (Array.getElem?_eq_some_iff.1 (h.2 b cs fr hb0)).1).trans (h.2 b cs fr hb0)⟩
theorem keepA_trans {w0 w w' : World} (h : KeepA w0 w) (k : KeepA w w') : KeepA w0 w' := ⟨Nat.le_trans h.1 k.1, fun b cs fr hb => k.2 b cs fr (h.2 b cs fr hb)⟩
theorem grown_set (w : World) (p : Addr) (v : Value) : w.grownBy (w.setCell p v) (some p.block) := ⟨rfl, rfl, rfl, by simp [World.setCell], fun k hk hne => heap_setCell_far w p v k (fun e => hne (by rw [e]))⟩
theorem keepA_drew {w0 w w' : World} {G : Nat} {a : Option Addr} {n cap : Nat} {zs : List Int} (h : KeepA w0 w) (hr : RdAt w G a n cap zs) (hd : Drew G a n cap zs w w') : KeepA w0 w' := by
  refine keepA_step h hd.2 fun k hk => ?_
  cases hk
  obtain ⟨⟨p, -, hG⟩, -⟩ := hr
  exact .inr ⟨_, _, _, hG, by decide⟩
theorem keepA_own {w0 w w' : World} {B : Nat} {v : Value} {m : Nat} {xs : List Value} (h : KeepA w0 w) (ho : w.ownsRow B IT 4 v m xs) (hg : w.grownBy w' v.ownBlock) : KeepA w0 w' := by
  refine keepA_step h hg fun k hk => ?_
  rcases ho.2 with ⟨hv, -⟩ | ⟨g, cp, cur, hv, -, hh, -⟩
  · rw [hv] at hk; cases hk
  · rw [hv] at hk
    cases hk
    exact .inr ⟨_, _, _, hh, by decide⟩
/-- A row of attributes in a block that stays. -/
def AtD (w : World) (ad : Option Addr) (n : Nat) (N V : Nat → ByteArray) : Prop := 0 < n → ∃ b off cs fr, ad = some ⟨b, off, none⟩ ∧ w.heap[b]? = some (.cells cs AT fr) ∧ ∀ k, k < n → cs[off + k * 2]? = some (.string (N k)) ∧ cs[off + k * 2 + 1]? = some (.string (V k))
theorem atD_keep {w w' : World} {ad : Option Addr} {n : Nat} {N V : Nat → ByteArray} (h : AtD w ad n N V) (k : KeepA w w') : AtD w' ad n N V := fun h0 => by
  obtain ⟨b, off, cs, fr, e, hb, hc⟩ := h h0
  exact ⟨b, off, cs, fr, e, k.2 b cs fr hb, hc⟩
theorem atD_at {w : World} {ad : Option Addr} {n : Nat} {N V : Nat → ByteArray} (h : AtD w ad n N V) : AtAt w ad n N V w.heap.size := fun h0 => by
  obtain ⟨b, off, cs, fr, e, hb, hc⟩ := h h0
  refine ⟨b, off, e, (Array.getElem?_eq_some_iff.1 hb).1, fun k hk => ⟨?_, ?_⟩⟩
  · rw [cell_of_row w b _ cs AT fr hb]; exact (hc k hk).1
  · rw [cell_of_row w b _ cs AT fr hb]; exact (hc k hk).2
theorem atD_own {w : World} {B : Nat} {ad : Option Addr} {m c : Nat} {ys : List Value} {N V : Nat → ByteArray} (h : w.ownsRow B AT 2 (.slice ad m c) m ys) (hp : PairsS ys m N V) : AtD w ad m N V := fun h0 => by
  rcases h.2 with ⟨hv, h9⟩ | ⟨g, cp, cur, hv, -, hh, -, -, hs, ht⟩
  · omega
  · simp only [Value.slice.injEq] at hv
    obtain ⟨rfl, -, -⟩ := hv
    refine ⟨g, 0, cur, _, rfl, hh, fun k hk => ?_⟩
    have e : ∀ i, i < m * 2 → cur[i]? = ys[i]? := fun i hi => by
      rw [← ht, List.getElem?_take_of_lt hi, Array.getElem?_toList]
    rw [Nat.zero_add, e _ (by omega), e _ (by omega)]
    exact hp k hk
theorem atD_less {w : World} {ad : Option Addr} {n m : Nat} {N V : Nat → ByteArray} (h : AtD w ad n N V) (hm : m ≤ n) : AtD w ad m N V := fun h0 => by
  obtain ⟨b, off, cs, fr, e, hb, hc⟩ := h (by omega)
  exact ⟨b, off, cs, fr, e, hb, fun k hk => hc k (by omega)⟩
def Small (D : Dc) (j : Nat) : Prop := (D.NM j).size ≤ 8 ∧ (D.TX j).size ≤ 8 ∧ D.AC j ≤ 8 ∧ ∀ k, k < D.AC j → (D.AN j k).size ≤ 8 ∧ (D.AV j k).size ≤ 8
/-- The cells of a row are those of the items of D. -/
def Its (w : World) (xs : List Value) (m : Nat) (D : Dc) : Prop := D.n = m ∧ ∀ j, j < m → ∃ ad cp, (xs[j * 4]? = some (.int .i64 (D.U j)) ∧ xs[j * 4 + 1]? = some (.string (D.NM j)) ∧ xs[j * 4 + 2]? = some (.string (D.TX j)) ∧ xs[j * 4 + 3]? = some (.slice ad (D.AC j) cp)) ∧ AtD w ad (D.AC j) (D.AN j) (D.AV j) ∧ D.AC j ≤ cp ∧ Small D j
theorem its_keep {w w' : World} {xs : List Value} {m : Nat} {D : Dc} (h : Its w xs m D) (k : KeepA w w') : Its w' xs m D := ⟨h.1, fun j hj => by
  obtain ⟨ad, cp, h1, h2, h3⟩ := h.2 j hj
  exact ⟨ad, cp, h1, atD_keep h2 k, h3⟩⟩
def Dc.put (D : Dc) (u : Int) (nm tx : ByteArray) (ac : Nat) (an av : Nat → ByteArray) : Dc :=
  ⟨D.n + 1, fun j => if j = D.n then u else D.U j, fun j => if j = D.n then nm else D.NM j, fun j => if j = D.n then tx else D.TX j, fun j => if j = D.n then ac else D.AC j, fun j => if j = D.n then an else D.AN j, fun j => if j = D.n then av else D.AV j⟩
theorem its_put {w : World} {xs : List Value} {m : Nat} {D : Dc} (h : Its w xs m D) (hl : xs.length = m * 4) (u : Int) (nm tx : ByteArray) (ad : Option Addr) (ac cp : Nat) (an av : Nat → ByteArray) (ha : AtD w ad ac an av) (hc : ac ≤ cp) (h1 : nm.size ≤ 8) (h2 : tx.size ≤ 8) (h3 : ac ≤ 8) (h4 : ∀ k, k < ac → (an k).size ≤ 8 ∧ (av k).size ≤ 8) :
    Its w (xs ++ [.int .i64 u, .string nm, .string tx, .slice ad ac cp]) (m + 1) (D.put u nm tx ac an av) := by
  obtain ⟨hn, hi⟩ := h
  refine ⟨by show D.n + 1 = _; omega, fun j hj => ?_⟩
  by_cases e : j = m
  · subst e
    have e1 : j = D.n := hn.symm
    refine ⟨ad, cp, ?_, ?_, ?_, ?_⟩
    · simp only [Dc.put, if_pos e1]
      rw [List.getElem?_append_right (by omega), List.getElem?_append_right (by omega), List.getElem?_append_right (by omega), List.getElem?_append_right (by omega), hl, show j * 4 - j * 4 = 0 by omega, show j * 4 + 1 - j * 4 = 1 by omega, show j * 4 + 2 - j * 4 = 2 by omega, show j * 4 + 3 - j * 4 = 3 by omega]
      exact ⟨rfl, rfl, rfl, rfl⟩
    · simp only [Dc.put, if_pos e1]; exact ha
    · simp only [Dc.put, if_pos e1]; exact hc
    · simp only [Small, Dc.put, if_pos e1]; exact ⟨h1, h2, h3, h4⟩
  · obtain ⟨ad', cp', c, h5, h6, h7⟩ := hi j (by omega)
    have e1 : ¬ j = D.n := by omega
    refine ⟨ad', cp', ?_, ?_, ?_, ?_⟩
    · simp only [Dc.put, if_neg e1]
      rw [List.getElem?_append_left (by omega), List.getElem?_append_left (by omega), List.getElem?_append_left (by omega), List.getElem?_append_left (by omega)]
      exact c
    · simp only [Dc.put, if_neg e1]; exact h5
    · simp only [Dc.put, if_neg e1]; exact h6
    · simp only [Small, Dc.put, if_neg e1]; exact h7
/-- A drawn row of items. -/
def DrIt (B : Nat) (w : World) (ad : Option Addr) (m c : Nat) (D : Dc) : Prop := ∃ xs, w.ownsRow B IT 4 (.slice ad m c) m xs ∧ Its w xs m D
theorem drIt_kept {B m c : Nat} {w w' : World} {ad : Option Addr} {D : Dc} {row : Option Nat} (h : DrIt B w ad m c D) (hg : w.grownBy w' row) (hne : ∀ k, row = some k → (Value.slice ad m c).ownBlock ≠ some k) (hk : KeepA w w') : DrIt B w' ad m c D := by
  obtain ⟨xs, h1, h2⟩ := h
  refine ⟨xs, h1.kept hg ?_, its_keep h2 hk⟩
  cases hv : (Value.slice ad m c).ownBlock with
  | none => exact .inl rfl
  | some k => exact .inr fun e => hne k e.symm (by rw [hv])
theorem drIt_below {B m c : Nat} {w w' : World} {ad : Option Addr} {D : Dc} (h : DrIt B w ad m c D) (hb : Below w.heap.size w w') : DrIt B w' ad m c D := by
  obtain ⟨xs, h1, h2⟩ := h
  exact ⟨xs, gOwn_after h1 hb, its_keep h2 (keepA_below (keepA_refl w) hb)⟩
theorem drIt_lt {B m c : Nat} {w : World} {ad : Option Addr} {D : Dc} (h : DrIt B w ad m c D) : ∀ k, (Value.slice ad m c).ownBlock = some k → B ≤ k ∧ k < w.heap.size := by
  obtain ⟨xs, h1, h2⟩ := h
  exact h1.lt
theorem drIt_cells {B m c : Nat} {w : World} {ad : Option Addr} {D : Dc} (h : DrIt B w ad m c D) (h0 : 0 < m) : ∃ g, ad = some ⟨g, 0, none⟩ ∧ B ≤ g ∧ g < w.heap.size ∧ DcRow w g 0 D w.heap.size := by
  obtain ⟨xs, h1, hn, hi⟩ := h
  rcases h1.2 with ⟨hv, h9⟩ | ⟨g, cp, cur, hv, hB, hh, rest⟩
  · omega
  · simp only [Value.slice.injEq] at hv
    obtain ⟨rfl, _, rfl⟩ := hv
    refine ⟨g, rfl, hB, (h1.lt g rfl).2, fun j hj => ?_⟩
    obtain ⟨ad', cp', ⟨c0, c1, c2, c3⟩, ha, hc, -⟩ := hi j (by omega)
    refine ⟨ad', cp', ⟨?_, ?_, ?_, ?_⟩, atD_at ha, hc⟩
    · rw [Nat.zero_add, h1.cellAt (j * 4) (by omega)]; exact c0
    · rw [Nat.zero_add, h1.cellAt (j * 4 + 1) (by omega)]; exact c1
    · rw [Nat.zero_add, h1.cellAt (j * 4 + 2) (by omega)]; exact c2
    · rw [Nat.zero_add, h1.cellAt (j * 4 + 3) (by omega)]; exact c3
theorem drIt_dc {B m c : Nat} {w : World} {ad : Option Addr} {D : Dc} (h : DrIt B w ad m c D) : D.n = m ∧ DcAt w ad D w.heap.size := by
  have hn : D.n = m := by obtain ⟨xs, h1, hn, hi⟩ := h; exact hn
  refine ⟨hn, fun h0 => ?_⟩
  obtain ⟨g, e, -, hg, hr⟩ := drIt_cells h (by omega)
  exact ⟨g, 0, e, hg, hr⟩
theorem sumN_small (f : Nat → Nat) (K : Nat) : ∀ m, (∀ j, j < m → f j ≤ K) → sumN f m ≤ m * K
  | 0, h => by simp [sumN]
  | m + 1, h => by
    have h1 := sumN_small f K m (fun j hj => h j (by omega))
    have h2 := h m (by omega)
    show sumN f m + f m ≤ _
    rw [Nat.add_mul]
    omega
theorem drIt_tot {B m c : Nat} {w : World} {ad : Option Addr} {D : Dc} (h : DrIt B w ad m c D) (hm : m ≤ 1000) : dcTot D ≤ 1048576 := by
  obtain ⟨xs, h1, hn, hi⟩ := h
  have h2 : ∀ j, j < D.n → itSz D j ≤ 1000 := fun j hj => by
    obtain ⟨ad', cp', -, -, -, s1, s2, s3, s4⟩ := hi j (by omega)
    have h3 := sumN_small (atSz (D.AN j) (D.AV j)) 16 (D.AC j) (fun k hk => by have := s4 k hk; unfold atSz; omega)
    unfold itSz atTot
    have : D.AC j * 16 ≤ 8 * 16 := Nat.mul_le_mul_right _ s3
    omega
  have h4 := sumN_small (itSz D) 1000 D.n h2
  have : D.n * 1000 ≤ 1000 * 1000 := Nat.mul_le_mul_right _ (by omega)
  unfold dcTot
  omega
end Go.Proofs.YtdepgkpfibmbgaaGreatDoor
