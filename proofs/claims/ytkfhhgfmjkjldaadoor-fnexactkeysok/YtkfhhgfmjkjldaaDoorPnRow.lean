/-
  Contracts of the laws' helpers on rows of model nodes: how much they hold, a copy in new memory.
-/
import Derived.Test.YtkfhhgfmjkjldaaDoorInts
import Derived.Test.YtkfhhgfmjkjldaaDoorGen
import Derived.Deep.RegionWith
import Derived.Deep.RegionHeld3
import Derived.Lib.SmallJoins
namespace Go.Proofs.YtkfhhgfmjkjldaaDoor
open Go.RowKit Go.Joins
set_option linter.unusedVariables false
set_option linter.unusedSimpArgs false
theorem ret_iI {a b : Int} (h : a = b) : Ending.returned (.int .i64 a) = .returned (.int .i64 b) := by rw [h]
def sumN (f : Nat → Nat) : Nat → Nat
  | 0 => 0
  | k + 1 => sumN f k + f k
theorem sumN_le (f : Nat → Nat) {a b : Nat} (h : a ≤ b) : sumN f a ≤ sumN f b := by
  induction b with
  | zero => have : a = 0 := by omega
            subst this; exact Nat.le_refl _
  | succ b ih =>
    by_cases e : a = b + 1
    · subst e; exact Nat.le_refl _
    · have := ih (by omega)
      show sumN f a ≤ sumN f b + f b
      omega
theorem sumN_at (f : Nat → Nat) {a b : Nat} (h : a < b) : sumN f a + f a ≤ sumN f b := sumN_le f (a := a + 1) h
/-- What is left of 'left' when 'x' is taken away; -1: not so much was there. -/
def dn (left : Int) (x : Nat) : Int := if (x : Int) ≤ left then left - x else -1
theorem dn_yes {left : Int} {x : Nat} (h : (x : Int) ≤ left) : dn left x = left - x := by unfold dn; rw [if_pos h]
theorem dn_no {left : Int} {x : Nat} (h : ¬ (x : Int) ≤ left) : dn left x = -1 := by unfold dn; rw [if_neg h]
theorem heap_setCell_size (w : World) (p : Addr) (v : Value) : (w.setCell p v).heap.size = w.heap.size := by simp [World.setCell]
theorem heap_setCell_far (w : World) (p : Addr) (v : Value) (G : Nat) (h : p.block ≠ G) : (w.setCell p v).heap[G]? = w.heap[G]? := by
  simp [World.setCell, Array.getElem?_modify, h]
theorem own_after {w w' : World} {B e size n : Nat} {v : Value} {xs : List Value} (h : w.ownsRow B e size v n xs) (hb : Below w.heap.size w w') : w'.ownsRow B e size v n xs := gOwn_after h hb
theorem own_someN {w : World} {B g n t size : Nat} {xs : List Value} (h : w.ownsRow B t size (.slice (some ⟨g, 0, none⟩) n n) n xs) (j : Nat) (hj : j < n * size) : ∃ v, w.cell? ⟨g, j, none⟩ = some v := by
  rw [h.cellAt j hj]
  exact ⟨_, List.getElem?_eq_getElem (by rw [h.1]; exact hj)⟩
theorem rwAt_go {k : IntKind} {w w' : World} {a : Option Addr} {xs : List Int} {B : Nat} (h : RowAt k w a xs B) (hb : Below B w w') : RowAt k w' a xs B := fun h0 => by
  obtain ⟨b, off, e, hl, hc⟩ := h h0
  exact ⟨b, off, e, hl, fun j hj => (hb.cell (p := ⟨b, off + j, none⟩) hl).trans (hc j hj)⟩
theorem rwAt_up {k : IntKind} {w : World} {a : Option Addr} {xs : List Int} {B B' : Nat} (h : RowAt k w a xs B) (hB : B ≤ B') : RowAt k w a xs B' := fun h0 => by
  obtain ⟨b, off, e, hl, hc⟩ := h h0
  exact ⟨b, off, e, Nat.lt_of_lt_of_le hl hB, hc⟩
theorem rwAt_set {k : IntKind} {w : World} {g : Nat} {xs : List Int} {B : Nat} (h : RowAt k w (some ⟨g, 0, none⟩) xs B) (p : Addr) (v : Value) (hne : p.block ≠ g) : RowAt k (w.setCell p v) (some ⟨g, 0, none⟩) xs B := fun h0 => by
  obtain ⟨b, off, e, hb, hc⟩ := h h0
  simp only [Option.some.injEq, Addr.mk.injEq] at e
  obtain ⟨rfl, rfl, -⟩ := e
  exact ⟨g, 0, rfl, hb, fun j hj => by rw [World.cell?_setCell_far _ _ _ _ hne]; exact hc j hj⟩
theorem own_rowAt9 {w : World} {B n c : Nat} {ad : Option Addr} {t : TypeId} {xs : List Int} (h : w.ownsRow B t 1 (.slice ad n c) n (xs.map (Value.int .i64))) : RowAt .i64 w ad xs w.heap.size := fun h0 => by
  have hl := h.1
  rcases h.2 with ⟨-, hz⟩ | ⟨g, cap, cur, hv, hB, hh, -, -, -, hx⟩
  · exact absurd (List.length_eq_zero_iff.1 (by rw [hz] at hl; simpa using hl)) h0
  · simp only [Value.slice.injEq] at hv
    obtain ⟨rfl, -, rfl⟩ := hv
    refine ⟨g, 0, rfl, (Array.getElem?_eq_some_iff.1 hh).1, fun j hj => ?_⟩
    have hn : xs.length = n := by simpa using hl
    have := h.cellAt j (by omega)
    rw [Nat.zero_add, this, List.getElem?_map, List.getElem?_eq_getElem hj]
    rfl
/-- A row of model nodes. -/
structure Pn where
  n : Nat
  K : Nat → Int
  NM : Nat → ByteArray
  KL : Nat → List Int
  OC : Nat → Int
def PnCells (w : World) (b o : Nat) (D : Pn) (j : Nat) (ad : Option Addr) (cp : Nat) : Prop := w.cell? ⟨b, o, none⟩ = some (.int .i64 (D.K j)) ∧ w.cell? ⟨b, o + 1, none⟩ = some (.string (D.NM j)) ∧ w.cell? ⟨b, o + 2, none⟩ = some (.slice ad (D.KL j).length cp) ∧ w.cell? ⟨b, o + 3, none⟩ = some (.int .i64 (D.OC j))
def PnRow (w : World) (b off : Nat) (D : Pn) (B : Nat) : Prop := ∀ j, j < D.n → ∃ ad cp, PnCells w b (off + j * 4) D j ad cp ∧ RowAt .i64 w ad (D.KL j) B ∧ (D.KL j).length ≤ cp
def PnAt (w : World) (a : Option Addr) (D : Pn) (B : Nat) : Prop := 0 < D.n → ∃ b off, a = some ⟨b, off, none⟩ ∧ b < B ∧ PnRow w b off D B
theorem pnCells_go {w w' : World} {b o : Nat} {D : Pn} {j : Nat} {ad : Option Addr} {cp B : Nat} (h : PnCells w b o D j ad cp) (hb : b < B) (k : Below B w w') : PnCells w' b o D j ad cp := by
  obtain ⟨h0, h1, h2, h3⟩ := h
  exact ⟨(k.cell (p := ⟨b, o, none⟩) hb).trans h0, (k.cell (p := ⟨b, o + 1, none⟩) hb).trans h1, (k.cell (p := ⟨b, o + 2, none⟩) hb).trans h2, (k.cell (p := ⟨b, o + 3, none⟩) hb).trans h3⟩
theorem pnRow_go {w w' : World} {b off : Nat} {D : Pn} {B : Nat} (h : PnRow w b off D B) (hb : b < B) (k : Below B w w') : PnRow w' b off D B := fun j hj => by
  obtain ⟨ad, cp, hc, hr, hl⟩ := h j hj
  exact ⟨ad, cp, pnCells_go hc hb k, rwAt_go hr k, hl⟩
theorem pnRow_up {w : World} {b off : Nat} {D : Pn} {B B' : Nat} (h : PnRow w b off D B) (k : B ≤ B') : PnRow w b off D B' := fun j hj => by
  obtain ⟨ad, cp, hc, hr, hl⟩ := h j hj
  exact ⟨ad, cp, hc, rwAt_up hr k, hl⟩
theorem pnAt_go {w w' : World} {a : Option Addr} {D : Pn} {B : Nat} (h : PnAt w a D B) (k : Below B w w') : PnAt w' a D B := fun h0 => by
  obtain ⟨b, off, e, hb, hr⟩ := h h0
  exact ⟨b, off, e, hb, pnRow_go hr hb k⟩
theorem pnAt_up {w : World} {a : Option Addr} {D : Pn} {B B' : Nat} (h : PnAt w a D B) (k : B ≤ B') : PnAt w a D B' := fun h0 => by
  obtain ⟨b, off, e, hb, hr⟩ := h h0
  exact ⟨b, off, e, Nat.lt_of_lt_of_le hb k, pnRow_up hr k⟩
/-- The sizes that a row in memory can have. -/
def PnSz (D : Pn) : Prop := D.n ≤ maxLen ∧ ∀ j, j < D.n → (D.NM j).size ≤ maxLen ∧ (D.KL j).length ≤ maxLen
def pnSz (D : Pn) (j : Nat) : Nat := (D.NM j).size + (D.KL j).length
def pnTot (D : Pn) : Nat := D.n + sumN (pnSz D) D.n
theorem pn_sz {D : Pn} (h : pnTot D ≤ 1048576) : D.n ≤ 1048576 ∧ ∀ j, j < D.n → (D.NM j).size ≤ 1048576 ∧ (D.KL j).length ≤ 1048576 := by
  unfold pnTot at h
  refine ⟨by omega, fun j hj => ?_⟩
  have h1 := sumN_at (pnSz D) hj
  have h2 : pnSz D j = (D.NM j).size + (D.KL j).length := rfl
  omega
theorem box_belowI {w w1 : World} {c : Array Value} {t : TypeId} (h : Below (w.alloc (.cells c t)).heap.size (w.alloc (.cells c t)) w1) : Below w.heap.size w w1 :=
  ((Below.refl w.heap.size w).alloc (Nat.le_refl _) _).trans (h.mono (by simp))
/-- A node lies in block G. -/
def NdAt (w : World) (G : Nat) (k : Int) (nm : ByteArray) (a : Option Addr) (n c : Nat) (oc : Int) : Prop :=
  ∃ T, w.heap[G]? = some (.cells #[.int .i64 k, .string nm, .slice a n c, .int .i64 oc] T (0, 0))
section
variable {w w1 : World} {G : Nat} {k : Int} {nm : ByteArray} {a : Option Addr} {n c : Nat} {oc : Int}
theorem ndAt_lt (h : NdAt w G k nm a n c oc) : G < w.heap.size := by
  obtain ⟨T, h⟩ := h
  exact (Array.getElem?_eq_some_iff.1 h).1
theorem ndAt_go (h : NdAt w G k nm a n c oc) (hb : Below w.heap.size w w1) : NdAt w1 G k nm a n c oc := by
  have hl := ndAt_lt h
  obtain ⟨T, h⟩ := h
  exact ⟨T, (hb.block G hl).trans h⟩
theorem ndAt_new (w : World) (k : Int) (nm : ByteArray) (a : Option Addr) (n c : Nat) (oc : Int) (T : TypeId) : NdAt (w.alloc (.cells #[.int .i64 k, .string nm, .slice a n c, .int .i64 oc] T)) w.heap.size k nm a n c oc := ⟨T, heap_alloc_new w _⟩
theorem ndAt_cells (h : NdAt w G k nm a n c oc) : w.cell? ⟨G, 0, none⟩ = some (.int .i64 k) ∧ w.cell? ⟨G, 1, none⟩ = some (.string nm) ∧ w.cell? ⟨G, 2, none⟩ = some (.slice a n c) ∧ w.cell? ⟨G, 3, none⟩ = some (.int .i64 oc) := by
  obtain ⟨T, h⟩ := h
  have e : ∀ i, w.cell? ⟨G, i, none⟩ = (#[.int .i64 k, .string nm, .slice a n c, .int .i64 oc] : Array Value)[i]? := fun i => by rw [cell_of_row w G i _ T (0, 0) h]
  exact ⟨e 0, e 1, e 2, e 3⟩
theorem ndAt_frozen (h : NdAt w G k nm a n c oc) (i : Nat) : w.frozen? ⟨G, i, none⟩ = false := by
  obtain ⟨T, h⟩ := h
  simp [World.frozen?, h]
theorem ndAt_far (h : NdAt w G k nm a n c oc) (p : Addr) (v : Value) (hne : p.block ≠ G) : NdAt (w.setCell p v) G k nm a n c oc := by
  obtain ⟨T, h⟩ := h
  exact ⟨T, by rw [heap_setCell_far _ _ _ _ hne]; exact h⟩
theorem ndAt_sets {k' : Int} {nm' : ByteArray} {a' : Option Addr} {n' c' : Nat} {oc' : Int} (h : NdAt w G k nm a n c oc) :
    NdAt ((((w.setCell ⟨G, 0, none⟩ (.int .i64 k')).setCell ⟨G, 1, none⟩ (.string nm')).setCell ⟨G, 2, none⟩ (.slice a' n' c')).setCell ⟨G, 3, none⟩ (.int .i64 oc')) G k' nm' a' n' c' oc' := by
  obtain ⟨T, h0⟩ := h
  have h1 := block_setCell (i := 0) h0 (.int .i64 k')
  have h2 := block_setCell (i := 1) h1 (.string nm')
  have h3 := block_setCell (i := 2) h2 (.slice a' n' c')
  have h4 := block_setCell (i := 3) h3 (.int .i64 oc')
  exact ⟨T, by simpa using h4⟩
end
theorem box_node {w w2 : World} {k : Int} {nm : ByteArray} {a : Option Addr} {n c : Nat} {oc : Int} {T : TypeId} (hb : Below (w.alloc (.cells #[.int .i64 k, .string nm, .slice a n c, .int .i64 oc] T)).heap.size (w.alloc (.cells #[.int .i64 k, .string nm, .slice a n c, .int .i64 oc] T)) w2) :
    NdAt w2 w.heap.size k nm a n c oc ∧ Below w.heap.size w w2 := ⟨ndAt_go (ndAt_new w k nm a n c oc T) hb, ((Below.refl w.heap.size w).alloc (Nat.le_refl _) _).trans (hb.mono (by simp))⟩
end Go.Proofs.YtkfhhgfmjkjldaaDoor
