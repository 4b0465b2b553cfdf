/-
  A date that lies whole in a block of its own: read, written, carried on. Of no function.
-/
import Derived.Test.YtaigicdoepdhnaaDoorDateTo
import Derived.Lib.SmallJoins
namespace Go.Proofs.YtaigicdoepdhnaaDoor
open Go.RowKit Go.Joins
def HeldD (w : World) (B : Nat) (y mo d h mi s : Int) (g : Bool) (z : Int) : Prop := ∃ T, w.heap[B]? = some (.cells #[.int .i64 y, .int .i64 mo, .int .i64 d, .int .i64 h, .int .i64 mi, .int .i64 s, .bool g, .int .i64 z] T (0, 0))
theorem heldD_lt {w : World} {B : Nat} {y mo d h mi s : Int} {g : Bool} {z : Int} (hx : HeldD w B y mo d h mi s g z) : B < w.heap.size := by
  obtain ⟨T, hx⟩ := hx
  exact (Array.getElem?_eq_some_iff.1 hx).1
theorem heldD_new (w : World) (y mo d h mi s : Int) (g : Bool) (z : Int) (T : TypeId) : HeldD (w.alloc (.cells #[.int .i64 y, .int .i64 mo, .int .i64 d, .int .i64 h, .int .i64 mi, .int .i64 s, .bool g, .int .i64 z] T)) w.heap.size y mo d h mi s g z := ⟨T, heap_alloc_new w _⟩
theorem heldD_below {w w1 : World} {B : Nat} {y mo d h mi s : Int} {g : Bool} {z : Int} (hx : HeldD w B y mo d h mi s g z) (k : Below w.heap.size w w1) : HeldD w1 B y mo d h mi s g z := by
  have hl := heldD_lt hx
  obtain ⟨T, hx⟩ := hx
  exact ⟨T, (k.block B hl).trans hx⟩
theorem heldD_alloc {w : World} {B : Nat} {y mo d h mi s : Int} {g : Bool} {z : Int} (hx : HeldD w B y mo d h mi s g z) (o : Obj) : HeldD (w.alloc o) B y mo d h mi s g z := heldD_below hx ((Below.refl _ _).alloc (Nat.le_refl _) _)
theorem heldD_cells {w : World} {B : Nat} {y mo d h mi s : Int} {g : Bool} {z : Int} (hx : HeldD w B y mo d h mi s g z) :
    (w.cell? ⟨B, 0, none⟩ = some (.int .i64 y) ∧ w.cell? ⟨B, 1, none⟩ = some (.int .i64 mo) ∧ w.cell? ⟨B, 2, none⟩ = some (.int .i64 d) ∧ w.cell? ⟨B, 3, none⟩ = some (.int .i64 h) ∧ w.cell? ⟨B, 4, none⟩ = some (.int .i64 mi) ∧ w.cell? ⟨B, 5, none⟩ = some (.int .i64 s) ∧ w.cell? ⟨B, 6, none⟩ = some (.bool g) ∧ w.cell? ⟨B, 7, none⟩ = some (.int .i64 z)) ∧ (w.frozen? ⟨B, 0, none⟩ = false ∧ w.frozen? ⟨B, 1, none⟩ = false ∧ w.frozen? ⟨B, 2, none⟩ = false ∧ w.frozen? ⟨B, 3, none⟩ = false ∧ w.frozen? ⟨B, 4, none⟩ = false ∧ w.frozen? ⟨B, 5, none⟩ = false ∧ w.frozen? ⟨B, 6, none⟩ = false ∧ w.frozen? ⟨B, 7, none⟩ = false) := by
  obtain ⟨T, hx⟩ := hx
  exact ⟨⟨by rw [cell_of_row w B 0 _ T (0, 0) hx]; rfl, by rw [cell_of_row w B 1 _ T (0, 0) hx]; rfl, by rw [cell_of_row w B 2 _ T (0, 0) hx]; rfl, by rw [cell_of_row w B 3 _ T (0, 0) hx]; rfl, by rw [cell_of_row w B 4 _ T (0, 0) hx]; rfl, by rw [cell_of_row w B 5 _ T (0, 0) hx]; rfl, by rw [cell_of_row w B 6 _ T (0, 0) hx]; rfl, by rw [cell_of_row w B 7 _ T (0, 0) hx]; rfl⟩, frozen_of_row w B 0 _ T hx, frozen_of_row w B 1 _ T hx, frozen_of_row w B 2 _ T hx, frozen_of_row w B 3 _ T hx, frozen_of_row w B 4 _ T hx, frozen_of_row w B 5 _ T hx, frozen_of_row w B 6 _ T hx, frozen_of_row w B 7 _ T hx⟩
theorem heldD_set {w : World} {B : Nat} {y0 mo0 d0 e0 mi0 s0 : Int} {g0 : Bool} {z0 : Int} (hx : HeldD w B y0 mo0 d0 e0 mi0 s0 g0 z0) (y mo d h mi s : Int) (g : Bool) (z : Int) :
    HeldD ((((((((w.setCell ⟨B, 0, none⟩ (.int .i64 y)).setCell ⟨B, 1, none⟩ (.int .i64 mo)).setCell ⟨B, 2, none⟩ (.int .i64 d)).setCell ⟨B, 3, none⟩ (.int .i64 h)).setCell ⟨B, 4, none⟩ (.int .i64 mi)).setCell ⟨B, 5, none⟩ (.int .i64 s)).setCell ⟨B, 6, none⟩ (.bool g)).setCell ⟨B, 7, none⟩ (.int .i64 z)) B y mo d h mi s g z := by
  obtain ⟨T, h0⟩ := hx
  have h1 := block_setCell (i := 0) h0 (.int .i64 y)
  have h2 := block_setCell (i := 1) h1 (.int .i64 mo)
  have h3 := block_setCell (i := 2) h2 (.int .i64 d)
  have h4 := block_setCell (i := 3) h3 (.int .i64 h)
  have h5 := block_setCell (i := 4) h4 (.int .i64 mi)
  have h6 := block_setCell (i := 5) h5 (.int .i64 s)
  have h7 := block_setCell (i := 6) h6 (.bool g)
  have h8 := block_setCell (i := 7) h7 (.int .i64 z)
  exact ⟨T, by simpa using h8⟩
theorem below_set8 {w w1 : World} {B : Nat} (hx : Below w.heap.size w w1) (hB : w.heap.size ≤ B) (x0 x1 x2 x3 x4 x5 x6 x7 : Value) : Below w.heap.size w ((((((((w1.setCell ⟨B, 0, none⟩ (x0)).setCell ⟨B, 1, none⟩ (x1)).setCell ⟨B, 2, none⟩ (x2)).setCell ⟨B, 3, none⟩ (x3)).setCell ⟨B, 4, none⟩ (x4)).setCell ⟨B, 5, none⟩ (x5)).setCell ⟨B, 6, none⟩ (x6)).setCell ⟨B, 7, none⟩ (x7)) :=
  (((((((hx.setCell hB _).setCell hB _).setCell hB _).setCell hB _).setCell hB _).setCell hB _).setCell hB _).setCell hB _
/-- The memory of a call with one date handed in and one answered. -/
def ShIn (w w1 : World) (y mo d h mi s : Int) (g : Bool) (z : Int) : Prop := HeldD w1 w.heap.size y mo d h mi s g z ∧ HeldD w1 (w.heap.size + 1) 0 0 0 0 0 0 false 0 ∧ Below w.heap.size w w1
theorem shin_new (w : World) (y mo d h mi s : Int) (g : Bool) (z : Int) (T : TypeId) : ShIn w ((w.alloc (.cells #[.int .i64 y, .int .i64 mo, .int .i64 d, .int .i64 h, .int .i64 mi, .int .i64 s, .bool g, .int .i64 z] T)).alloc (.cells #[.int .i64 0, .int .i64 0, .int .i64 0, .int .i64 0, .int .i64 0, .int .i64 0, .bool false, .int .i64 0] T)) y mo d h mi s g z := by
  obtain ⟨w1, e1⟩ : ∃ w1, w.alloc (.cells #[.int .i64 y, .int .i64 mo, .int .i64 d, .int .i64 h, .int .i64 mi, .int .i64 s, .bool g, .int .i64 z] T) = w1 := ⟨_, rfl⟩
  have s1 : w1.heap.size = w.heap.size + 1 := by rw [← e1]; simp
  have b1 : Below w.heap.size w w1 := by rw [← e1]; exact (Below.refl _ _).alloc (Nat.le_refl _) _
  have n1 : HeldD w1 w.heap.size y mo d h mi s g z := by rw [← e1]; exact heldD_new w y mo d h mi s g z T
  have n2 : HeldD (w1.alloc (.cells #[.int .i64 0, .int .i64 0, .int .i64 0, .int .i64 0, .int .i64 0, .int .i64 0, .bool false, .int .i64 0] T)) (w.heap.size + 1) 0 0 0 0 0 0 false 0 := by rw [← s1]; exact heldD_new w1 0 0 0 0 0 0 false 0 T
  rw [e1]
  exact ⟨heldD_alloc n1 _, n2, below_go b1 ((Below.refl _ _).alloc (Nat.le_refl _) _)⟩
theorem shin_go {w w1 w2 : World} {y mo d h mi s : Int} {g : Bool} {z : Int} (hx : ShIn w w1 y mo d h mi s g z) (k : Below w1.heap.size w1 w2) : ShIn w w2 y mo d h mi s g z :=
  ⟨heldD_below hx.1 k, heldD_below hx.2.1 k, below_go hx.2.2 k⟩
end Go.Proofs.YtaigicdoepdhnaaDoor
