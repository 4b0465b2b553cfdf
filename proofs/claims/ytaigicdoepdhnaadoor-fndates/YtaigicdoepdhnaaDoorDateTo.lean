/-
  Contracts: the laws' own helpers over dates: the copy; a date that lies in a block of its own.
-/
import Derived.Test.YtaigicdoepdhnaaDoorDates
namespace Go.Proofs.YtaigicdoepdhnaaDoor
open Go.RowKit
set_option linter.unusedSimpArgs false
set_option linter.unusedVariables false
theorem box_below {w w1 : World} {c : Array Value} {t : TypeId} (h : Below (w.alloc (.cells c t)).heap.size (w.alloc (.cells c t)) w1) : Below w.heap.size w w1 :=
  ((Below.refl w.heap.size w).alloc (Nat.le_refl _) _).trans (h.mono (by simp))
theorem below_go {w w1 w2 : World} (h : Below w.heap.size w w1) (k : Below w1.heap.size w1 w2) : Below w.heap.size w w2 := h.trans (k.mono h.size)
theorem below_box (w : World) (o : Obj) : Below w.heap.size w (w.alloc o) := (Below.refl _ _).alloc (Nat.le_refl _) o
/-- A date that lies in a block of its own is read there behind whatever came later. -/
def DBox (w : World) (G : Nat) (y mo d h mi s : Int) (g : Bool) (z : Int) : Prop :=
  G < w.heap.size ∧ w.cell? ⟨G, 0, none⟩ = some (.int .i64 y) ∧ w.cell? ⟨G, 1, none⟩ = some (.int .i64 mo) ∧ w.cell? ⟨G, 2, none⟩ = some (.int .i64 d) ∧ w.cell? ⟨G, 3, none⟩ = some (.int .i64 h) ∧ w.cell? ⟨G, 4, none⟩ = some (.int .i64 mi) ∧ w.cell? ⟨G, 5, none⟩ = some (.int .i64 s) ∧ w.cell? ⟨G, 6, none⟩ = some (.bool g) ∧ w.cell? ⟨G, 7, none⟩ = some (.int .i64 z)
theorem dbox_new (w : World) (y mo d h mi s : Int) (g : Bool) (z : Int) (t : TypeId) : DBox (w.alloc (.cells #[.int .i64 y, .int .i64 mo, .int .i64 d, .int .i64 h, .int .i64 mi, .int .i64 s, .bool g, .int .i64 z] t)) w.heap.size y mo d h mi s g z := by
  have e : ∀ i, (w.alloc (.cells #[.int .i64 y, .int .i64 mo, .int .i64 d, .int .i64 h, .int .i64 mi, .int .i64 s, .bool g, .int .i64 z] t)).cell? ⟨w.heap.size, i, none⟩ = (#[.int .i64 y, .int .i64 mo, .int .i64 d, .int .i64 h, .int .i64 mi, .int .i64 s, .bool g, .int .i64 z] : Array Value)[i]? := fun i => by
    rw [cell_of_row _ w.heap.size i _ t (0, 0) (heap_alloc_new w _)]
  exact ⟨by simp, e 0, e 1, e 2, e 3, e 4, e 5, e 6, e 7⟩
theorem dbox_go {w w1 : World} {G : Nat} {y mo d h mi s : Int} {g : Bool} {z : Int} (hx : DBox w G y mo d h mi s g z) (k : Below w.heap.size w w1) : DBox w1 G y mo d h mi s g z := by
  obtain ⟨h0, c0, c1, c2, c3, c4, c5, c6, c7⟩ := hx
  exact ⟨Nat.lt_of_lt_of_le h0 k.size, (k.cell (p := ⟨G, 0, none⟩) h0).trans c0, (k.cell (p := ⟨G, 1, none⟩) h0).trans c1, (k.cell (p := ⟨G, 2, none⟩) h0).trans c2, (k.cell (p := ⟨G, 3, none⟩) h0).trans c3, (k.cell (p := ⟨G, 4, none⟩) h0).trans c4, (k.cell (p := ⟨G, 5, none⟩) h0).trans c5, (k.cell (p := ⟨G, 6, none⟩) h0).trans c6, (k.cell (p := ⟨G, 7, none⟩) h0).trans c7⟩
end Go.Proofs.YtaigicdoepdhnaaDoor
