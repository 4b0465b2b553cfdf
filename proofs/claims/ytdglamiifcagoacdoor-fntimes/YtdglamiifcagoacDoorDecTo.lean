/-
  Contracts: the laws' own helpers over numbers: the length that is counted down, the copy.
-/
import Derived.Test.YtdglamiifcagoacDoorDecs
namespace Go.Proofs.YtdglamiifcagoacDoor
open Go.RowKit
set_option linter.unusedSimpArgs false
set_option linter.unusedVariables false
theorem box_below {w w1 : World} {c : Array Value} {t : TypeId} (h : Below (w.alloc (.cells c t)).heap.size (w.alloc (.cells c t)) w1) : Below w.heap.size w w1 :=
  ((Below.refl w.heap.size w).alloc (Nat.le_refl _) _).trans (h.mono (by simp))
theorem below_go {w w1 w2 : World} (h : Below w.heap.size w w1) (k : Below w1.heap.size w1 w2) : Below w.heap.size w w2 := h.trans (k.mono h.size)
/-- A parameter that lies in a new block of its own is read there behind whatever came later. -/
def Boxed (w : World) (G : Nat) (n : Bool) (s : ByteArray) (c : Int) : Prop :=
  G < w.heap.size ∧ w.cell? ⟨G, 0, none⟩ = some (.bool n) ∧ w.cell? ⟨G, 1, none⟩ = some (.string s) ∧ w.cell? ⟨G, 2, none⟩ = some (.int .i64 c)
theorem boxed_new (w : World) (n : Bool) (s : ByteArray) (c : Int) (t : TypeId) : Boxed (w.alloc (.cells #[.bool n, .string s, .int .i64 c] t)) w.heap.size n s c := by
  have e : ∀ i, (w.alloc (.cells #[.bool n, .string s, .int .i64 c] t)).cell? ⟨w.heap.size, i, none⟩ = #[Value.bool n, .string s, .int .i64 c][i]? := fun i => by
    rw [cell_of_row _ w.heap.size i _ t (0, 0) (heap_alloc_new w _)]
  exact ⟨by simp, e 0, e 1, e 2⟩
theorem boxed_go {w w1 : World} {G : Nat} {n : Bool} {s : ByteArray} {c : Int} (h : Boxed w G n s c) (k : Below w.heap.size w w1) : Boxed w1 G n s c :=
  ⟨Nat.lt_of_lt_of_le h.1 k.size, (k.cell (p := ⟨G, 0, none⟩) h.1).trans h.2.1, (k.cell (p := ⟨G, 1, none⟩) h.1).trans h.2.2.1, (k.cell (p := ⟨G, 2, none⟩) h.1).trans h.2.2.2⟩
theorem boxed_two {w w1 : World} {n m : Bool} {s t : ByteArray} {c d : Int} {T U : TypeId}
    (h : Below ((w.alloc (.cells #[.bool n, .string s, .int .i64 c] T)).alloc (.cells #[.bool m, .string t, .int .i64 d] U)).heap.size ((w.alloc (.cells #[.bool n, .string s, .int .i64 c] T)).alloc (.cells #[.bool m, .string t, .int .i64 d] U)) w1) :
    Boxed w1 w.heap.size n s c ∧ Boxed w1 (w.heap.size + 1) m t d ∧ Below w.heap.size w w1 := by
  have h1 := boxed_new w n s c T
  have h2 := boxed_new (w.alloc (.cells #[.bool n, .string s, .int .i64 c] T)) m t d U
  rw [show (w.alloc (.cells #[.bool n, .string s, .int .i64 c] T)).heap.size = w.heap.size + 1 by simp] at h2
  exact ⟨boxed_go (boxed_go h1 ((Below.refl _ _).alloc (Nat.le_refl _) _)) h, boxed_go h2 h, below_go (((Below.refl _ _).alloc (Nat.le_refl _) _).alloc (by simp) _) h⟩
end Go.Proofs.YtdglamiifcagoacDoor
