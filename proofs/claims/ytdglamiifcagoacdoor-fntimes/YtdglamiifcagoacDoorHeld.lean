/-
  Three boxes laid one behind another: two numbers that were handed in, and the answer's place.
-/
import Derived.Test.YtdglamiifcagoacDoorNormS
namespace Go.Proofs.YtdglamiifcagoacDoor
open Go.RowKit
def HeldN (w : World) (B : Nat) (n : Bool) (s : ByteArray) (c : Int) : Prop := ∃ T, w.heap[B]? = some (.cells #[.bool n, .string s, .int .i64 c] T (0, 0))
theorem heldN_lt {w : World} {B : Nat} {n : Bool} {s : ByteArray} {c : Int} (h : HeldN w B n s c) : B < w.heap.size := by
  obtain ⟨T, h⟩ := h
  exact (Array.getElem?_eq_some_iff.1 h).1
theorem heldN_new (w : World) (n : Bool) (s : ByteArray) (c : Int) (T : TypeId) : HeldN (w.alloc (.cells #[.bool n, .string s, .int .i64 c] T)) w.heap.size n s c := ⟨T, heap_alloc_new w _⟩
theorem heldN_below {w w1 : World} {B : Nat} {n : Bool} {s : ByteArray} {c : Int} (h : HeldN w B n s c) (k : Below w.heap.size w w1) : HeldN w1 B n s c := by
  have hl := heldN_lt h
  obtain ⟨T, h⟩ := h
  exact ⟨T, (k.block B hl).trans h⟩
theorem heldN_alloc {w : World} {B : Nat} {n : Bool} {s : ByteArray} {c : Int} (h : HeldN w B n s c) (o : Obj) : HeldN (w.alloc o) B n s c := heldN_below h ((Below.refl _ _).alloc (Nat.le_refl _) _)
theorem heldN_cells {w : World} {B : Nat} {n : Bool} {s : ByteArray} {c : Int} (h : HeldN w B n s c) :
    (w.cell? ⟨B, 0, none⟩ = some (.bool n) ∧ w.cell? ⟨B, 1, none⟩ = some (.string s) ∧ w.cell? ⟨B, 2, none⟩ = some (.int .i64 c)) ∧ (w.frozen? ⟨B, 0, none⟩ = false ∧ w.frozen? ⟨B, 1, none⟩ = false ∧ w.frozen? ⟨B, 2, none⟩ = false) := by
  obtain ⟨T, h⟩ := h
  exact ⟨⟨by rw [cell_of_row w B 0 _ T (0, 0) h]; rfl, by rw [cell_of_row w B 1 _ T (0, 0) h]; rfl, by rw [cell_of_row w B 2 _ T (0, 0) h]; rfl⟩, frozen_of_row w B 0 _ T h, frozen_of_row w B 1 _ T h, frozen_of_row w B 2 _ T h⟩
theorem heldN_three {w : World} {B : Nat} {n : Bool} {s : ByteArray} {c : Int} (h : HeldN w B n s c) (x y z : Value) :
    (((w.setCell ⟨B, 0, none⟩ x).setCell ⟨B, 1, none⟩ y).setCell ⟨B, 2, none⟩ z).cell? ⟨B, 0, none⟩ = some x ∧ (((w.setCell ⟨B, 0, none⟩ x).setCell ⟨B, 1, none⟩ y).setCell ⟨B, 2, none⟩ z).cell? ⟨B, 1, none⟩ = some y ∧ (((w.setCell ⟨B, 0, none⟩ x).setCell ⟨B, 1, none⟩ y).setCell ⟨B, 2, none⟩ z).cell? ⟨B, 2, none⟩ = some z := by
  obtain ⟨T, h⟩ := h
  exact set_three h x y z
/-- The memory of a call with two numbers handed in and one answered. -/
def AddIn (w w1 : World) (n : Bool) (s : ByteArray) (c : Int) (m : Bool) (t : ByteArray) (d : Int) : Prop :=
  HeldN w1 w.heap.size n s c ∧ HeldN w1 (w.heap.size + 1) m t d ∧ HeldN w1 (w.heap.size + 1 + 1) false ⟨#[]⟩ 0 ∧ Below w.heap.size w w1
theorem addin_new (w : World) (n : Bool) (s : ByteArray) (c : Int) (m : Bool) (t : ByteArray) (d : Int) (T : TypeId) :
    AddIn w (((w.alloc (.cells #[.bool n, .string s, .int .i64 c] T)).alloc (.cells #[.bool m, .string t, .int .i64 d] T)).alloc (.cells #[.bool false, .string ⟨#[]⟩, .int .i64 0] T)) n s c m t d := by
  obtain ⟨w1, h1⟩ : ∃ w1, w.alloc (.cells #[.bool n, .string s, .int .i64 c] T) = w1 := ⟨_, rfl⟩
  obtain ⟨w2, h2⟩ : ∃ w2, w1.alloc (.cells #[.bool m, .string t, .int .i64 d] T) = w2 := ⟨_, rfl⟩
  have s1 : w1.heap.size = w.heap.size + 1 := by rw [← h1]; simp
  have s2 : w2.heap.size = w.heap.size + 1 + 1 := by rw [← h2]; simp [s1]
  have b1 : Below w.heap.size w w1 := by rw [← h1]; exact (Below.refl _ _).alloc (Nat.le_refl _) _
  have b2 : Below w1.heap.size w1 w2 := by rw [← h2]; exact (Below.refl _ _).alloc (Nat.le_refl _) _
  have n1 : HeldN w1 w.heap.size n s c := by rw [← h1]; exact heldN_new w n s c T
  have n2 : HeldN w2 (w.heap.size + 1) m t d := by rw [← h2, ← s1]; exact heldN_new w1 m t d T
  have n3 : HeldN (w2.alloc (.cells #[.bool false, .string ⟨#[]⟩, .int .i64 0] T)) (w.heap.size + 1 + 1) false ⟨#[]⟩ 0 := by rw [← s2]; exact heldN_new w2 false ⟨#[]⟩ 0 T
  rw [h1, h2]
  exact ⟨heldN_alloc (heldN_below n1 b2) _, heldN_alloc n2 _, n3, below_go (below_go b1 b2) ((Below.refl _ _).alloc (Nat.le_refl _) _)⟩
theorem addin_go {w w1 w2 : World} {n m : Bool} {s t : ByteArray} {c d : Int} (h : AddIn w w1 n s c m t d) (k : Below w1.heap.size w1 w2) : AddIn w w2 n s c m t d :=
  ⟨heldN_below h.1 k, heldN_below h.2.1 k, heldN_below h.2.2.1 k, below_go h.2.2.2 k⟩
theorem below_set3 {w w1 : World} {B : Nat} (h : Below w.heap.size w w1) (hB : w.heap.size ≤ B) (x y z : Value) : Below w.heap.size w (((w1.setCell ⟨B, 0, none⟩ x).setCell ⟨B, 1, none⟩ y).setCell ⟨B, 2, none⟩ z) :=
  ((h.setCell hB _).setCell hB _).setCell hB _
theorem undrew1 {w wn : World} (h : Below w.drew.heap.size w.drew wn) : Below w.heap.size w wn := ⟨h.os, h.tape, h.output, h.size, h.block⟩
end Go.Proofs.YtdglamiifcagoacDoor
