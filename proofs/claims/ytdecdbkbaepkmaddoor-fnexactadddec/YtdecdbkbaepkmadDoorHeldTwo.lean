/-
  The memory of a law over two numbers: both lie where they were laid; the answer's place is made on the way. Of no function.
-/
import Derived.Test.YtdecdbkbaepkmadDoorHeld
import Derived.Test.YtdecdbkbaepkmadDoorDecTo
import Derived.Lib.SmallJoins
namespace Go.Proofs.YtdecdbkbaepkmadDoor
open Go.RowKit Go.Joins
set_option linter.unusedVariables false
theorem boxed_at {w w1 : World} {G B : Nat} {n : Bool} {s : ByteArray} {c : Int} (h : Boxed w G n s c) (k : Below B w w1) (hG : G < B) : Boxed w1 G n s c :=
  ⟨Nat.lt_of_lt_of_le h.1 k.size, (k.cell (p := ⟨G, 0, none⟩) hG).trans h.2.1, (k.cell (p := ⟨G, 1, none⟩) hG).trans h.2.2.1, (k.cell (p := ⟨G, 2, none⟩) hG).trans h.2.2.2⟩
theorem boxed_of_held {w : World} {B : Nat} {n : Bool} {s : ByteArray} {c : Int} (h : HeldN w B n s c) : Boxed w B n s c :=
  ⟨heldN_lt h, (heldN_cells h).1.1, (heldN_cells h).1.2.1, (heldN_cells h).1.2.2⟩
def TQ (w w1 : World) (q : Nat) (n0 : Bool) (s0 : ByteArray) (c0 : Int) (n1 : Bool) (s1 : ByteArray) (c1 : Int) (n : Bool) (s : ByteArray) (c : Int) : Prop :=
  Boxed w1 w.heap.size n0 s0 c0 ∧ Boxed w1 (w.heap.size + 1) n1 s1 c1 ∧ Boxed w1 q n s c ∧ Below w.heap.size w w1
section
variable {w w1 w2 : World} {q : Nat} {n0 n1 n : Bool} {s0 s1 s : ByteArray} {c0 c1 c : Int}
theorem tq_go (h : TQ w w1 q n0 s0 c0 n1 s1 c1 n s c) (k : Below w1.heap.size w1 w2) : TQ w w2 q n0 s0 c0 n1 s1 c1 n s c :=
  ⟨boxed_go h.1 k, boxed_go h.2.1 k, boxed_go h.2.2.1 k, below_go h.2.2.2 k⟩
theorem tq_drew (h : TQ w w1 q n0 s0 c0 n1 s1 c1 n s c) : TQ w w1.drew q n0 s0 c0 n1 s1 c1 n s c := tq_go h ⟨rfl, rfl, rfl, Nat.le_refl _, fun _ _ => rfl⟩
theorem tq_alloc (h : TQ w w1 q n0 s0 c0 n1 s1 c1 n s c) (o : Obj) : TQ w (w1.alloc o) q n0 s0 c0 n1 s1 c1 n s c := tq_go h ((Below.refl _ _).alloc (Nat.le_refl _) _)
theorem tq_all (h : TQ w w1 q n0 s0 c0 n1 s1 c1 n s c) : TQ w w1 q n0 s0 c0 n1 s1 c1 n s c ∧ w1.cell? ⟨w.heap.size, 0, none⟩ = some (.bool n0) ∧ w1.cell? ⟨w.heap.size, 1, none⟩ = some (.string s0) ∧ w1.cell? ⟨w.heap.size, 2, none⟩ = some (.int .i64 c0) ∧ w1.cell? ⟨w.heap.size + 1, 0, none⟩ = some (.bool n1) ∧ w1.cell? ⟨w.heap.size + 1, 1, none⟩ = some (.string s1) ∧ w1.cell? ⟨w.heap.size + 1, 2, none⟩ = some (.int .i64 c1) :=
  ⟨h, h.1.2.1, h.1.2.2.1, h.1.2.2.2, h.2.1.2.1, h.2.1.2.2.1, h.2.1.2.2.2⟩
/-- The answer's place, made a while ago: still as it was made. -/
def FR (w w1 : World) (q b : Nat) : Prop := HeldN w1 b false ⟨#[]⟩ 0 ∧ w.heap.size + 1 < b ∧ q < b
theorem fr_at {T : TypeId} (h : TQ w w1 q n0 s0 c0 n1 s1 c1 n s c) (k : Below (w1.alloc (.cells #[.bool false, .string ⟨#[]⟩, .int .i64 0] T)).heap.size (w1.alloc (.cells #[.bool false, .string ⟨#[]⟩, .int .i64 0] T)) w2) : FR w w2 q w1.heap.size :=
  ⟨heldN_below (heldN_new w1 false ⟨#[]⟩ 0 T) k, h.2.1.1, h.2.2.1.1⟩
theorem fr_drew {T : TypeId} (h : TQ w w1 q n0 s0 c0 n1 s1 c1 n s c) (k : Below (w1.drew.alloc (.cells #[.bool false, .string ⟨#[]⟩, .int .i64 0] T)).heap.size (w1.drew.alloc (.cells #[.bool false, .string ⟨#[]⟩, .int .i64 0] T)) w2) : FR w w2 q w1.heap.size := by
  have z := fr_at (tq_drew h) k
  exact z
theorem fr_go {b : Nat} (h : FR w w1 q b) (k : Below w1.heap.size w1 w2) : FR w w2 q b := ⟨heldN_below h.1 k, h.2⟩
theorem tq_set {b : Nat} (h : TQ w w1 q n0 s0 c0 n1 s1 c1 n s c) (f : FR w w1 q b) (x y z : Value) : TQ w (((w1.setCell ⟨b, 0, none⟩ x).setCell ⟨b, 1, none⟩ y).setCell ⟨b, 2, none⟩ z) q n0 s0 c0 n1 s1 c1 n s c := by
  have k : Below b w1 (((w1.setCell ⟨b, 0, none⟩ x).setCell ⟨b, 1, none⟩ y).setCell ⟨b, 2, none⟩ z) := (((Below.refl b w1).setCell (Nat.le_refl _) _).setCell (Nat.le_refl _) _).setCell (Nat.le_refl _) _
  have h1 := f.2.1
  exact ⟨boxed_at h.1 k (by omega), boxed_at h.2.1 k h1, boxed_at h.2.2.1 k f.2.2, below_set3 h.2.2.2 (by omega) _ _ _⟩
theorem held_set {B : Nat} (h : HeldN w B n0 s0 c0) (n' : Bool) (s' : ByteArray) (c' : Int) : HeldN (((w.setCell ⟨B, 0, none⟩ (.bool n')).setCell ⟨B, 1, none⟩ (.string s')).setCell ⟨B, 2, none⟩ (.int .i64 c')) B n' s' c' := by
  obtain ⟨T, h0⟩ := h
  have h1 := block_setCell (i := 0) h0 (.bool n')
  have h2 := block_setCell (i := 1) h1 (.string s')
  have h3 := block_setCell (i := 2) h2 (.int .i64 c')
  exact ⟨T, by simpa using h3⟩
theorem tq_new1 (h : TQ w w1 q n0 s0 c0 n1 s1 c1 n s c) (n' : Bool) (s' : ByteArray) (c' : Int) (T : TypeId) : TQ w (w1.alloc (.cells #[.bool n', .string s', .int .i64 c'] T)) w1.heap.size n0 s0 c0 n1 s1 c1 n' s' c' :=
  ⟨(tq_alloc h _).1, (tq_alloc h _).2.1, boxed_new w1 n' s' c' T, (tq_alloc h _).2.2.2⟩
theorem tq_new2 {b : Nat} (h : TQ w w1 q n0 s0 c0 n1 s1 c1 n s c) (f : FR w w1 q b) (n' : Bool) (s' : ByteArray) (c' : Int) : TQ w (((w1.setCell ⟨b, 0, none⟩ (.bool n')).setCell ⟨b, 1, none⟩ (.string s')).setCell ⟨b, 2, none⟩ (.int .i64 c')) b n0 s0 c0 n1 s1 c1 n' s' c' :=
  ⟨(tq_set h f _ _ _).1, (tq_set h f _ _ _).2.1, boxed_of_held (held_set f.1 n' s' c'), (tq_set h f _ _ _).2.2.2⟩
end
end Go.Proofs.YtdecdbkbaepkmadDoor
