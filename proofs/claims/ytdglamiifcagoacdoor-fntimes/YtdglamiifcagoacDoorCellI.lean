/-
  The memory of the specification's TimesDec: three boxes and the cells.
-/
import Derived.Test.YtdglamiifcagoacDoorTimesD
import Derived.Test.YtdglamiifcagoacDoorCellMath
import Derived.Laws.Cover1
import Derived.Deep.RegionWith
namespace Go.Proofs.YtdglamiifcagoacDoor
open Go.RowKit
set_option linter.unusedSimpArgs false
set_option linter.unusedVariables false
def cellV (xs : List Int) : Array Value := (xs.map (Value.int .i64)).toArray
theorem cellV_get (xs : List Int) (i : Nat) (h : i < xs.length) : (cellV xs)[i]? = some (.int .i64 (xs[i]?.getD 0)) := by
  simp [cellV, List.getElem?_eq_getElem h]
theorem cellV_set (xs : List Int) (i : Nat) (v : Int) : (cellV xs).setIfInBounds i (.int .i64 v) = cellV (xs.set i v) := by
  simp [cellV, List.map_set]
theorem made_cells (n : Nat) : madeCells #[.int .i64 0] n = cellV (List.replicate n 0) := by
  apply Array.ext_getElem?
  intro i
  by_cases h : i < n
  · rw [cellV_get _ i (by simpa using h)]
    simp [madeCells, h, Nat.mod_one]
  · simp [madeCells, cellV, h]
theorem info64 : (Tryd.prog.info? 3).map (fun i => (i.zero, i.size, i.bytes)) = some (some (.int .i64 0), 1, 8) := by kernel_rfl
def TsSt (w wr : World) (g : Nat) (n : Bool) (s : ByteArray) (c : Int) (m : Bool) (t : ByteArray) (d : Int) (L : List Int) : Prop := AddIn w wr n s c m t d ∧ w.heap.size + 1 + 1 < g ∧ wr.heap[g]? = some (.cells (cellV L) 3 (0, 0))
theorem ts_cell {w wr : World} {g : Nat} {n m : Bool} {s t : ByteArray} {c d : Int} {L : List Int} (h : TsSt w wr g n s c m t d L) (i : Nat) (hi : i < L.length) : wr.cell? ⟨g, i, none⟩ = some (.int .i64 (L[i]?.getD 0)) ∧ wr.frozen? ⟨g, i, none⟩ = false :=
  ⟨by rw [cell_of_row wr _ i _ _ (0, 0) h.2.2, cellV_get L i hi], frozen_of_row wr _ i _ _ h.2.2⟩
theorem ts_go {w wr w2 : World} {g : Nat} {n m : Bool} {s t : ByteArray} {c d : Int} {L : List Int} (h : TsSt w wr g n s c m t d L) (k : Below wr.heap.size wr w2) : TsSt w w2 g n s c m t d L :=
  ⟨addin_go h.1 k, h.2.1, (k.block _ (Array.getElem?_eq_some_iff.1 h.2.2).1).trans h.2.2⟩
theorem ts_set {w wr : World} {g : Nat} {n m : Bool} {s t : ByteArray} {c d : Int} {L : List Int} (h : TsSt w wr g n s c m t d L) (i : Nat) (v : Int) : TsSt w (wr.setCell ⟨g, i, none⟩ (.int .i64 v)) g n s c m t d (L.set i v) := by
  obtain ⟨⟨⟨T1, h1⟩, ⟨T2, h2⟩, ⟨T3, h3⟩, h4⟩, h5, h6⟩ := h
  have hb : ∀ k, k ≠ g → (wr.setCell ⟨g, i, none⟩ (.int .i64 v)).heap[k]? = wr.heap[k]? := fun k hk => Below.heap_setCell wr ⟨g, i, none⟩ _ k hk
  refine ⟨⟨⟨T1, (hb _ (by omega)).trans h1⟩, ⟨T2, (hb _ (by omega)).trans h2⟩, ⟨T3, (hb _ (by omega)).trans h3⟩, h4.setCell (by show w.heap.size ≤ g; omega) _⟩, h5, ?_⟩
  rw [heap_setCell_same wr _ i _ _ _ h6, cellV_set]
theorem ts_drew {w wr : World} {g : Nat} {n m : Bool} {s t : ByteArray} {c d : Int} {L : List Int} (h : TsSt w wr g n s c m t d L) : TsSt w wr.drew g n s c m t d L := ts_go h ⟨rfl, rfl, rfl, Nat.le_refl _, fun _ _ => rfl⟩
theorem dgt_at (s : ByteArray) (i x : Nat) (h : i < s.size) (hx : s[i].toNat = x) (h0 : 48 ≤ x) : ((dgt (s.data.toList[i]'(by simpa using h)) : Nat) : Int) = (x : Int) - 48 := by
  have e : (s.data.toList[i]'(by simpa using h)).toNat = x := hx
  unfold dgt; rw [e]; omega
theorem ts_new {w w1 : World} {n m : Bool} {s t : ByteArray} {c d : Int} (h : AddIn w w1 n s c m t d) (k : Nat) : TsSt w (w1.alloc (.cells (madeCells #[.int .i64 0] k) 3)) w1.heap.size n s c m t d (List.replicate k 0) :=
  ⟨addin_go h ((Below.refl _ _).alloc (Nat.le_refl _) _), heldN_lt h.2.2.1, by rw [heap_alloc_new, made_cells]⟩
def OuSt (w wr : World) (g q : Nat) (n : Bool) (s : ByteArray) (c : Int) (m : Bool) (t : ByteArray) (d : Int) (L U : List Int) : Prop := TsSt w wr g n s c m t d L ∧ g < q ∧ wr.heap[q]? = some (.cells (rowV U) 5 (0, 0))
theorem ou_new {w wr : World} {g : Nat} {n m : Bool} {s t : ByteArray} {c d : Int} {L : List Int} (h : TsSt w wr g n s c m t d L) (k : Nat) : OuSt w (wr.alloc (.cells (madeCells #[.int .u8 0] k) 5)) g wr.heap.size n s c m t d L (List.replicate k 0) :=
  ⟨ts_go h ((Below.refl _ _).alloc (Nat.le_refl _) _), (Array.getElem?_eq_some_iff.1 h.2.2).1, by rw [heap_alloc_new, made_row]⟩
theorem ou_go {w wr w2 : World} {g q : Nat} {n m : Bool} {s t : ByteArray} {c d : Int} {L U : List Int} (h : OuSt w wr g q n s c m t d L U) (k : Below wr.heap.size wr w2) : OuSt w w2 g q n s c m t d L U :=
  ⟨ts_go h.1 k, h.2.1, (k.block _ (Array.getElem?_eq_some_iff.1 h.2.2).1).trans h.2.2⟩
theorem ou_drew {w wr : World} {g q : Nat} {n m : Bool} {s t : ByteArray} {c d : Int} {L U : List Int} (h : OuSt w wr g q n s c m t d L U) : OuSt w wr.drew g q n s c m t d L U := ou_go h ⟨rfl, rfl, rfl, Nat.le_refl _, fun _ _ => rfl⟩
theorem ou_cell {w wr : World} {g q : Nat} {n m : Bool} {s t : ByteArray} {c d : Int} {L U : List Int} (h : OuSt w wr g q n s c m t d L U) (i : Nat) (hi : i < U.length) : wr.cell? ⟨q, i, none⟩ = some (.int .u8 (U[i]?.getD 0)) ∧ wr.frozen? ⟨q, i, none⟩ = false :=
  ⟨by rw [cell_of_row wr _ i _ _ (0, 0) h.2.2, rowV_get U i hi], frozen_of_row wr _ i _ _ h.2.2⟩
theorem ou_set {w wr : World} {g q : Nat} {n m : Bool} {s t : ByteArray} {c d : Int} {L U : List Int} (h : OuSt w wr g q n s c m t d L U) (i : Nat) (v : Int) : OuSt w (wr.setCell ⟨q, i, none⟩ (.int .u8 v)) g q n s c m t d L (U.set i v) := by
  obtain ⟨⟨⟨⟨T1, h1⟩, ⟨T2, h2⟩, ⟨T3, h3⟩, h4⟩, h5, h6⟩, h7, h8⟩ := h
  have hb : ∀ k, k ≠ q → (wr.setCell ⟨q, i, none⟩ (.int .u8 v)).heap[k]? = wr.heap[k]? := fun k hk => Below.heap_setCell wr ⟨q, i, none⟩ _ k hk
  refine ⟨⟨⟨⟨T1, (hb _ (by omega)).trans h1⟩, ⟨T2, (hb _ (by omega)).trans h2⟩, ⟨T3, (hb _ (by omega)).trans h3⟩, h4.setCell (by show w.heap.size ≤ q; omega) _⟩, h5, (hb _ (by omega)).trans h6⟩, h7, ?_⟩
  rw [heap_setCell_same wr _ i _ _ _ h8, rowV_set]
def dgs (U : List Int) : List Int := U.map fun x => x - 48
theorem dgs_set (U : List Int) (i : Nat) (r : Int) : dgs (U.set i (48 + r)) = (dgs U).set i r := by
  unfold dgs; rw [List.map_set, show 48 + r - 48 = r by omega]
theorem dgs_back (U : List Int) : (dgs U).map (fun x => 48 + x) = U := by
  unfold dgs; rw [List.map_map]
  have e : ((fun x : Int => 48 + x) ∘ fun x : Int => x - 48) = id := by funext x; show 48 + (x - 48) = x; omega
  rw [e, List.map_id]
theorem ok_drop {D : List Int} {i : Nat} {r : Int} (hi : i < D.length) (h : rowOK (D.drop (i + 1))) (h0 : 0 ≤ r) (h9 : r ≤ 9) : rowOK ((D.set i r).drop i) := by
  rw [List.drop_eq_getElem_cons (l := D.set i r) (i := i) (by rw [List.length_set]; exact hi), List.getElem_set_self, List.drop_set_of_lt (by omega)]
  intro x hx
  rcases List.mem_cons.1 hx with rfl | hx
  · exact ⟨h0, h9⟩
  · exact h x hx
theorem prod_lt {a b i k : Nat} (h1 : a < 10 ^ i) (h2 : b < 10 ^ k) : (a : Int) * b < 10 ^ (i + k + 1) := by
  have h3 : a * b < 10 ^ i * 10 ^ k := Nat.mul_lt_mul'' h1 h2
  have h4 : 10 ^ i * 10 ^ k ≤ 10 ^ (i + k + 1) := by rw [← Nat.pow_add]; exact Nat.pow_le_pow_right (by omega) (by omega)
  exact_mod_cast Nat.lt_of_lt_of_le h3 h4
theorem cell_dg {s : ByteArray} (h : digsB s = true) : dgL s.data.toList := fun x hx => by
  obtain ⟨i, hi, rfl⟩ := List.getElem_of_mem hx
  have := digsB_at s h i (by simpa using hi)
  simp only [digitB, decide_eq_true_eq] at this
  have e : (s.data.toList[i]).toNat = (s[i]'(by simpa using hi)).toNat := rfl
  rw [e]; omega
/-- No cell is below nought nor above 'b'. -/
def cellOK (L : List Int) (b : Int) : Prop := ∀ x ∈ L, 0 ≤ x ∧ x ≤ b
theorem cell_at {L : List Int} {b : Int} (h : cellOK L b) (i : Nat) (hi : i < L.length) : 0 ≤ L[i]?.getD 0 ∧ L[i]?.getD 0 ≤ b := by
  rw [List.getElem?_eq_getElem hi]; exact h _ (List.getElem_mem _)
theorem cell_set {L : List Int} {b b2 : Int} (h : cellOK L b) (hb : b ≤ b2) {k : Nat} {v : Int} (h0 : 0 ≤ v) (h9 : v ≤ b2) : cellOK (L.set k v) b2 := fun x hx => by
  rcases List.mem_or_eq_of_mem_set hx with hx | rfl
  · have := h x hx; omega
  · exact ⟨h0, h9⟩
theorem cell_zero (k : Nat) (b : Int) (hb : 0 ≤ b) : cellOK (List.replicate k 0) b := fun x hx => by
  rw [List.eq_of_mem_replicate hx]; omega
end Go.Proofs.YtdglamiifcagoacDoor
