/-
  Contract of the draw of a date: whatever the code is, some date; the reader's own place alone is written.
-/
import Derived.Test.YtaigicdoepdhnaaDoorRegInv
import Derived.Test.YtaigicdoepdhnaaDoorDrawOffD
import Derived.Test.YtaigicdoepdhnaaDoorDays
import Derived.Lib.SmallJoins
namespace Go.Proofs.YtaigicdoepdhnaaDoor
open Go.RowKit Go.Joins
set_option linter.unusedVariables false
set_option linter.unusedSimpArgs false
/-- A row of numbers that was built. -/
def SL (N : Nat) (x : Value) (w : World) : Prop := ∃ (B : Nat) (xs : Array Value), x = .slice (some ⟨B, 0, none⟩) N N ∧ w.heap[B]? = some (.cells xs 2 (0, 0)) ∧ xs.size = N ∧ ∀ k, k < N → ∃ y : Int, xs[k]? = some (.int .i64 y)
/-- A number that was drawn. -/
def BL (m : Int) (x : Value) : Prop := ∃ y : Int, x = .int .i64 y ∧ 0 ≤ y ∧ y < m
/-- The address of a number. -/
def AD (x : Value) (w : World) : Prop := ∃ (B o : Nat) (xs : Array Value) (y : Int), x = .pointer (some ⟨B, o, none⟩) ∧ w.heap[B]? = some (.cells xs 2 (0, 0)) ∧ xs[o]? = some (.int .i64 y)
def IN (x : Value) : Prop := ∃ y : Int, x = .int .i64 y
def AG (x : Value) : Prop := ∃ y1 y2 y3 y4 y5 : Int, x = .agg #[.int .i64 y1, .int .i64 y2, .int .i64 0, .int .i64 y3, .int .i64 y4, .int .i64 y5, .bool false, .int .i64 0]
/-- A date lies in block 'B'. -/
def DSh (w : World) (B : Nat) : Prop := ∃ (y mo d h mi s : Int) (g : Bool) (z : Int), w.heap[B]? = some (.cells #[.int .i64 y, .int .i64 mo, .int .i64 d, .int .i64 h, .int .i64 mi, .int .i64 s, .bool g, .int .i64 z] 25 (0, 0))
/-- The address of a date of the call's own. -/
def BX (w0 : World) (x : Value) (w : World) : Prop := ∃ B : Nat, x = .pointer (some ⟨B, 0, none⟩) ∧ w0.heap.size < B ∧ DSh w B
def VV (w0 : World) (G : Nat) (k : Nat) (x : Value) (w : World) : Prop :=
  match k with
  | 0 => SL 7 x w
  | 1 => x = .pointer (some ⟨G, 0, none⟩)
  | 2 => BL 7 x
  | 3 => AD x w
  | 4 => IN x
  | 5 => x = .pointer (some ⟨G, 0, none⟩)
  | 6 => BL 12 x
  | 7 => IN x
  | 8 => SL 4 x w
  | 9 => x = .pointer (some ⟨G, 0, none⟩)
  | 10 => BL 4 x
  | 11 => AD x w
  | 12 => IN x
  | 13 => SL 3 x w
  | 14 => x = .pointer (some ⟨G, 0, none⟩)
  | 15 => BL 3 x
  | 16 => AD x w
  | 17 => IN x
  | 18 => x = .pointer (some ⟨G, 0, none⟩)
  | 19 => BL 60 x
  | 20 => AG x
  | 21 => BX w0 x w
  | 22 => True
  | _ => True
/-- What holds of the world while a date is drawn. -/
def DJ (w0 : World) (G : Nat) (a : Option Addr) (n cap : Nat) (zs : List Int) (w : World) : Prop := RdAt w G a n cap zs ∧ w0.grownBy w (some G) ∧ DSh w w0.heap.size ∧ G < w0.heap.size
section
variable {w0 w w1 : World} {G : Nat} {a : Option Addr} {n cap : Nat} {zs : List Int}
theorem dsh_grown {B : Nat} {row : Option Nat} (h : DSh w B) (hg : w.grownBy w1 row) (hne : some B ≠ row) : DSh w1 B := by
  obtain ⟨y, mo, d, hh, mi, s, g, z, h⟩ := h
  exact ⟨y, mo, d, hh, mi, s, g, z, (hg.block B (Array.getElem?_eq_some_iff.1 h).1 hne).trans h⟩
theorem dsh_lt {B : Nat} (h : DSh w B) : B < w.heap.size := by
  obtain ⟨y, mo, d, hh, mi, s, g, z, h⟩ := h
  exact (Array.getElem?_eq_some_iff.1 h).1
theorem dj_lt (h : DJ w0 G a n cap zs w) : w0.heap.size < w.heap.size := dsh_lt h.2.2.1
theorem dj_alloc (h : DJ w0 G a n cap zs w) (o : Obj) : DJ w0 G a n cap zs (w.alloc o) :=
  ⟨rd_alloc h.1 o, grown_trans h.2.1 (World.grownBy_alloc w o (some G)), dsh_grown h.2.2.1 (World.grownBy_alloc w o none) (by simp), h.2.2.2⟩
theorem dj_drew (h : DJ w0 G a n cap zs w) (hd : Drew G a n cap zs w w1) : DJ w0 G a n cap zs w1 :=
  ⟨hd.1, grown_trans h.2.1 hd.2, dsh_grown h.2.2.1 hd.2 (fun e => by cases e; have := h.2.2.2; omega), h.2.2.2⟩
/-- What stays of the rows and dates behind a step. -/
def Keeps (w0 w w1 : World) : Prop := (∀ (B : Nat) (xs : Array Value), w.heap[B]? = some (Obj.cells xs 2 (0, 0)) → w1.heap[B]? = some (Obj.cells xs 2 (0, 0))) ∧ ∀ B, w0.heap.size < B → DSh w B → DSh w1 B
theorem vv_keeps (h : Keeps w0 w w1) (k : Nat) (x : Value) (hv : VV w0 G k x w) : VV w0 G k x w1 := by
  have s : ∀ N, SL N x w → SL N x w1 := fun N ⟨B, xs, h1, h2, h3⟩ => ⟨B, xs, h1, h.1 B xs h2, h3⟩
  have d : AD x w → AD x w1 := fun ⟨B, o, xs, y, h1, h2, h3⟩ => ⟨B, o, xs, y, h1, h.1 B xs h2, h3⟩
  have b : BX w0 x w → BX w0 x w1 := fun ⟨B, h1, h2, h3⟩ => ⟨B, h1, h2, h.2 B h2 h3⟩
  unfold VV at hv ⊢
  split at hv <;> first | exact s _ hv | exact d hv | exact b hv | exact hv
theorem keeps_alloc (o : Obj) : Keeps w0 w (w.alloc o) :=
  ⟨fun B xs hB => ((World.grownBy_alloc w o none).block B (Array.getElem?_eq_some_iff.1 hB).1 (by simp)).trans hB, fun B _ hd => dsh_grown hd (World.grownBy_alloc w o none) (by simp)⟩
theorem vv_alloc (o : Obj) (k : Nat) (x : Value) (hv : VV w0 G k x w) : VV w0 G k x (w.alloc o) := vv_keeps (keeps_alloc o) k x hv
theorem keeps_drew (hj : DJ w0 G a n cap zs w) (hd : Drew G a n cap zs w w1) : Keeps w0 w w1 := by
  refine ⟨fun B xs hB => ?_, fun B hlt hd' => dsh_grown hd' hd.2 (fun e => by cases e; have := hj.2.2.2; omega)⟩
  refine (hd.2.block B (Array.getElem?_eq_some_iff.1 hB).1 (fun e => ?_)).trans hB
  cases e
  obtain ⟨⟨p, _, hg⟩, _⟩ := hj.1
  rw [hg] at hB
  simp at hB
theorem vv_drew (hj : DJ w0 G a n cap zs w) (hd : Drew G a n cap zs w w1) (k : Nat) (x : Value) (hv : VV w0 G k x w) : VV w0 G k x w1 := vv_keeps (keeps_drew hj hd) k x hv
end
theorem dsh_cells {w : World} {B : Nat} {y mo d h mi s : Int} {g : Bool} {z : Int} {T : TypeId} (hx : w.heap[B]? = some (.cells #[.int .i64 y, .int .i64 mo, .int .i64 d, .int .i64 h, .int .i64 mi, .int .i64 s, .bool g, .int .i64 z] T (0, 0))) :
    (w.cell? ⟨B, 0, none⟩ = some (.int .i64 y) ∧ w.cell? ⟨B, 1, none⟩ = some (.int .i64 mo) ∧ w.cell? ⟨B, 2, none⟩ = some (.int .i64 d) ∧ w.cell? ⟨B, 3, none⟩ = some (.int .i64 h) ∧ w.cell? ⟨B, 4, none⟩ = some (.int .i64 mi) ∧ w.cell? ⟨B, 5, none⟩ = some (.int .i64 s) ∧ w.cell? ⟨B, 6, none⟩ = some (.bool g) ∧ w.cell? ⟨B, 7, none⟩ = some (.int .i64 z)) ∧ (w.frozen? ⟨B, 0, none⟩ = false ∧ w.frozen? ⟨B, 1, none⟩ = false ∧ w.frozen? ⟨B, 2, none⟩ = false ∧ w.frozen? ⟨B, 3, none⟩ = false ∧ w.frozen? ⟨B, 4, none⟩ = false ∧ w.frozen? ⟨B, 5, none⟩ = false ∧ w.frozen? ⟨B, 6, none⟩ = false ∧ w.frozen? ⟨B, 7, none⟩ = false) :=
  ⟨⟨by rw [cell_of_row w B 0 _ T (0, 0) hx]; rfl, by rw [cell_of_row w B 1 _ T (0, 0) hx]; rfl, by rw [cell_of_row w B 2 _ T (0, 0) hx]; rfl, by rw [cell_of_row w B 3 _ T (0, 0) hx]; rfl, by rw [cell_of_row w B 4 _ T (0, 0) hx]; rfl, by rw [cell_of_row w B 5 _ T (0, 0) hx]; rfl, by rw [cell_of_row w B 6 _ T (0, 0) hx]; rfl, by rw [cell_of_row w B 7 _ T (0, 0) hx]; rfl⟩, frozen_of_row w B 0 _ T hx, frozen_of_row w B 1 _ T hx, frozen_of_row w B 2 _ T hx, frozen_of_row w B 3 _ T hx, frozen_of_row w B 4 _ T hx, frozen_of_row w B 5 _ T hx, frozen_of_row w B 6 _ T hx, frozen_of_row w B 7 _ T hx⟩
theorem dsh_set0 {w : World} {B : Nat} (hx : DSh w B) (v : Int) : DSh (w.setCell ⟨B, 0, none⟩ (.int .i64 v)) B := by
  obtain ⟨y, mo, d, h, mi, s, g, z, hx⟩ := hx
  exact ⟨v, mo, d, h, mi, s, g, z, heap_setCell_same w B 0 _ _ _ hx⟩
theorem dsh_set1 {w : World} {B : Nat} (hx : DSh w B) (v : Int) : DSh (w.setCell ⟨B, 1, none⟩ (.int .i64 v)) B := by
  obtain ⟨y, mo, d, h, mi, s, g, z, hx⟩ := hx
  exact ⟨y, v, d, h, mi, s, g, z, heap_setCell_same w B 1 _ _ _ hx⟩
theorem dsh_set2 {w : World} {B : Nat} (hx : DSh w B) (v : Int) : DSh (w.setCell ⟨B, 2, none⟩ (.int .i64 v)) B := by
  obtain ⟨y, mo, d, h, mi, s, g, z, hx⟩ := hx
  exact ⟨y, mo, v, h, mi, s, g, z, heap_setCell_same w B 2 _ _ _ hx⟩
theorem dsh_set3 {w : World} {B : Nat} (hx : DSh w B) (v : Int) : DSh (w.setCell ⟨B, 3, none⟩ (.int .i64 v)) B := by
  obtain ⟨y, mo, d, h, mi, s, g, z, hx⟩ := hx
  exact ⟨y, mo, d, v, mi, s, g, z, heap_setCell_same w B 3 _ _ _ hx⟩
theorem dsh_set4 {w : World} {B : Nat} (hx : DSh w B) (v : Int) : DSh (w.setCell ⟨B, 4, none⟩ (.int .i64 v)) B := by
  obtain ⟨y, mo, d, h, mi, s, g, z, hx⟩ := hx
  exact ⟨y, mo, d, h, v, s, g, z, heap_setCell_same w B 4 _ _ _ hx⟩
theorem dsh_set5 {w : World} {B : Nat} (hx : DSh w B) (v : Int) : DSh (w.setCell ⟨B, 5, none⟩ (.int .i64 v)) B := by
  obtain ⟨y, mo, d, h, mi, s, g, z, hx⟩ := hx
  exact ⟨y, mo, d, h, mi, v, g, z, heap_setCell_same w B 5 _ _ _ hx⟩
theorem dsh_set6 {w : World} {B : Nat} (hx : DSh w B) (v : Bool) : DSh (w.setCell ⟨B, 6, none⟩ (.bool v)) B := by
  obtain ⟨y, mo, d, h, mi, s, g, z, hx⟩ := hx
  exact ⟨y, mo, d, h, mi, s, v, z, heap_setCell_same w B 6 _ _ _ hx⟩
theorem dsh_set7 {w : World} {B : Nat} (hx : DSh w B) (v : Int) : DSh (w.setCell ⟨B, 7, none⟩ (.int .i64 v)) B := by
  obtain ⟨y, mo, d, h, mi, s, g, z, hx⟩ := hx
  exact ⟨y, mo, d, h, mi, s, g, v, heap_setCell_same w B 7 _ _ _ hx⟩
theorem set8_row {w : World} {B : Nat} {y mo d h mi s : Int} {g : Bool} {z : Int} {T : TypeId} (hx : w.heap[B]? = some (.cells #[.int .i64 y, .int .i64 mo, .int .i64 d, .int .i64 h, .int .i64 mi, .int .i64 s, .bool g, .int .i64 z] T (0, 0))) (x0 x1 x2 x3 x4 x5 : Int) (x6 : Bool) (x7 : Int) :
    ((((((((w.setCell ⟨B, 0, none⟩ (.int .i64 x0)).setCell ⟨B, 1, none⟩ (.int .i64 x1)).setCell ⟨B, 2, none⟩ (.int .i64 x2)).setCell ⟨B, 3, none⟩ (.int .i64 x3)).setCell ⟨B, 4, none⟩ (.int .i64 x4)).setCell ⟨B, 5, none⟩ (.int .i64 x5)).setCell ⟨B, 6, none⟩ (.bool x6)).setCell ⟨B, 7, none⟩ (.int .i64 x7)).heap[B]? = some (.cells #[.int .i64 x0, .int .i64 x1, .int .i64 x2, .int .i64 x3, .int .i64 x4, .int .i64 x5, .bool x6, .int .i64 x7] T (0, 0)) := by
  have h0 := block_setCell (i := 0) hx (.int .i64 x0)
  have h1 := block_setCell (i := 1) h0 (.int .i64 x1)
  have h2 := block_setCell (i := 2) h1 (.int .i64 x2)
  have h3 := block_setCell (i := 3) h2 (.int .i64 x3)
  have h4 := block_setCell (i := 4) h3 (.int .i64 x4)
  have h5 := block_setCell (i := 5) h4 (.int .i64 x5)
  have h6 := block_setCell (i := 6) h5 (.bool x6)
  have h7 := block_setCell (i := 7) h6 (.int .i64 x7)
  simpa using h7
theorem grown_set (w : World) (B i : Nat) (v : Value) : w.grownBy (w.setCell ⟨B, i, none⟩ v) (some B) :=
  ⟨rfl, rfl, rfl, by simp, fun k hk hne => Below.heap_setCell w ⟨B, i, none⟩ v k (fun e => hne (by rw [e]))⟩
theorem drew_set {w w3 : World} {G B i : Nat} {a : Option Addr} {m cap : Nat} {zs : List Int} (h : Drew G a m cap zs w w3) (hB : w.heap.size ≤ B) (hG : G < w.heap.size) (v : Value) : Drew G a m cap zs w (w3.setCell ⟨B, i, none⟩ v) :=
  ⟨rd_grown h.1 (grown_set w3 B i v) (fun k hk => by cases hk; omega), ⟨h.2.os, h.2.tape, h.2.output, by have := h.2.size; simpa using this, fun k hk hne => (Below.heap_setCell w3 ⟨B, i, none⟩ v k (by show k ≠ B; omega)).trans (h.2.block k hk hne)⟩⟩
theorem drew_eight {w w3 : World} {G B : Nat} {a : Option Addr} {m cap : Nat} {zs : List Int} (h : Drew G a m cap zs w w3) (hB : w.heap.size ≤ B) (hG : G < w.heap.size) (x0 x1 x2 x3 x4 x5 x6 x7 : Value) : Drew G a m cap zs w ((((((((w3.setCell ⟨B, 0, none⟩ x0).setCell ⟨B, 1, none⟩ x1).setCell ⟨B, 2, none⟩ x2).setCell ⟨B, 3, none⟩ x3).setCell ⟨B, 4, none⟩ x4).setCell ⟨B, 5, none⟩ x5).setCell ⟨B, 6, none⟩ x6).setCell ⟨B, 7, none⟩ x7) :=
  drew_set (drew_set (drew_set (drew_set (drew_set (drew_set (drew_set (drew_set h hB hG x0) hB hG x1) hB hG x2) hB hG x3) hB hG x4) hB hG x5) hB hG x6) hB hG x7
/-- What holds while a date is drawn that lies in block 'B'. -/
def DT (w0 : World) (G : Nat) (a : Option Addr) (n cap : Nat) (zs : List Int) (B : Nat) (w : World) : Prop := DJ w0 G a n cap zs w ∧ w0.heap.size < B ∧ DSh w B
section
variable {w0 w w1 : World} {G B : Nat} {a : Option Addr} {n cap : Nat} {zs : List Int}
theorem dt_alloc (h : DT w0 G a n cap zs B w) (o : Obj) : DT w0 G a n cap zs B (w.alloc o) := ⟨dj_alloc h.1 o, h.2.1, dsh_grown h.2.2 (World.grownBy_alloc w o none) (by simp)⟩
theorem dt_drew (h : DT w0 G a n cap zs B w) (hd : Drew G a n cap zs w w1) : DT w0 G a n cap zs B w1 := ⟨dj_drew h.1 hd, h.2.1, dsh_grown h.2.2 hd.2 (fun e => by cases e; have := h.2.1; have := h.1.2.2.2; omega)⟩
theorem dt_set {i : Nat} {v : Value} (h : DT w0 G a n cap zs B w) (hs : DSh (w.setCell ⟨B, i, none⟩ v) B) : DT w0 G a n cap zs B (w.setCell ⟨B, i, none⟩ v) := by
  have hd : Drew G a n cap zs w0 (w.setCell ⟨B, i, none⟩ v) := drew_set ⟨h.1.1, h.1.2.1⟩ (Nat.le_of_lt h.2.1) h.1.2.2.2 v
  exact ⟨⟨hd.1, hd.2, dsh_grown h.1.2.2.1 (grown_set w B i v) (fun e => by cases e; have := h.2.1; omega), h.1.2.2.2⟩, h.2.1, hs⟩
theorem keeps_set {i : Nat} {v : Value} (h : DT w0 G a n cap zs B w) (hs : DSh (w.setCell ⟨B, i, none⟩ v) B) : Keeps w0 w (w.setCell ⟨B, i, none⟩ v) := by
  refine ⟨fun C xs hC => ?_, fun C hlt hd => ?_⟩
  · refine (Below.heap_setCell w ⟨B, i, none⟩ v C (fun e => ?_)).trans hC
    subst e
    obtain ⟨y, mo, d, hh, mi, s, g, z, hx⟩ := h.2.2
    rw [hx] at hC
    simp at hC
  · by_cases e : C = B
    · subst e; exact hs
    · exact dsh_grown hd (grown_set w B i v) (fun h => e (by cases h; rfl))
theorem keeps_trans {w2 : World} (h : Keeps w0 w w1) (k : Keeps w0 w1 w2) : Keeps w0 w w2 := ⟨fun C xs hC => k.1 C xs (h.1 C xs hC), fun C hlt hd => k.2 C hlt (h.2 C hlt hd)⟩
theorem set8_both (h : DT w0 G a n cap zs B w) (x0 x1 x2 x3 x4 x5 : Int) (x6 : Bool) (x7 : Int) : DT w0 G a n cap zs B ((((((((w.setCell ⟨B, 0, none⟩ (.int .i64 x0)).setCell ⟨B, 1, none⟩ (.int .i64 x1)).setCell ⟨B, 2, none⟩ (.int .i64 x2)).setCell ⟨B, 3, none⟩ (.int .i64 x3)).setCell ⟨B, 4, none⟩ (.int .i64 x4)).setCell ⟨B, 5, none⟩ (.int .i64 x5)).setCell ⟨B, 6, none⟩ (.bool x6)).setCell ⟨B, 7, none⟩ (.int .i64 x7)) ∧ Keeps w0 w ((((((((w.setCell ⟨B, 0, none⟩ (.int .i64 x0)).setCell ⟨B, 1, none⟩ (.int .i64 x1)).setCell ⟨B, 2, none⟩ (.int .i64 x2)).setCell ⟨B, 3, none⟩ (.int .i64 x3)).setCell ⟨B, 4, none⟩ (.int .i64 x4)).setCell ⟨B, 5, none⟩ (.int .i64 x5)).setCell ⟨B, 6, none⟩ (.bool x6)).setCell ⟨B, 7, none⟩ (.int .i64 x7)) := by
  have t0 := dt_set h (dsh_set0 h.2.2 x0)
  have s0 := keeps_set h (dsh_set0 h.2.2 x0)
  have t1 := dt_set t0 (dsh_set1 t0.2.2 x1)
  have s1 := keeps_trans s0 (keeps_set t0 (dsh_set1 t0.2.2 x1))
  have t2 := dt_set t1 (dsh_set2 t1.2.2 x2)
  have s2 := keeps_trans s1 (keeps_set t1 (dsh_set2 t1.2.2 x2))
  have t3 := dt_set t2 (dsh_set3 t2.2.2 x3)
  have s3 := keeps_trans s2 (keeps_set t2 (dsh_set3 t2.2.2 x3))
  have t4 := dt_set t3 (dsh_set4 t3.2.2 x4)
  have s4 := keeps_trans s3 (keeps_set t3 (dsh_set4 t3.2.2 x4))
  have t5 := dt_set t4 (dsh_set5 t4.2.2 x5)
  have s5 := keeps_trans s4 (keeps_set t4 (dsh_set5 t4.2.2 x5))
  have t6 := dt_set t5 (dsh_set6 t5.2.2 x6)
  have s6 := keeps_trans s5 (keeps_set t5 (dsh_set6 t5.2.2 x6))
  have t7 := dt_set t6 (dsh_set7 t6.2.2 x7)
  have s7 := keeps_trans s6 (keeps_set t6 (dsh_set7 t6.2.2 x7))
  exact ⟨t7, s7⟩
theorem dt_set8 (h : DT w0 G a n cap zs B w) (x0 x1 x2 x3 x4 x5 : Int) (x6 : Bool) (x7 : Int) : DT w0 G a n cap zs B ((((((((w.setCell ⟨B, 0, none⟩ (.int .i64 x0)).setCell ⟨B, 1, none⟩ (.int .i64 x1)).setCell ⟨B, 2, none⟩ (.int .i64 x2)).setCell ⟨B, 3, none⟩ (.int .i64 x3)).setCell ⟨B, 4, none⟩ (.int .i64 x4)).setCell ⟨B, 5, none⟩ (.int .i64 x5)).setCell ⟨B, 6, none⟩ (.bool x6)).setCell ⟨B, 7, none⟩ (.int .i64 x7)) := (set8_both h x0 x1 x2 x3 x4 x5 x6 x7).1
theorem keeps_set8 (h : DT w0 G a n cap zs B w) (x0 x1 x2 x3 x4 x5 : Int) (x6 : Bool) (x7 : Int) : Keeps w0 w ((((((((w.setCell ⟨B, 0, none⟩ (.int .i64 x0)).setCell ⟨B, 1, none⟩ (.int .i64 x1)).setCell ⟨B, 2, none⟩ (.int .i64 x2)).setCell ⟨B, 3, none⟩ (.int .i64 x3)).setCell ⟨B, 4, none⟩ (.int .i64 x4)).setCell ⟨B, 5, none⟩ (.int .i64 x5)).setCell ⟨B, 6, none⟩ (.bool x6)).setCell ⟨B, 7, none⟩ (.int .i64 x7)) := (set8_both h x0 x1 x2 x3 x4 x5 x6 x7).2
end
theorem dint_cell {w w1 : World} {G : Nat} {cs : Array Value} {T : TypeId} {x : Int} {N : Nat} (hg : (w.alloc (.cells cs T)).grownBy w1 (some G)) (h0 : 0 ≤ x) (hx : x < N) (hN : cs.size = N) (hG : G < w.heap.size) (hK : ∀ k, k < N → ∃ y : Int, cs[k]? = some (.int .i64 y)) : ∃ y : Int, w1.cell? ⟨w.heap.size, x.toNat, none⟩ = some (.int .i64 y) := by
  have hb := hg.block w.heap.size (by simp) (fun e => by cases e; omega)
  rw [World.cell?_of_block (a := ⟨w.heap.size, x.toNat, none⟩) hb, cell_of_row _ w.heap.size x.toNat _ T (0, 0) (heap_alloc_new w _)]
  exact hK x.toNat (by omega)
def DD : Nat → Nat := fun k => if k ≤ 20 then k + 4 else if k = 21 then 3 else 100
set_option maxRecDepth 100000 in
set_option maxHeartbeats 8000000 in
theorem d_date (G : Nat) (a : Option Addr) (n cap : Nat) (zs : List Int) (w0 : World) (h : RdAt w0 G a n cap zs) :
    Calls Tryd.prog 13 #[.pointer (some ⟨G, 0, none⟩)] w0 fun e w' => ∃ (y mo d h mi s : Int) (g : Bool) (z : Int), e = .returned (.agg #[.int .i64 y, .int .i64 mo, .int .i64 d, .int .i64 h, .int .i64 mi, .int .i64 s, .bool g, .int .i64 z]) ∧ Drew G a n cap zs w0 w' := by
  have hJ : DJ w0 G a n cap zs (w0.alloc (.cells #[.int .i64 0, .int .i64 0, .int .i64 0, .int .i64 0, .int .i64 0, .int .i64 0, .bool false, .int .i64 0] 25)).drew :=
    ⟨rd_alloc h _, grown_trans (World.grownBy_alloc w0 (.cells #[.int .i64 0, .int .i64 0, .int .i64 0, .int .i64 0, .int .i64 0, .int .i64 0, .bool false, .int .i64 0] 25) (some G)) ⟨rfl, rfl, rfl, Nat.le_refl _, fun _ _ _ => rfl⟩, ⟨_, _, _, _, _, _, _, _, heap_alloc_new w0 _⟩, rd_lt h⟩
  have HJ := hide hJ
  clear hJ h
  go_enter Tryd.func13, Tryd.ntmps13
  go_wp2_with fail
  refine wp_region_inv (by kernel_rfl) (by kernel_rfl) (fun u => { tmps := #[.pointer (some ⟨G, 0, none⟩), undef, .pointer (some ⟨w0.heap.size, 0, none⟩), u 3, u 4, u 5, u 6, u 7, u 8, u 9, u 10, u 11, u 12, u 13, u 14, u 15, u 16, u 17, u 18, u 19, u 20, u 21, u 22, u 23, u 24, undef, undef, undef, undef, undef, undef, undef, undef, undef, undef, undef, undef, undef, undef, undef, undef, undef, undef, undef, undef, undef, undef, undef, undef, undef, undef, undef, undef, undef, undef, undef, undef, undef, undef, undef, undef, undef, undef], defers := [] }) DD (VV w0 G) (DJ w0 G a n cap zs) (fun _ => undef) HJ.out ?hput ?hD ?step ?done
  case hput =>
    intro i o ho u v
    have hi := (Array.getElem?_eq_some_iff.1 ho).1
    have hi' : i < 23 := hi
    clear hi
    rcases (show i = 0 ∨ i = 1 ∨ i = 2 ∨ i = 3 ∨ i = 4 ∨ i = 5 ∨ i = 6 ∨ i = 7 ∨ i = 8 ∨ i = 9 ∨ i = 10 ∨ i = 11 ∨ i = 12 ∨ i = 13 ∨ i = 14 ∨ i = 15 ∨ i = 16 ∨ i = 17 ∨ i = 18 ∨ i = 19 ∨ i = 20 ∨ i = 21 ∨ i = 22 by omega) with e | e | e | e | e | e | e | e | e | e | e | e | e | e | e | e | e | e | e | e | e | e | e
    all_goals
      subst e
      obtain rfl := Option.some.inj ho
      rfl
  case hD =>
    intro i k hi hk hne
    have hi' : i < 23 := hi
    have hk' : k < 23 := hk
    unfold DD
    split <;> split <;> (try split) <;> (try split) <;> omega
  case step =>
    intro i o ho u w hj hV K hK
    have hi := (Array.getElem?_eq_some_iff.1 ho).1
    have hi' : i < 23 := hi
    clear hi
    rcases (show i = 0 ∨ i = 1 ∨ i = 2 ∨ i = 3 ∨ i = 4 ∨ i = 5 ∨ i = 6 ∨ i = 7 ∨ i = 8 ∨ i = 9 ∨ i = 10 ∨ i = 11 ∨ i = 12 ∨ i = 13 ∨ i = 14 ∨ i = 15 ∨ i = 16 ∨ i = 17 ∨ i = 18 ∨ i = 19 ∨ i = 20 ∨ i = 21 ∨ i = 22 by omega) with e | e | e | e | e | e | e | e | e | e | e | e | e | e | e | e | e | e | e | e | e | e | e
    all_goals
      subst e
      obtain rfl := Option.some.inj ho
      clear ho hi'
      try dsimp only at hV hK ⊢
    · -- 0
      go_simp
      refine hK _ _ (dj_alloc hj _) ⟨_, _, rfl, heap_alloc_new w _, rfl, fun k hk => ?_⟩ (vv_alloc _)
      rcases (show k = 0 ∨ k = 1 ∨ k = 2 ∨ k = 3 ∨ k = 4 ∨ k = 5 ∨ k = 6 by omega) with e | e | e | e | e | e | e <;> subst e <;> exact ⟨_, rfl⟩
    · -- 1
      go_simp
      exact hK _ _ hj rfl (fun _ _ h => h)
    · -- 2
      have hp : u 5 = .pointer (some ⟨G, 0, none⟩) := hV ⟨1, .data⟩ (by simp) rfl
      rw [hp] at hK ⊢
      go_simp
      refine (d_below G a n cap zs 7 _ (by omega) (by omega) hj.1).mono ?_
      rintro e w1 ⟨x, hx0, hx1, rfl, hd⟩
      exact hK _ _ (dj_drew hj hd) ⟨x, rfl, hx0, hx1⟩ (vv_drew hj hd)
    · -- 3
      obtain ⟨B, xs, e1, hB, hxs, hel⟩ : SL 7 (u 4) w := hV ⟨0, .data⟩ (by simp) rfl
      obtain ⟨x, e2, hx0, hx1⟩ : BL 7 (u 6) := hV ⟨2, .data⟩ (by simp) rfl
      obtain ⟨y, hy⟩ := hel x.toNat (by omega)
      rw [e1, e2] at hK ⊢
      go_simp
      exact hK _ _ hj ⟨B, x.toNat, xs, y, rfl, hB, hy⟩ (fun _ _ h => h)
    · -- 4
      obtain ⟨B, o, xs, y, e1, hB, hy⟩ : AD (u 7) w := hV ⟨3, .data⟩ (by simp) rfl
      have hc : w.cell? ⟨B, o, none⟩ = some (.int .i64 y) := by rw [cell_of_row _ B o xs 2 (0, 0) hB]; exact hy
      rw [e1] at hK ⊢
      go_simp
      exact hK _ _ hj ⟨y, rfl⟩ (fun _ _ h => h)
    · -- 5
      go_simp
      exact hK _ _ hj rfl (fun _ _ h => h)
    · -- 6
      have hp : u 9 = .pointer (some ⟨G, 0, none⟩) := hV ⟨5, .data⟩ (by simp) rfl
      rw [hp] at hK ⊢
      go_simp
      refine (d_below G a n cap zs 12 _ (by omega) (by omega) hj.1).mono ?_
      rintro e w1 ⟨x, hx0, hx1, rfl, hd⟩
      exact hK _ _ (dj_drew hj hd) ⟨x, rfl, hx0, hx1⟩ (vv_drew hj hd)
    · -- 7
      obtain ⟨x, e1, hx0, hx1⟩ : BL 12 (u 10) := hV ⟨6, .data⟩ (by simp) rfl
      rw [e1] at hK ⊢
      go_simp
      exact hK _ _ hj ⟨_, rfl⟩ (fun _ _ h => h)
    · -- 8
      go_simp
      refine hK _ _ (dj_alloc hj _) ⟨_, _, rfl, heap_alloc_new w _, rfl, fun k hk => ?_⟩ (vv_alloc _)
      rcases (show k = 0 ∨ k = 1 ∨ k = 2 ∨ k = 3 by omega) with e | e | e | e <;> subst e <;> exact ⟨_, rfl⟩
    · -- 9
      go_simp
      exact hK _ _ hj rfl (fun _ _ h => h)
    · -- 10
      have hp : u 13 = .pointer (some ⟨G, 0, none⟩) := hV ⟨9, .data⟩ (by simp) rfl
      rw [hp] at hK ⊢
      go_simp
      refine (d_below G a n cap zs 4 _ (by omega) (by omega) hj.1).mono ?_
      rintro e w1 ⟨x, hx0, hx1, rfl, hd⟩
      exact hK _ _ (dj_drew hj hd) ⟨x, rfl, hx0, hx1⟩ (vv_drew hj hd)
    · -- 11
      obtain ⟨B, xs, e1, hB, hxs, hel⟩ : SL 4 (u 12) w := hV ⟨8, .data⟩ (by simp) rfl
      obtain ⟨x, e2, hx0, hx1⟩ : BL 4 (u 14) := hV ⟨10, .data⟩ (by simp) rfl
      obtain ⟨y, hy⟩ := hel x.toNat (by omega)
      rw [e1, e2] at hK ⊢
      go_simp
      exact hK _ _ hj ⟨B, x.toNat, xs, y, rfl, hB, hy⟩ (fun _ _ h => h)
    · -- 12
      obtain ⟨B, o, xs, y, e1, hB, hy⟩ : AD (u 15) w := hV ⟨11, .data⟩ (by simp) rfl
      have hc : w.cell? ⟨B, o, none⟩ = some (.int .i64 y) := by rw [cell_of_row _ B o xs 2 (0, 0) hB]; exact hy
      rw [e1] at hK ⊢
      go_simp
      exact hK _ _ hj ⟨y, rfl⟩ (fun _ _ h => h)
    · -- 13
      go_simp
      refine hK _ _ (dj_alloc hj _) ⟨_, _, rfl, heap_alloc_new w _, rfl, fun k hk => ?_⟩ (vv_alloc _)
      rcases (show k = 0 ∨ k = 1 ∨ k = 2 by omega) with e | e | e <;> subst e <;> exact ⟨_, rfl⟩
    · -- 14
      go_simp
      exact hK _ _ hj rfl (fun _ _ h => h)
    · -- 15
      have hp : u 18 = .pointer (some ⟨G, 0, none⟩) := hV ⟨14, .data⟩ (by simp) rfl
      rw [hp] at hK ⊢
      go_simp
      refine (d_below G a n cap zs 3 _ (by omega) (by omega) hj.1).mono ?_
      rintro e w1 ⟨x, hx0, hx1, rfl, hd⟩
      exact hK _ _ (dj_drew hj hd) ⟨x, rfl, hx0, hx1⟩ (vv_drew hj hd)
    · -- 16
      obtain ⟨B, xs, e1, hB, hxs, hel⟩ : SL 3 (u 17) w := hV ⟨13, .data⟩ (by simp) rfl
      obtain ⟨x, e2, hx0, hx1⟩ : BL 3 (u 19) := hV ⟨15, .data⟩ (by simp) rfl
      obtain ⟨y, hy⟩ := hel x.toNat (by omega)
      rw [e1, e2] at hK ⊢
      go_simp
      exact hK _ _ hj ⟨B, x.toNat, xs, y, rfl, hB, hy⟩ (fun _ _ h => h)
    · -- 17
      obtain ⟨B, o, xs, y, e1, hB, hy⟩ : AD (u 20) w := hV ⟨16, .data⟩ (by simp) rfl
      have hc : w.cell? ⟨B, o, none⟩ = some (.int .i64 y) := by rw [cell_of_row _ B o xs 2 (0, 0) hB]; exact hy
      rw [e1] at hK ⊢
      go_simp
      exact hK _ _ hj ⟨y, rfl⟩ (fun _ _ h => h)
    · -- 18
      go_simp
      exact hK _ _ hj rfl (fun _ _ h => h)
    · -- 19
      have hp : u 22 = .pointer (some ⟨G, 0, none⟩) := hV ⟨18, .data⟩ (by simp) rfl
      rw [hp] at hK ⊢
      go_simp
      refine (d_below G a n cap zs 60 _ (by omega) (by omega) hj.1).mono ?_
      rintro e w1 ⟨x, hx0, hx1, rfl, hd⟩
      exact hK _ _ (dj_drew hj hd) ⟨x, rfl, hx0, hx1⟩ (vv_drew hj hd)
    · -- 20
      obtain ⟨y1, e1⟩ : IN (u 8) := hV ⟨4, .data⟩ (by simp) rfl
      obtain ⟨y2, e2⟩ : IN (u 11) := hV ⟨7, .data⟩ (by simp) rfl
      obtain ⟨y3, e3⟩ : IN (u 16) := hV ⟨12, .data⟩ (by simp) rfl
      obtain ⟨y4, e4⟩ : IN (u 21) := hV ⟨17, .data⟩ (by simp) rfl
      obtain ⟨y5, e5, _, _⟩ : BL 60 (u 23) := hV ⟨19, .data⟩ (by simp) rfl
      rw [e1, e2, e3, e4, e5] at hK ⊢
      go_simp
      exact hK _ _ hj ⟨_, _, _, _, _, rfl⟩ (fun _ _ h => h)
    · -- 21
      go_simp
      exact hK _ _ (dj_alloc hj _) ⟨_, rfl, dj_lt hj, _, _, _, _, _, _, _, _, heap_alloc_new w _⟩ (vv_alloc _)
    · -- 22
      obtain ⟨y1, y2, y3, y4, y5, e1⟩ : AG (u 24) := hV ⟨20, .data⟩ (by simp) rfl
      obtain ⟨B, e2, hlt, hB⟩ : BX w0 (u 3) w := hV ⟨21, .data⟩ (by simp) rfl
      have hDT : DT w0 G a n cap zs B w := ⟨hj, hlt, hB⟩
      have HS := hide (dt_set8 hDT y1 y2 0 y3 y4 y5 false 0)
      have HK := hide (keeps_set8 hDT y1 y2 0 y3 y4 y5 false 0)
      obtain ⟨z1, z2, z3, z4, z5, z6, z7, z8, hB⟩ := hB
      obtain ⟨⟨c0, c1, c2, c3, c4, c5, c6, c7⟩, f0, f1, f2, f3, f4, f5, f6, f7⟩ := dsh_cells hB
      clear hDT hB
      rw [e1, e2] at hK ⊢
      go_simp
      exact hK undef _ HS.out.1 trivial (vv_keeps HK.out)
  case done =>
    intro u w hj hV
    obtain ⟨B, e3, hlt, hB⟩ : BX w0 (u 3) w := hV 21 (by decide)
    have T1 : Hid (DT w0 G a n cap zs B w) := hide ⟨hj, hlt, hB⟩
    have hG := rd_lt hj.1
    clear hj hV hB
    rw [e3]
    clear e3
    have hsh := T1.out.2.2
    obtain ⟨ya, moa, da, ha, mia, sa, ga, za, hsh⟩ := hsh
    obtain ⟨⟨ac0, ac1, -, -, -, -, -, -⟩, af0, af1, -, -, -, -, -, -⟩ := dsh_cells hsh
    clear hsh
    go_wp2_with fail
    refine (s_dim ya moa _).mono ?_
    rintro e w1 ⟨rfl, rfl⟩
    go_wp2_with fail
    refine (d_below G a n cap zs 4 _ (by omega) (by omega) (rd_alloc T1.out.1.1 _)).mono ?_
    rintro e w2 ⟨x, hx0, hx1, rfl, hd⟩
    obtain ⟨v, hv⟩ := dint_cell hd.2 hx0 hx1 rfl hG (fun k hk => by have hk2 : k < 4 := hk; rcases (show k = 0 ∨ k = 1 ∨ k = 2 ∨ k = 3 by omega) with e | e | e | e <;> subst e <;> exact ⟨_, rfl⟩)
    have T2 := hide (dt_drew (dt_alloc T1.out _) hd)
    have T3 := hide (dt_set T2.out (dsh_set2 T2.out.2.2 v))
    clear hd
    have hsh := T2.out.2.2
    obtain ⟨yc, moc, dc, hc, mic, sc, gc, zc, hsh⟩ := hsh
    obtain ⟨⟨-, -, cc2, -, -, -, -, -⟩, -, -, cf2, -, -, -, -, -⟩ := dsh_cells hsh
    clear hsh
    go_wp2_with fail
    refine (d_once G a n cap zs 2 _ (by omega) (by omega) T3.out.1.1).mono ?_
    rintro e w3 ⟨b, rfl, hd⟩
    have T4 := hide (dt_drew T3.out hd)
    have hG3 := rd_lt hd.1
    clear hd hv
    cases b
    · go_wp2_with fail
      refine (d_below G a n cap zs 30 _ (by omega) (by omega) T4.out.1.1).mono ?_
      rintro e w5 ⟨x, hx0, hx1, rfl, hd⟩
      have U1 := hide (dt_drew T4.out hd)
      clear hd
      rcases (show x = 29 ∨ x = 28 ∨ x = 27 ∨ x ≤ 26 by omega) with hx | hx | hx | hx
      · subst hx
        go_wp2_with fail
        refine (d_off_1_31 G a n cap zs _ U1.out.1.1).mono ?_
        rintro e w6 ⟨v, rfl, hd⟩
        have U2 := hide (dt_drew U1.out hd)
        clear hd
        have U3 := hide (dt_set U2.out (dsh_set2 U2.out.2.2 v))
        have hsh := U2.out.2.2
        obtain ⟨yb, mob, db, hb, mib, sb, gb, zb, hsh⟩ := hsh
        obtain ⟨⟨-, -, bc2, -, -, -, -, -⟩, -, -, bf2, -, -, -, -, -⟩ := dsh_cells hsh
        clear hsh
        have hsh := U3.out.2.2
        obtain ⟨yp, mop, dp, hp, mip, sp, gp, zp, hsh⟩ := hsh
        obtain ⟨⟨pc0, pc1, pc2, pc3, pc4, pc5, pc6, pc7⟩, pf0, pf1, pf2, pf3, pf4, pf5, pf6, pf7⟩ := dsh_cells hsh
        clear hsh
        have hrr := U3.out.1.2.2.1
        obtain ⟨yr, mor, dr, hr, mir, sr, gr, zr, hrr⟩ := hrr
        have HC := hide (dsh_cells (set8_row hrr yp mop dp hp mip sp gp zp)).1
        obtain ⟨⟨r0, r1, r2, r3, r4, r5, r6, r7⟩, q0, q1, q2, q3, q4, q5, q6, q7⟩ := dsh_cells hrr
        have HE := hide (drew_eight (B := w0.heap.size) ⟨U3.out.1.1, U3.out.1.2.1⟩ (Nat.le_refl _) U3.out.1.2.2.2 (.int .i64 yp) (.int .i64 mop) (.int .i64 dp) (.int .i64 hp) (.int .i64 mip) (.int .i64 sp) (.bool gp) (.int .i64 zp))
        clear hrr
        go_wp2
        obtain ⟨t0, t1, t2, t3, t4, t5, t6, t7⟩ := HC.out
        exact bodyPost_ret (v := .agg #[.int .i64 yp, .int .i64 mop, .int .i64 dp, .int .i64 hp, .int .i64 mip, .int .i64 sp, .bool gp, .int .i64 zp]) (by simp [results, Tryd.results13, go_sem, t0, t1, t2, t3, t4, t5, t6, t7]) rfl ⟨_, _, _, _, _, _, _, _, rfl, HE.out⟩
      · subst hx
        go_wp2_with fail
        refine (d_off_m840_840 G a n cap zs _ U1.out.1.1).mono ?_
        rintro e w6 ⟨v, rfl, hd⟩
        have U2 := hide (dt_drew U1.out hd)
        clear hd
        have U3 := hide (dt_set U2.out (dsh_set7 U2.out.2.2 v))
        have hsh := U2.out.2.2
        obtain ⟨yb, mob, db, hb, mib, sb, gb, zb, hsh⟩ := hsh
        obtain ⟨⟨-, -, -, -, -, -, -, bc7⟩, -, -, -, -, -, -, -, bf7⟩ := dsh_cells hsh
        clear hsh
        have hsh := U3.out.2.2
        obtain ⟨yp, mop, dp, hp, mip, sp, gp, zp, hsh⟩ := hsh
        obtain ⟨⟨pc0, pc1, pc2, pc3, pc4, pc5, pc6, pc7⟩, pf0, pf1, pf2, pf3, pf4, pf5, pf6, pf7⟩ := dsh_cells hsh
        clear hsh
        have hrr := U3.out.1.2.2.1
        obtain ⟨yr, mor, dr, hr, mir, sr, gr, zr, hrr⟩ := hrr
        have HC := hide (dsh_cells (set8_row hrr yp mop dp hp mip sp gp zp)).1
        obtain ⟨⟨r0, r1, r2, r3, r4, r5, r6, r7⟩, q0, q1, q2, q3, q4, q5, q6, q7⟩ := dsh_cells hrr
        have HE := hide (drew_eight (B := w0.heap.size) ⟨U3.out.1.1, U3.out.1.2.1⟩ (Nat.le_refl _) U3.out.1.2.2.2 (.int .i64 yp) (.int .i64 mop) (.int .i64 dp) (.int .i64 hp) (.int .i64 mip) (.int .i64 sp) (.bool gp) (.int .i64 zp))
        clear hrr
        go_wp2
        obtain ⟨t0, t1, t2, t3, t4, t5, t6, t7⟩ := HC.out
        exact bodyPost_ret (v := .agg #[.int .i64 yp, .int .i64 mop, .int .i64 dp, .int .i64 hp, .int .i64 mip, .int .i64 sp, .bool gp, .int .i64 zp]) (by simp [results, Tryd.results13, go_sem, t0, t1, t2, t3, t4, t5, t6, t7]) rfl ⟨_, _, _, _, _, _, _, _, rfl, HE.out⟩
      · subst hx
        go_wp2_with fail
        refine (d_off_1_9999 G a n cap zs _ U1.out.1.1).mono ?_
        rintro e w6 ⟨v, rfl, hd⟩
        have U2 := hide (dt_drew U1.out hd)
        clear hd
        have U3 := hide (dt_set U2.out (dsh_set0 U2.out.2.2 v))
        have hsh := U2.out.2.2
        obtain ⟨yb, mob, db, hb, mib, sb, gb, zb, hsh⟩ := hsh
        obtain ⟨⟨bc0, -, -, -, -, -, -, -⟩, bf0, -, -, -, -, -, -, -⟩ := dsh_cells hsh
        clear hsh
        have hsh := U3.out.2.2
        obtain ⟨yp, mop, dp, hp, mip, sp, gp, zp, hsh⟩ := hsh
        obtain ⟨⟨pc0, pc1, pc2, pc3, pc4, pc5, pc6, pc7⟩, pf0, pf1, pf2, pf3, pf4, pf5, pf6, pf7⟩ := dsh_cells hsh
        clear hsh
        have hrr := U3.out.1.2.2.1
        obtain ⟨yr, mor, dr, hr, mir, sr, gr, zr, hrr⟩ := hrr
        have HC := hide (dsh_cells (set8_row hrr yp mop dp hp mip sp gp zp)).1
        obtain ⟨⟨r0, r1, r2, r3, r4, r5, r6, r7⟩, q0, q1, q2, q3, q4, q5, q6, q7⟩ := dsh_cells hrr
        have HE := hide (drew_eight (B := w0.heap.size) ⟨U3.out.1.1, U3.out.1.2.1⟩ (Nat.le_refl _) U3.out.1.2.2.2 (.int .i64 yp) (.int .i64 mop) (.int .i64 dp) (.int .i64 hp) (.int .i64 mip) (.int .i64 sp) (.bool gp) (.int .i64 zp))
        clear hrr
        go_wp2
        obtain ⟨t0, t1, t2, t3, t4, t5, t6, t7⟩ := HC.out
        exact bodyPost_ret (v := .agg #[.int .i64 yp, .int .i64 mop, .int .i64 dp, .int .i64 hp, .int .i64 mip, .int .i64 sp, .bool gp, .int .i64 zp]) (by simp [results, Tryd.results13, go_sem, t0, t1, t2, t3, t4, t5, t6, t7]) rfl ⟨_, _, _, _, _, _, _, _, rfl, HE.out⟩
      · have hsh := U1.out.2.2
        obtain ⟨yp, mop, dp, hp, mip, sp, gp, zp, hsh⟩ := hsh
        obtain ⟨⟨pc0, pc1, pc2, pc3, pc4, pc5, pc6, pc7⟩, pf0, pf1, pf2, pf3, pf4, pf5, pf6, pf7⟩ := dsh_cells hsh
        clear hsh
        have hrr := U1.out.1.2.2.1
        obtain ⟨yr, mor, dr, hr, mir, sr, gr, zr, hrr⟩ := hrr
        have HC := hide (dsh_cells (set8_row hrr yp mop dp hp mip sp gp zp)).1
        obtain ⟨⟨r0, r1, r2, r3, r4, r5, r6, r7⟩, q0, q1, q2, q3, q4, q5, q6, q7⟩ := dsh_cells hrr
        have HE := hide (drew_eight (B := w0.heap.size) ⟨U1.out.1.1, U1.out.1.2.1⟩ (Nat.le_refl _) U1.out.1.2.2.2 (.int .i64 yp) (.int .i64 mop) (.int .i64 dp) (.int .i64 hp) (.int .i64 mip) (.int .i64 sp) (.bool gp) (.int .i64 zp))
        clear hrr
        have n1 : (x == 29) = false := by simp; omega
        have n2 : (x == 28) = false := by simp; omega
        have n3 : (x == 27) = false := by simp; omega
        go_wp2
        obtain ⟨t0, t1, t2, t3, t4, t5, t6, t7⟩ := HC.out
        exact bodyPost_ret (v := .agg #[.int .i64 yp, .int .i64 mop, .int .i64 dp, .int .i64 hp, .int .i64 mip, .int .i64 sp, .bool gp, .int .i64 zp]) (by simp [results, Tryd.results13, go_sem, t0, t1, t2, t3, t4, t5, t6, t7]) rfl ⟨_, _, _, _, _, _, _, _, rfl, HE.out⟩
    · have T5 := hide (dt_set T4.out (dsh_set6 T4.out.2.2 true))
      have hsh := T4.out.2.2
      obtain ⟨ye, moe, de, he, mie, se, ge, ze, hsh⟩ := hsh
      obtain ⟨⟨-, -, -, -, -, -, ec6, -⟩, -, -, -, -, -, -, ef6, -⟩ := dsh_cells hsh
      clear hsh
      go_wp2_with fail
      refine (d_below G a n cap zs 6 _ (by omega) (by omega) (rd_alloc T5.out.1.1 _)).mono ?_
      rintro e w4 ⟨x, hx0, hx1, rfl, hd⟩
      obtain ⟨v, hv⟩ := dint_cell hd.2 hx0 hx1 rfl (rd_lt T5.out.1.1) (fun k hk => by have hk2 : k < 6 := hk; rcases (show k = 0 ∨ k = 1 ∨ k = 2 ∨ k = 3 ∨ k = 4 ∨ k = 5 by omega) with e | e | e | e | e | e <;> subst e <;> exact ⟨_, rfl⟩)
      have hv2 : w4.cell? ⟨w3.heap.size, x.toNat, none⟩ = some (.int .i64 v) := by simpa using hv
      clear hv
      have T6 := hide (dt_drew (dt_alloc T5.out _) hd)
      have T7 := hide (dt_set T6.out (dsh_set7 T6.out.2.2 v))
      clear hd
      have hsh := T6.out.2.2
      obtain ⟨yf, mof, df, hf, mif, sf, gf, zf, hsh⟩ := hsh
      obtain ⟨⟨-, -, -, -, -, -, -, fc7⟩, -, -, -, -, -, -, -, ff7⟩ := dsh_cells hsh
      clear hsh
      go_wp2_with fail
      refine (d_below G a n cap zs 30 _ (by omega) (by omega) T7.out.1.1).mono ?_
      rintro e w5 ⟨x, hx0, hx1, rfl, hd⟩
      have U1 := hide (dt_drew T7.out hd)
      clear hd
      rcases (show x = 29 ∨ x = 28 ∨ x = 27 ∨ x ≤ 26 by omega) with hx | hx | hx | hx
      · subst hx
        go_wp2_with fail
        refine (d_off_1_31 G a n cap zs _ U1.out.1.1).mono ?_
        rintro e w6 ⟨v, rfl, hd⟩
        have U2 := hide (dt_drew U1.out hd)
        clear hd
        have U3 := hide (dt_set U2.out (dsh_set2 U2.out.2.2 v))
        have hsh := U2.out.2.2
        obtain ⟨yb, mob, db, hb, mib, sb, gb, zb, hsh⟩ := hsh
        obtain ⟨⟨-, -, bc2, -, -, -, -, -⟩, -, -, bf2, -, -, -, -, -⟩ := dsh_cells hsh
        clear hsh
        have hsh := U3.out.2.2
        obtain ⟨yp, mop, dp, hp, mip, sp, gp, zp, hsh⟩ := hsh
        obtain ⟨⟨pc0, pc1, pc2, pc3, pc4, pc5, pc6, pc7⟩, pf0, pf1, pf2, pf3, pf4, pf5, pf6, pf7⟩ := dsh_cells hsh
        clear hsh
        have hrr := U3.out.1.2.2.1
        obtain ⟨yr, mor, dr, hr, mir, sr, gr, zr, hrr⟩ := hrr
        have HC := hide (dsh_cells (set8_row hrr yp mop dp hp mip sp gp zp)).1
        obtain ⟨⟨r0, r1, r2, r3, r4, r5, r6, r7⟩, q0, q1, q2, q3, q4, q5, q6, q7⟩ := dsh_cells hrr
        have HE := hide (drew_eight (B := w0.heap.size) ⟨U3.out.1.1, U3.out.1.2.1⟩ (Nat.le_refl _) U3.out.1.2.2.2 (.int .i64 yp) (.int .i64 mop) (.int .i64 dp) (.int .i64 hp) (.int .i64 mip) (.int .i64 sp) (.bool gp) (.int .i64 zp))
        clear hrr
        go_wp2
        obtain ⟨t0, t1, t2, t3, t4, t5, t6, t7⟩ := HC.out
        exact bodyPost_ret (v := .agg #[.int .i64 yp, .int .i64 mop, .int .i64 dp, .int .i64 hp, .int .i64 mip, .int .i64 sp, .bool gp, .int .i64 zp]) (by simp [results, Tryd.results13, go_sem, t0, t1, t2, t3, t4, t5, t6, t7]) rfl ⟨_, _, _, _, _, _, _, _, rfl, HE.out⟩
      · subst hx
        go_wp2_with fail
        refine (d_off_m840_840 G a n cap zs _ U1.out.1.1).mono ?_
        rintro e w6 ⟨v, rfl, hd⟩
        have U2 := hide (dt_drew U1.out hd)
        clear hd
        have U3 := hide (dt_set U2.out (dsh_set7 U2.out.2.2 v))
        have hsh := U2.out.2.2
        obtain ⟨yb, mob, db, hb, mib, sb, gb, zb, hsh⟩ := hsh
        obtain ⟨⟨-, -, -, -, -, -, -, bc7⟩, -, -, -, -, -, -, -, bf7⟩ := dsh_cells hsh
        clear hsh
        have hsh := U3.out.2.2
        obtain ⟨yp, mop, dp, hp, mip, sp, gp, zp, hsh⟩ := hsh
        obtain ⟨⟨pc0, pc1, pc2, pc3, pc4, pc5, pc6, pc7⟩, pf0, pf1, pf2, pf3, pf4, pf5, pf6, pf7⟩ := dsh_cells hsh
        clear hsh
        have hrr := U3.out.1.2.2.1
        obtain ⟨yr, mor, dr, hr, mir, sr, gr, zr, hrr⟩ := hrr
        have HC := hide (dsh_cells (set8_row hrr yp mop dp hp mip sp gp zp)).1
        obtain ⟨⟨r0, r1, r2, r3, r4, r5, r6, r7⟩, q0, q1, q2, q3, q4, q5, q6, q7⟩ := dsh_cells hrr
        have HE := hide (drew_eight (B := w0.heap.size) ⟨U3.out.1.1, U3.out.1.2.1⟩ (Nat.le_refl _) U3.out.1.2.2.2 (.int .i64 yp) (.int .i64 mop) (.int .i64 dp) (.int .i64 hp) (.int .i64 mip) (.int .i64 sp) (.bool gp) (.int .i64 zp))
        clear hrr
        go_wp2
        obtain ⟨t0, t1, t2, t3, t4, t5, t6, t7⟩ := HC.out
        exact bodyPost_ret (v := .agg #[.int .i64 yp, .int .i64 mop, .int .i64 dp, .int .i64 hp, .int .i64 mip, .int .i64 sp, .bool gp, .int .i64 zp]) (by simp [results, Tryd.results13, go_sem, t0, t1, t2, t3, t4, t5, t6, t7]) rfl ⟨_, _, _, _, _, _, _, _, rfl, HE.out⟩
      · subst hx
        go_wp2_with fail
        refine (d_off_1_9999 G a n cap zs _ U1.out.1.1).mono ?_
        rintro e w6 ⟨v, rfl, hd⟩
        have U2 := hide (dt_drew U1.out hd)
        clear hd
        have U3 := hide (dt_set U2.out (dsh_set0 U2.out.2.2 v))
        have hsh := U2.out.2.2
        obtain ⟨yb, mob, db, hb, mib, sb, gb, zb, hsh⟩ := hsh
        obtain ⟨⟨bc0, -, -, -, -, -, -, -⟩, bf0, -, -, -, -, -, -, -⟩ := dsh_cells hsh
        clear hsh
        have hsh := U3.out.2.2
        obtain ⟨yp, mop, dp, hp, mip, sp, gp, zp, hsh⟩ := hsh
        obtain ⟨⟨pc0, pc1, pc2, pc3, pc4, pc5, pc6, pc7⟩, pf0, pf1, pf2, pf3, pf4, pf5, pf6, pf7⟩ := dsh_cells hsh
        clear hsh
        have hrr := U3.out.1.2.2.1
        obtain ⟨yr, mor, dr, hr, mir, sr, gr, zr, hrr⟩ := hrr
        have HC := hide (dsh_cells (set8_row hrr yp mop dp hp mip sp gp zp)).1
        obtain ⟨⟨r0, r1, r2, r3, r4, r5, r6, r7⟩, q0, q1, q2, q3, q4, q5, q6, q7⟩ := dsh_cells hrr
        have HE := hide (drew_eight (B := w0.heap.size) ⟨U3.out.1.1, U3.out.1.2.1⟩ (Nat.le_refl _) U3.out.1.2.2.2 (.int .i64 yp) (.int .i64 mop) (.int .i64 dp) (.int .i64 hp) (.int .i64 mip) (.int .i64 sp) (.bool gp) (.int .i64 zp))
        clear hrr
        go_wp2
        obtain ⟨t0, t1, t2, t3, t4, t5, t6, t7⟩ := HC.out
        exact bodyPost_ret (v := .agg #[.int .i64 yp, .int .i64 mop, .int .i64 dp, .int .i64 hp, .int .i64 mip, .int .i64 sp, .bool gp, .int .i64 zp]) (by simp [results, Tryd.results13, go_sem, t0, t1, t2, t3, t4, t5, t6, t7]) rfl ⟨_, _, _, _, _, _, _, _, rfl, HE.out⟩
      · have hsh := U1.out.2.2
        obtain ⟨yp, mop, dp, hp, mip, sp, gp, zp, hsh⟩ := hsh
        obtain ⟨⟨pc0, pc1, pc2, pc3, pc4, pc5, pc6, pc7⟩, pf0, pf1, pf2, pf3, pf4, pf5, pf6, pf7⟩ := dsh_cells hsh
        clear hsh
        have hrr := U1.out.1.2.2.1
        obtain ⟨yr, mor, dr, hr, mir, sr, gr, zr, hrr⟩ := hrr
        have HC := hide (dsh_cells (set8_row hrr yp mop dp hp mip sp gp zp)).1
        obtain ⟨⟨r0, r1, r2, r3, r4, r5, r6, r7⟩, q0, q1, q2, q3, q4, q5, q6, q7⟩ := dsh_cells hrr
        have HE := hide (drew_eight (B := w0.heap.size) ⟨U1.out.1.1, U1.out.1.2.1⟩ (Nat.le_refl _) U1.out.1.2.2.2 (.int .i64 yp) (.int .i64 mop) (.int .i64 dp) (.int .i64 hp) (.int .i64 mip) (.int .i64 sp) (.bool gp) (.int .i64 zp))
        clear hrr
        have n1 : (x == 29) = false := by simp; omega
        have n2 : (x == 28) = false := by simp; omega
        have n3 : (x == 27) = false := by simp; omega
        go_wp2
        obtain ⟨t0, t1, t2, t3, t4, t5, t6, t7⟩ := HC.out
        exact bodyPost_ret (v := .agg #[.int .i64 yp, .int .i64 mop, .int .i64 dp, .int .i64 hp, .int .i64 mip, .int .i64 sp, .bool gp, .int .i64 zp]) (by simp [results, Tryd.results13, go_sem, t0, t1, t2, t3, t4, t5, t6, t7]) rfl ⟨_, _, _, _, _, _, _, _, rfl, HE.out⟩
end Go.Proofs.YtaigicdoepdhnaaDoor
