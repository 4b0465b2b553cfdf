/-
  Contracts of the laws' helpers on rows of attributes: how much they hold, a copy in new memory, and that two rows that are alike are told so.
-/
import Derived.Test.YtogeicckbdfldaaDoorBase
import Derived.Test.YtogeicckbdfldaaDoorChecked
import Derived.WalkKit
import Derived.Below
import Derived.OwnWalk
import Derived.Laws.OwnMore
import Derived.RegionTactic
import Derived.Deep.QuietTactic
import Derived.Deep.RegionWith
import Derived.BigQuiet
import Derived.Deep.Draws
import Derived.Deep.RegionHeld3
import Derived.Lib.SmallJoins
import Derived.KernelRfl
namespace Go.Proofs.YtogeicckbdfldaaDoor
open Go.RowKit Go.Joins
set_option linter.unusedVariables false
set_option linter.unusedSimpArgs false
theorem ret_iI {a b : Int} (h : a = b) : Ending.returned (.int .i64 a) = .returned (.int .i64 b) := by rw [h]
def sumN (f : Nat → Nat) : Nat → Nat
  | 0 => 0
  | k + 1 => sumN f k + f k
theorem sumN_le (f : Nat → Nat) {a b : Nat} (h : a ≤ b) : sumN f a ≤ sumN f b := by
  induction b with
  | zero => have : a = 0 := by omega
            subst this; exact Nat.le_refl _
  | succ b ih =>
    by_cases e : a = b + 1
    · subst e; exact Nat.le_refl _
    · have := ih (by omega)
      show sumN f a ≤ sumN f b + f b
      omega
theorem sumN_at (f : Nat → Nat) {a b : Nat} (h : a < b) : sumN f a + f a ≤ sumN f b := sumN_le f (a := a + 1) h
/-- What is left of 'left' when 'x' is taken away; -1: not so much was there. -/
def dn (left : Int) (x : Nat) : Int := if (x : Int) ≤ left then left - x else -1
theorem dn_yes {left : Int} {x : Nat} (h : (x : Int) ≤ left) : dn left x = left - x := by unfold dn; rw [if_pos h]
theorem dn_no {left : Int} {x : Nat} (h : ¬ (x : Int) ≤ left) : dn left x = -1 := by unfold dn; rw [if_neg h]
/-- What is laid of a row of attributes: its first 'n' pairs of cells hold the texts N and V, in a block below 'B'. -/
def AtAt (w : World) (a : Option Addr) (n : Nat) (N V : Nat → ByteArray) (B : Nat) : Prop :=
  0 < n → ∃ b off, a = some ⟨b, off, none⟩ ∧ b < B ∧ ∀ j, j < n → w.cell? ⟨b, off + j * 2, none⟩ = some (.string (N j)) ∧ w.cell? ⟨b, off + j * 2 + 1, none⟩ = some (.string (V j))
theorem atAt_go {w w' : World} {a : Option Addr} {n : Nat} {N V : Nat → ByteArray} {B : Nat} (h : AtAt w a n N V B) (k : Below B w w') : AtAt w' a n N V B := fun h0 => by
  obtain ⟨b, off, e, hb, hc⟩ := h h0
  exact ⟨b, off, e, hb, fun j hj => ⟨(k.cell (p := ⟨b, off + j * 2, none⟩) hb).trans (hc j hj).1, (k.cell (p := ⟨b, off + j * 2 + 1, none⟩) hb).trans (hc j hj).2⟩⟩
theorem atAt_up {w : World} {a : Option Addr} {n : Nat} {N V : Nat → ByteArray} {B B' : Nat} (h : AtAt w a n N V B) (k : B ≤ B') : AtAt w a n N V B' := fun h0 => by
  obtain ⟨b, off, e, hb, hc⟩ := h h0
  exact ⟨b, off, e, Nat.lt_of_lt_of_le hb k, hc⟩
theorem heap_setCell_size (w : World) (p : Addr) (v : Value) : (w.setCell p v).heap.size = w.heap.size := by simp [World.setCell]
theorem heap_setCell_far (w : World) (p : Addr) (v : Value) (G : Nat) (h : p.block ≠ G) : (w.setCell p v).heap[G]? = w.heap[G]? := by
  simp [World.setCell, Array.getElem?_modify, h]
theorem atAt_set {w : World} {g n : Nat} {N V : Nat → ByteArray} {B : Nat} (h : AtAt w (some ⟨g, 0, none⟩) n N V B) (p : Addr) (v : Value) (hne : p.block ≠ g) : AtAt (w.setCell p v) (some ⟨g, 0, none⟩) n N V B := fun h0 => by
  obtain ⟨b, off, e, hb, hc⟩ := h h0
  simp only [Option.some.injEq, Addr.mk.injEq] at e
  obtain ⟨rfl, rfl, -⟩ := e
  refine ⟨g, 0, rfl, hb, fun j hj => ⟨?_, ?_⟩⟩
  · rw [World.cell?_setCell_far _ _ _ _ hne]; exact (hc j hj).1
  · rw [World.cell?_setCell_far _ _ _ _ hne]; exact (hc j hj).2
theorem own_after {w w' : World} {B e size n : Nat} {v : Value} {xs : List Value} (h : w.ownsRow B e size v n xs) (hb : Below w.heap.size w w') : w'.ownsRow B e size v n xs := by
  obtain ⟨hl, h⟩ := h
  refine ⟨hl, ?_⟩
  rcases h with h | ⟨g, cap, cur, hv, hg, hh, h1, h2, h3, h4⟩
  · exact .inl h
  · have hlt : g < w.heap.size := (Array.getElem?_eq_some_iff.1 hh).1
    exact .inr ⟨g, cap, cur, hv, hg, (hb.block g hlt).trans hh, h1, h2, h3, h4⟩
theorem own_someN {w : World} {B g n t size : Nat} {xs : List Value} (h : w.ownsRow B t size (.slice (some ⟨g, 0, none⟩) n n) n xs) (j : Nat) (hj : j < n * size) : ∃ v, w.cell? ⟨g, j, none⟩ = some v := by
  rw [h.cellAt j hj]
  exact ⟨_, List.getElem?_eq_getElem (by rw [h.1]; exact hj)⟩
/-- Of a row of cells the first k pairs are the texts N and V. -/
def PairsS (xs : List Value) (k : Nat) (N V : Nat → ByteArray) : Prop := ∀ j, j < k → xs[j * 2]? = some (.string (N j)) ∧ xs[j * 2 + 1]? = some (.string (V j))
theorem pairsS_step {xs : List Value} {k n : Nat} {N V : Nat → ByteArray} (h : PairsS xs k N V) (hk : k < n) (hl : xs.length = n * 2) :
    PairsS ((xs.set (k * 2) (.string (N k))).set (k * 2 + 1) (.string (V k))) (k + 1) N V := by
  intro j hj
  simp only [List.getElem?_set, List.length_set]
  by_cases e : j = k
  · subst e
    refine ⟨?_, ?_⟩
    · rw [if_neg (by omega), if_pos rfl, if_pos (by omega)]
    · rw [if_pos rfl, if_pos (by omega)]
  · have hj' := h j (by omega)
    refine ⟨?_, ?_⟩
    · rw [if_neg (by omega), if_neg (by omega)]; exact hj'.1
    · rw [if_neg (by omega), if_neg (by omega)]; exact hj'.2
theorem own_at {w : World} {B g n t : Nat} {xs : List Value} {N V : Nat → ByteArray} (h : w.ownsRow B t 2 (.slice (some ⟨g, 0, none⟩) n n) n xs) (hp : PairsS xs n N V) : AtAt w (some ⟨g, 0, none⟩) n N V w.heap.size := fun h0 => by
  have hg : g < w.heap.size := (h.lt g rfl).2
  refine ⟨g, 0, rfl, hg, fun j hj => ?_⟩
  refine ⟨?_, ?_⟩
  · rw [Nat.zero_add, h.cellAt (j * 2) (by omega)]; exact (hp j hj).1
  · rw [Nat.zero_add, h.cellAt (j * 2 + 1) (by omega)]; exact (hp j hj).2
def atSz (N V : Nat → ByteArray) (j : Nat) : Nat := (N j).size + (V j).size
def atTot (n : Nat) (N V : Nat → ByteArray) : Nat := n + sumN (atSz N V) n
end Go.Proofs.YtogeicckbdfldaaDoor
