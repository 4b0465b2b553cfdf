/-
  Plain facts, of no program: what has become of memory where only some blocks were written; the shape of rows of model nodes and their kids.
-/
import Derived.Test.YtfohfljdgmlibaaV43
namespace Go.Proofs.Ytfohfljdgmlibaa
open Go.RowKit Go.Joins
set_option linter.unusedVariables false
set_option linter.unusedSimpArgs false
/-- Of the blocks that were there only those from lo up to hi (without it) may have been written; all keep their shape. -/
structure Chg (lo hi : Nat) (w w' : World) : Prop where
  os : w'.os = w.os
  tape : w'.tape = w.tape
  output : w'.output = w.output
  size : w.heap.size ≤ w'.heap.size
  block : ∀ j, j < w.heap.size → (j < lo ∨ hi ≤ j) → w'.heap[j]? = w.heap[j]?
  shape : ∀ (j : Nat) (cs : Array Value) (T : TypeId), w.heap[j]? = some (Obj.cells cs T (0, 0)) → ∃ cs' : Array Value, w'.heap[j]? = some (Obj.cells cs' T (0, 0)) ∧ cs'.size = cs.size
theorem Chg.refl (lo hi : Nat) (w : World) : Chg lo hi w w := ⟨rfl, rfl, rfl, Nat.le_refl _, fun _ _ _ => rfl, fun j cs T h => ⟨cs, h, rfl⟩⟩
theorem Chg.trans {lo hi : Nat} {w w1 w2 : World} (h1 : Chg lo hi w w1) (h2 : Chg lo hi w1 w2) : Chg lo hi w w2 :=
  ⟨h2.os.trans h1.os, h2.tape.trans h1.tape, h2.output.trans h1.output, Nat.le_trans h1.size h2.size, fun j hj hc => (h2.block j (Nat.lt_of_lt_of_le hj h1.size) hc).trans (h1.block j hj hc), fun j cs T h => by
    obtain ⟨c1, e1, s1⟩ := h1.shape j cs T h
    obtain ⟨c2, e2, s2⟩ := h2.shape j c1 T e1
    exact ⟨c2, e2, s2.trans s1⟩⟩
theorem Chg.wide {lo hi lo' hi' : Nat} {w w' : World} (h : Chg lo hi w w') (h1 : lo' ≤ lo) (h2 : hi ≤ hi') : Chg lo' hi' w w' :=
  ⟨h.os, h.tape, h.output, h.size, fun j hj hc => h.block j hj (by omega), h.shape⟩
theorem chg_below {lo hi : Nat} {w w' : World} (h : Below w.heap.size w w') : Chg lo hi w w' := ⟨h.os, h.tape, h.output, h.size, fun j hj _ => h.block j hj, fun j cs T e => ⟨cs, (h.block j (Array.getElem?_eq_some_iff.1 e).1).trans e, rfl⟩⟩
theorem chg_set {lo hi : Nat} {w : World} (G i : Nat) (v : Value) (h1 : lo ≤ G) (h2 : G < hi) : Chg lo hi w (w.setCell ⟨G, i, none⟩ v) :=
  ⟨rfl, rfl, rfl, by rw [heap_setCell_size]; exact Nat.le_refl _, fun j hj hc => heap_setCell_far _ _ _ _ (by show G ≠ j; omega), fun j cs T e => by
    by_cases h : G = j
    · subst h; exact ⟨_, block_setCell e v, by simp⟩
    · exact ⟨cs, (heap_setCell_far _ _ _ _ h).trans e, rfl⟩⟩
theorem below_chg {b lo hi : Nat} {w w1 w2 : World} (h : Below b w w1) (hbw : b ≤ w.heap.size) (hlo : b ≤ lo) (k : Chg lo hi w1 w2) : Below b w w2 :=
  ⟨k.os.trans h.os, k.tape.trans h.tape, k.output.trans h.output, Nat.le_trans h.size k.size, fun j hj => (k.block j (Nat.lt_of_lt_of_le (Nat.lt_of_lt_of_le hj hbw) h.size) (.inl (by omega))).trans (h.block j hj)⟩
/-- Block G has room for m numbers. -/
def ShA (w : World) (G m : Nat) : Prop := ∃ cs T, w.heap[G]? = some (.cells cs T (0, 0)) ∧ cs.size = m * 1
theorem shA_chg {lo hi : Nat} {w w' : World} {G m : Nat} (h : ShA w G m) (k : Chg lo hi w w') : ShA w' G m := by
  obtain ⟨cs, T, h1, h2⟩ := h
  obtain ⟨cs', h3, h4⟩ := k.shape G cs T h1
  exact ⟨cs', T, h3, by omega⟩
theorem shA_cell {w : World} {G m : Nat} (h : ShA w G m) (i : Nat) (hi : i < m * 1) : (∃ v, w.cell? ⟨G, i, none⟩ = some v) ∧ w.frozen? ⟨G, i, none⟩ = false := by
  obtain ⟨cs, T, h1, h2⟩ := h
  refine ⟨⟨cs[i]'(by omega), ?_⟩, by simp [World.frozen?, h1]⟩
  rw [cell_of_row w G i _ T (0, 0) h1, Array.getElem?_eq_getElem (by omega)]
/-- Block g has n nodes, each with its kids in a block of its own. -/
def ShI (w : World) (g n : Nat) (AC : Nat → Nat) (lo hi : Nat) : Prop := ∃ cs T, w.heap[g]? = some (.cells cs T (0, 0)) ∧ cs.size = n * 4 ∧ (lo ≤ g ∧ g < hi) ∧ ∀ j, j < n → ∃ G, (lo ≤ G ∧ G < hi ∧ G ≠ g) ∧ cs[j * 4 + 2]? = some (.slice (some ⟨G, 0, none⟩) (AC j) (AC j)) ∧ ShA w G (AC j)
theorem shI_go {w w' : World} {g n lo hi lo' hi' : Nat} {AC : Nat → Nat} (h : ShI w g n AC lo hi) (k : Chg lo' hi' w w') (hg : g < lo' ∨ hi' ≤ g) : ShI w' g n AC lo hi := by
  obtain ⟨cs, T, h1, h2, h3, h4⟩ := h
  refine ⟨cs, T, (k.block g (Array.getElem?_eq_some_iff.1 h1).1 hg).trans h1, h2, h3, fun j hj => ?_⟩
  obtain ⟨G, q1, q2, q3⟩ := h4 j hj
  exact ⟨G, q1, q2, shA_chg q3 k⟩
theorem shI_set {w : World} {g n lo hi i : Nat} {AC : Nat → Nat} (h : ShI w g n AC lo hi) (v : Value) (hi' : ∀ j, j * 4 + 2 ≠ i) : ShI (w.setCell ⟨g, i, none⟩ v) g n AC lo hi := by
  obtain ⟨cs, T, h1, h2, h3, h4⟩ := h
  refine ⟨_, T, block_setCell h1 v, by simpa using h2, h3, fun j hj => ?_⟩
  obtain ⟨G, q1, q2, q3⟩ := h4 j hj
  refine ⟨G, q1, ?_, shA_chg q3 (chg_set (lo := g) (hi := g + 1) g i v (Nat.le_refl _) (by omega))⟩
  rw [Array.getElem?_setIfInBounds_ne (by have := hi' j; omega)]
  exact q2
theorem shI_cell {w : World} {g n lo hi : Nat} {AC : Nat → Nat} (h : ShI w g n AC lo hi) (i : Nat) (hi' : i < n * 4) : (∃ v, w.cell? ⟨g, i, none⟩ = some v) ∧ w.frozen? ⟨g, i, none⟩ = false := by
  obtain ⟨cs, T, h1, h2, -⟩ := h
  refine ⟨⟨cs[i]'(by omega), ?_⟩, by simp [World.frozen?, h1]⟩
  rw [cell_of_row w g i _ T (0, 0) h1, Array.getElem?_eq_getElem (by omega)]
theorem shI_at {w : World} {g n lo hi : Nat} {AC : Nat → Nat} (h : ShI w g n AC lo hi) (j : Nat) (hj : j < n) : ∃ G, (lo ≤ G ∧ G < hi ∧ G ≠ g) ∧ w.cell? ⟨g, j * 4 + 2, none⟩ = some (.slice (some ⟨G, 0, none⟩) (AC j) (AC j)) ∧ ShA w G (AC j) := by
  obtain ⟨cs, T, h1, h2, -, h4⟩ := h
  obtain ⟨G, q1, q2, q3⟩ := h4 j hj
  exact ⟨G, q1, by rw [cell_of_row w g _ _ T (0, 0) h1]; exact q2, q3⟩
theorem shI_in {w : World} {g n lo hi : Nat} {AC : Nat → Nat} (h : ShI w g n AC lo hi) : lo ≤ g ∧ g < hi := by
  obtain ⟨cs, T, -, -, h3, -⟩ := h
  exact h3
theorem own_shA {w : World} {B g n t : Nat} {xs : List Value} (h : w.ownsRow B t 1 (.slice (some ⟨g, 0, none⟩) n n) n xs) : ShA w g n := by
  rcases h.2 with ⟨hv, -⟩ | ⟨g', cap, cur, hv, -, hg, -, -, hs, -⟩
  · cases hv
  · simp only [Value.slice.injEq, Option.some.injEq, Addr.mk.injEq] at hv
    obtain ⟨⟨rfl, -⟩, -, rfl⟩ := hv
    exact ⟨cur, t, hg, hs⟩
end Go.Proofs.Ytfohfljdgmlibaa
