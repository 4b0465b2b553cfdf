/-
  Contracts of the laws' helpers on rows of ranges: a copy in new memory; two rows that are alike are told so; a node's copy.
-/
import Derived.Test.YtffgghbnkphieahRng
namespace Go.Proofs.Ytffgghbnkphieah
open Go.RowKit
set_option linter.unusedVariables false
set_option linter.unusedSimpArgs false
/-- Of a row of cells the first k pairs are L and H. -/
def Pairs (xs : List Value) (k : Nat) (L H : Nat → Int) : Prop := ∀ j, j < k → xs[j * 2]? = some (.int .i64 (L j)) ∧ xs[j * 2 + 1]? = some (.int .i64 (H j))
theorem pairs_step {xs : List Value} {k n : Nat} {L H : Nat → Int} (h : Pairs xs k L H) (hk : k < n) (hl : xs.length = n * 2) :
    Pairs ((xs.set (k * 2) (.int .i64 (L k))).set (k * 2 + 1) (.int .i64 (H k))) (k + 1) L H := by
  intro j hj
  simp only [List.getElem?_set, List.length_set]
  by_cases e : j = k
  · subst e
    refine ⟨?_, ?_⟩
    · rw [if_neg (by omega), if_pos rfl, if_pos (by omega)]
    · rw [if_pos rfl, if_pos (by omega)]
  · have hj' := h j (by omega)
    refine ⟨?_, ?_⟩
    · rw [if_neg (by omega), if_neg (by omega)]; exact hj'.1
    · rw [if_neg (by omega), if_neg (by omega)]; exact hj'.2
theorem own_rng {w : World} {B g n t : Nat} {xs : List Value} {L H : Nat → Int} (h : w.ownsRow B t 2 (.slice (some ⟨g, 0, none⟩) n n) n xs) (hp : Pairs xs n L H) : RngAt w (some ⟨g, 0, none⟩) n L H w.heap.size := fun h0 => by
  have hg : g < w.heap.size := (h.lt g rfl).2
  refine ⟨g, 0, rfl, hg, fun j hj => ?_⟩
  refine ⟨?_, ?_⟩
  · rw [Nat.zero_add, h.cellAt (j * 2) (by omega)]; exact (hp j hj).1
  · rw [Nat.zero_add, h.cellAt (j * 2 + 1) (by omega)]; exact (hp j hj).2
theorem own_after {w w' : World} {B e size n : Nat} {v : Value} {xs : List Value} (h : w.ownsRow B e size v n xs) (hb : Below w.heap.size w w') : w'.ownsRow B e size v n xs := by
  obtain ⟨hl, h⟩ := h
  refine ⟨hl, ?_⟩
  rcases h with h | ⟨g, cap, cur, hv, hg, hh, h1, h2, h3, h4⟩
  · exact .inl h
  · have hlt : g < w.heap.size := (Array.getElem?_eq_some_iff.1 hh).1
    exact .inr ⟨g, cap, cur, hv, hg, (hb.block g hlt).trans hh, h1, h2, h3, h4⟩
theorem own_some {w : World} {B g n t : Nat} {xs : List Value} (h : w.ownsRow B t 2 (.slice (some ⟨g, 0, none⟩) n n) n xs) (j : Nat) (hj : j < n * 2) : ∃ v, w.cell? ⟨g, j, none⟩ = some v := by
  rw [h.cellAt j hj]
  exact ⟨_, List.getElem?_eq_getElem (by rw [h.1]; exact hj)⟩
/-- A node as a value. -/
def nodeV (kd : Int) (nt : Bool) (a : Option Addr) (n c : Nat) (A B mn mx : Int) : Value := .agg #[.int .i64 kd, .bool nt, .slice a n c, .int .i64 A, .int .i64 B, .int .i64 mn, .int .i64 mx]
end Go.Proofs.Ytffgghbnkphieah
