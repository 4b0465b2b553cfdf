/-
  Contract: the drawn class and number: whatever the code is, a node with at most three ranges of its own, and a number.
-/
import Derived.Test.YtffgghbnkphieahDrawOff
import Derived.Test.YtffgghbnkphieahRngEq
import Derived.Deep.AppendLies
import Derived.Laws.ResultCell
namespace Go.Proofs.Ytffgghbnkphieah
open Go.RowKit Go.Joins
set_option linter.unusedVariables false
set_option linter.unusedSimpArgs false
/-- While a class is drawn: the reader, the class, the answer's place. -/
def DS (w w' : World) (G N : Nat) (a : Option Addr) (n cap : Nat) (zs : List Int) (kd : Int) (nt : Bool) (sa : Option Addr) (m c : Nat) : Prop :=
  RdAt w' G a n cap zs ∧ (w.heap.size < G ∧ G < N) ∧ NodeAt w' N kd nt sa m c 0 0 0 0 ∧ NodeAt w' w.heap.size 0 false none 0 0 0 0 0 0 ∧ Below w.heap.size w w'
section
variable {w w1 w2 : World} {G N : Nat} {a : Option Addr} {n cap : Nat} {zs : List Int} {kd : Int} {nt : Bool} {sa : Option Addr} {m c : Nat}
theorem node_grown {K : Nat} {A B mn mx : Int} {row : Option Nat} (h : NodeAt w1 K kd nt sa m c A B mn mx) (hg : w1.grownBy w2 row) (hne : some K ≠ row) : NodeAt w2 K kd nt sa m c A B mn mx := by
  have hl := nodeAt_lt h
  obtain ⟨T, h⟩ := h
  exact ⟨T, (hg.block K hl hne).trans h⟩
theorem ds_lt (h : DS w w1 G N a n cap zs kd nt sa m c) : N < w1.heap.size := nodeAt_lt h.2.2.1
theorem ds_drew (h : DS w w1 G N a n cap zs kd nt sa m c) (k : Drew G a n cap zs w1 w2) : DS w w2 G N a n cap zs kd nt sa m c := by
  obtain ⟨h1, ⟨h2, h3⟩, h4, h5, h6⟩ := h
  refine ⟨k.1, ⟨h2, h3⟩, node_grown h4 k.2 (fun e => by cases e; omega), node_grown h5 k.2 (fun e => by cases e; omega), h6.grown k.2 h6.size (fun x hx => by cases hx; omega)⟩
theorem ds_grown {row : Option Nat} (h : DS w w1 G N a n cap zs kd nt sa m c) (hg : w1.grownBy w2 row) (hr : ∀ k, row = some k → N < k) : DS w w2 G N a n cap zs kd nt sa m c := by
  obtain ⟨h1, ⟨h2, h3⟩, h4, h5, h6⟩ := h
  exact ⟨rd_grown h1 hg (fun k hk => by have := hr k hk; omega), ⟨h2, h3⟩, node_grown h4 hg (fun e => by have := hr N e.symm; omega), node_grown h5 hg (fun e => by have := hr _ e.symm; omega), h6.grown hg h6.size (fun x hx => by have := hr x hx; omega)⟩
theorem ds_alloc (h : DS w w1 G N a n cap zs kd nt sa m c) (o : Obj) : DS w (w1.alloc o) G N a n cap zs kd nt sa m c := ds_grown h (World.grownBy_alloc w1 o none) (fun k hk => by cases hk)
theorem ds_dr (h : DS w w1 G N a n cap zs kd nt sa m c) : DS w w1.drew G N a n cap zs kd nt sa m c := ds_grown (row := none) h ⟨rfl, rfl, rfl, Nat.le_refl _, fun _ _ _ => rfl⟩ (fun k hk => by cases hk)
theorem ds_all (h : DS w w1 G N a n cap zs kd nt sa m c) : DS w w1 G N a n cap zs kd nt sa m c ∧ w1.cell? ⟨N, 2, none⟩ = some (.slice sa m c) := ⟨h, (nodeAt_cells h.2.2.1).2.2.1⟩
theorem ds_set2 (h : DS w w1 G N a n cap zs kd nt sa m c) (sa' : Option Addr) (m' c' : Nat) : DS w (w1.setCell ⟨N, 2, none⟩ (.slice sa' m' c')) G N a n cap zs kd nt sa' m' c' := by
  obtain ⟨h1, ⟨h2, h3⟩, h4, h5, h6⟩ := h
  have hgr : w1.grownBy (w1.setCell ⟨N, 2, none⟩ (.slice sa' m' c')) (some N) := ⟨rfl, rfl, rfl, by simp [World.setCell], fun k hk hne => heap_setCell_far _ _ _ _ (fun e => hne (by rw [← e]))⟩
  refine ⟨rd_grown h1 hgr (fun k hk => by cases hk; omega), ⟨h2, h3⟩, ?_, node_grown h5 hgr (fun e => by cases e; omega), h6.setCell (by simp; omega) _⟩
  obtain ⟨T, h4⟩ := h4
  have := block_setCell (i := 2) h4 (.slice sa' m' c')
  exact ⟨T, by simpa using this⟩
theorem ds_set0 (h : DS w w1 G N a n cap zs kd nt sa m c) (kd' : Int) : DS w (w1.setCell ⟨N, 0, none⟩ (.int .i64 kd')) G N a n cap zs kd' nt sa m c := by
  obtain ⟨h1, ⟨h2, h3⟩, h4, h5, h6⟩ := h
  have hgr : w1.grownBy (w1.setCell ⟨N, 0, none⟩ (.int .i64 kd')) (some N) := ⟨rfl, rfl, rfl, by simp [World.setCell], fun k hk hne => heap_setCell_far _ _ _ _ (fun e => hne (by rw [← e]))⟩
  refine ⟨rd_grown h1 hgr (fun k hk => by cases hk; omega), ⟨h2, h3⟩, ?_, node_grown h5 hgr (fun e => by cases e; omega), h6.setCell (by simp; omega) _⟩
  obtain ⟨T, h4⟩ := h4
  have := block_setCell (i := 0) h4 (.int .i64 kd')
  exact ⟨T, by simpa using this⟩
end
/-- The row of ranges that is being drawn. -/
def DR (w : World) (N : Nat) (sa : Option Addr) (m c : Nat) : Prop := ∃ xs L H, w.ownsRow (N + 1) 37 2 (.slice sa m c) m xs ∧ Pairs xs m L H
theorem pairs_push {xs : List Value} {m : Nat} {L H : Nat → Int} (h : Pairs xs m L H) (hl : xs.length = m * 2) (l r : Int) : Pairs (xs ++ [.int .i64 l, .int .i64 r]) (m + 1) (fun j => if j = m then l else L j) (fun j => if j = m then r else H j) := by
  intro j hj
  by_cases e : j = m
  · subst e
    rw [List.getElem?_append_right (by omega), List.getElem?_append_right (by omega)]
    simp [hl]
  · rw [List.getElem?_append_left (by omega), List.getElem?_append_left (by omega)]
    simp only [if_neg e]
    exact h j (by omega)
theorem dr_block {w : World} {N : Nat} {sa : Option Addr} {m c : Nat} (h : DR w N sa m c) : ∀ k, (Value.slice sa m c).ownBlock = some k → N < k := by
  obtain ⟨xs, L, H, h, _⟩ := h
  intro k hk
  have := (h.lt k hk).1
  omega
theorem dr_grown {w w1 : World} {N : Nat} {sa : Option Addr} {m c : Nat} {row : Option Nat} (h : DR w N sa m c) (hg : w.grownBy w1 row) (hr : ∀ k, row = some k → k ≤ N) : DR w1 N sa m c := by
  have hb := dr_block h
  obtain ⟨xs, L, H, h, hp⟩ := h
  refine ⟨xs, L, H, h.kept hg ?_, hp⟩
  cases e : (Value.slice sa m c).ownBlock with
  | none => exact .inl rfl
  | some k =>
    refine .inr (fun e2 => ?_)
    have := hb k e
    have := hr k e2.symm
    omega
theorem dr_rng {w : World} {N : Nat} {sa : Option Addr} {m c : Nat} (h : DR w N sa m c) : ∃ L H, RngAt w sa m L H w.heap.size := by
  obtain ⟨xs, L, H, h, hp⟩ := h
  refine ⟨L, H, fun h0 => ?_⟩
  have hh := h
  obtain ⟨hl, h⟩ := h
  rcases h with ⟨hv, hm⟩ | ⟨g, cap, cur, hv, hg, hb, h1, h2, h3, h4⟩
  · omega
  · simp only [Value.slice.injEq] at hv
    obtain ⟨rfl, _, rfl⟩ := hv
    have hlt : g < w.heap.size := (Array.getElem?_eq_some_iff.1 hb).1
    refine ⟨g, 0, rfl, hlt, fun j hj => ⟨?_, ?_⟩⟩
    · rw [Nat.zero_add, hh.cellAt (j * 2) (by omega)]; exact (hp j hj).1
    · rw [Nat.zero_add, hh.cellAt (j * 2 + 1) (by omega)]; exact (hp j hj).2
end Go.Proofs.Ytffgghbnkphieah
