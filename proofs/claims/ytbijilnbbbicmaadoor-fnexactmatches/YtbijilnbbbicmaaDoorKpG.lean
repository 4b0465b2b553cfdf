/-
  Plain facts: what stays as it was, rows of one's own.
-/
import Derived.Test.YtbijilnbbbicmaaDoorRxEq
import Derived.WalkLawsBesides
import Derived.Below
import Derived.OwnWalk
import Derived.Laws.OwnMore
import Derived.Deep.AppendLies
namespace Go.Proofs.YtbijilnbbbicmaaDoor
open Go.RowKit Go.Joins
set_option linter.unusedVariables false
set_option linter.unusedSimpArgs false
/-- All that was there is as it was, but blocks of S. -/
structure Kp (S : Nat → Prop) (w w' : World) : Prop where
  os : w'.os = w.os
  tape : w'.tape = w.tape
  output : w'.output = w.output
  size : w.heap.size ≤ w'.heap.size
  block : ∀ k, k < w.heap.size → ¬ S k → w'.heap[k]? = w.heap[k]?
theorem Kp.refl (S : Nat → Prop) (w : World) : Kp S w w := ⟨rfl, rfl, rfl, Nat.le_refl _, fun _ _ _ => rfl⟩
theorem Kp.trans {S T : Nat → Prop} {w w1 w2 : World} (h : Kp S w w1) (k : Kp T w1 w2) (hT : ∀ j, j < w.heap.size → T j → S j) : Kp S w w2 :=
  ⟨k.os.trans h.os, k.tape.trans h.tape, k.output.trans h.output, Nat.le_trans h.size k.size, fun j hj hs => (k.block j (Nat.lt_of_lt_of_le hj h.size) (fun ht => hs (hT j hj ht))).trans (h.block j hj hs)⟩
theorem kp_grown {S : Nat → Prop} {w w' : World} {row : Option Nat} (h : w.grownBy w' row) (hS : ∀ k, row = some k → S k) : Kp S w w' :=
  ⟨h.os, h.tape, h.output, h.size, fun k hk hs => h.block k hk (fun e => hs (hS k e.symm))⟩
theorem kp_set {S : Nat → Prop} (w : World) (p : Addr) (v : Value) (h : S p.block) : Kp S w (w.setCell p v) :=
  ⟨rfl, rfl, rfl, by rw [heap_setCell_size]; exact Nat.le_refl _, fun k hk hs => heap_setCell_far _ _ _ _ (fun e => hs (by rw [← e]; exact h))⟩
theorem kp_alloc {S : Nat → Prop} (w : World) (o : Obj) : Kp S w (w.alloc o) := kp_grown (World.grownBy_alloc w o none) (fun k hk => by cases hk)
theorem kp_drew {S : Nat → Prop} (w : World) : Kp S w w.drew := ⟨rfl, rfl, rfl, Nat.le_refl _, fun _ _ _ => rfl⟩
theorem kp_drewN {S : Nat → Prop} (w : World) (q : Nat) : Kp S w (w.drewN q) := ⟨rfl, rfl, rfl, Nat.le_refl _, fun _ _ _ => rfl⟩
theorem kp_below {S : Nat → Prop} {B : Nat} {w w' : World} (h : Kp S w w') (hB : B ≤ w.heap.size) (hS : ∀ k, S k → B ≤ k) : Below B w w' :=
  ⟨h.os, h.tape, h.output, h.size, fun k hk => h.block k (Nat.lt_of_lt_of_le hk hB) (fun hs => by have := hS k hs; omega)⟩
theorem own_kp {S : Nat → Prop} {w w' : World} {B e z n : Nat} {v : Value} {xs : List Value} (h : w.ownsRow B e z v n xs) (k : Kp S w w') (hS : ∀ j, v.ownBlock = some j → ¬ S j) : w'.ownsRow B e z v n xs := by
  obtain ⟨hl, h⟩ := h
  refine ⟨hl, ?_⟩
  rcases h with h | ⟨g, cap, cur, hv, hg, hh, h1, h2, h3, h4⟩
  · exact .inl h
  · exact .inr ⟨g, cap, cur, hv, hg, (k.block g (Array.getElem?_eq_some_iff.1 hh).1 (hS g (by rw [hv]; rfl))).trans hh, h1, h2, h3, h4⟩
/-- The block of a row has the type of its cells. -/
theorem own_type {w : World} {B e z n k : Nat} {v : Value} {xs : List Value} (h : w.ownsRow B e z v n xs) (hk : v.ownBlock = some k) : ∃ cur, w.heap[k]? = some (.cells cur e (0, 0)) := by
  rcases h.2 with ⟨rfl, -⟩ | ⟨g, cap, cur, hv, -, hh, -⟩
  · cases hk
  · rw [hv] at hk
    have : g = k := by simpa [Value.ownBlock] using hk
    subst this
    exact ⟨cur, hh⟩
theorem type_ne {w : World} {B e z n k : Nat} {v : Value} {xs : List Value} (h : w.ownsRow B e z v n xs) (hk : v.ownBlock = some k) {cs : Array Value} {t : TypeId} {fr : Nat × Nat} {R : Nat} (hR : w.heap[R]? = some (.cells cs t fr)) (ht : e ≠ t) : k ≠ R := by
  rintro rfl
  obtain ⟨cur, hc⟩ := own_type h hk
  rw [hc] at hR
  simp only [Option.some.injEq, Obj.cells.injEq] at hR
  exact ht hR.2.1
theorem own_ne {w : World} {B e z n k B' e' z' n' k' : Nat} {v v' : Value} {xs xs' : List Value} (h : w.ownsRow B e z v n xs) (hk : v.ownBlock = some k) (h' : w.ownsRow B' e' z' v' n' xs') (hk' : v'.ownBlock = some k') (ht : e ≠ e') : k ≠ k' := by
  obtain ⟨cur, hc⟩ := own_type h' hk'
  exact type_ne h hk hc ht
end Go.Proofs.YtbijilnbbbicmaaDoor
