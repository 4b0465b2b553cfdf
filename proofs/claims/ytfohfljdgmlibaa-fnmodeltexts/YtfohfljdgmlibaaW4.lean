/-
  Plain facts on the reader of models: where it lies, the row of nodes that it makes, what stays as it was.
-/
import Derived.Test.YtfohfljdgmlibaaW3
import Derived.Deep.AppendLies
namespace Go.Proofs.Ytfohfljdgmlibaa
open Go.RowKit Go.Joins
set_option linter.unusedVariables false
set_option linter.unusedSimpArgs false
/-- All that was there is as it was, but blocks of S. -/
structure Kp (S : Nat → Prop) (w w' : World) : Prop where
  os : w'.os = w.os
  tape : w'.tape = w.tape
  output : w'.output = w.output
  size : w.heap.size ≤ w'.heap.size
  block : ∀ k, k < w.heap.size → ¬ S k → w'.heap[k]? = w.heap[k]?
theorem Kp.refl (S : Nat → Prop) (w : World) : Kp S w w := ⟨rfl, rfl, rfl, Nat.le_refl _, fun _ _ _ => rfl⟩
theorem Kp.trans {S T : Nat → Prop} {w w1 w2 : World} (h : Kp S w w1) (k : Kp T w1 w2) (hT : ∀ j, j < w.heap.size → T j → S j) : Kp S w w2 :=
  ⟨k.os.trans h.os, k.tape.trans h.tape, k.output.trans h.output, Nat.le_trans h.size k.size, fun j hj hs => (k.block j (Nat.lt_of_lt_of_le hj h.size) (fun ht => hs (hT j hj ht))).trans (h.block j hj hs)⟩
theorem kp_grown {S : Nat → Prop} {w w' : World} {row : Option Nat} (h : w.grownBy w' row) (hS : ∀ k, row = some k → S k) : Kp S w w' :=
  ⟨h.os, h.tape, h.output, h.size, fun k hk hs => h.block k hk (fun e => hs (hS k e.symm))⟩
theorem kp_set {S : Nat → Prop} (w : World) (p : Addr) (v : Value) (h : S p.block) : Kp S w (w.setCell p v) :=
  ⟨rfl, rfl, rfl, by rw [heap_setCell_size]; exact Nat.le_refl _, fun k hk hs => heap_setCell_far _ _ _ _ (fun e => hs (by rw [← e]; exact h))⟩
theorem kp_alloc {S : Nat → Prop} (w : World) (o : Obj) : Kp S w (w.alloc o) := kp_grown (World.grownBy_alloc w o none) (fun k hk => by cases hk)
theorem kp_drew {S : Nat → Prop} (w : World) : Kp S w w.drew := ⟨rfl, rfl, rfl, Nat.le_refl _, fun _ _ _ => rfl⟩
theorem kp_drewN {S : Nat → Prop} (w : World) (q : Nat) : Kp S w (w.drewN q) := ⟨rfl, rfl, rfl, Nat.le_refl _, fun _ _ _ => rfl⟩
theorem kp_below {S : Nat → Prop} {B : Nat} {w w' : World} (h : Kp S w w') (hB : B ≤ w.heap.size) (hS : ∀ k, S k → B ≤ k) : Below B w w' :=
  ⟨h.os, h.tape, h.output, h.size, fun k hk => h.block k (Nat.lt_of_lt_of_le hk hB) (fun hs => by have := hS k hs; omega)⟩
theorem own_kp {S : Nat → Prop} {w w' : World} {B e z n : Nat} {v : Value} {xs : List Value} (h : w.ownsRow B e z v n xs) (k : Kp S w w') (hS : ∀ j, v.ownBlock = some j → ¬ S j) : w'.ownsRow B e z v n xs := by
  obtain ⟨hl, h⟩ := h
  refine ⟨hl, ?_⟩
  rcases h with h | ⟨g, cap, cur, hv, hg, hh, h1, h2, h3, h4⟩
  · exact .inl h
  · exact .inr ⟨g, cap, cur, hv, hg, (k.block g (Array.getElem?_eq_some_iff.1 hh).1 (hS g (by rw [hv]; rfl))).trans hh, h1, h2, h3, h4⟩
/-- The block of a row has the type of its cells. -/
theorem own_type {w : World} {B e z n k : Nat} {v : Value} {xs : List Value} (h : w.ownsRow B e z v n xs) (hk : v.ownBlock = some k) : ∃ cur, w.heap[k]? = some (.cells cur e (0, 0)) := by
  rcases h.2 with ⟨rfl, -⟩ | ⟨g, cap, cur, hv, -, hh, -⟩
  · cases hk
  · rw [hv] at hk
    have : g = k := by simpa [Value.ownBlock] using hk
    subst this
    exact ⟨cur, hh⟩
theorem type_ne {w : World} {B e z n k : Nat} {v : Value} {xs : List Value} (h : w.ownsRow B e z v n xs) (hk : v.ownBlock = some k) {cs : Array Value} {t : TypeId} {fr : Nat × Nat} {R : Nat} (hR : w.heap[R]? = some (.cells cs t fr)) (ht : e ≠ t) : k ≠ R := by
  rintro rfl
  obtain ⟨cur, hc⟩ := own_type h hk
  rw [hc] at hR
  simp only [Option.some.injEq, Obj.cells.injEq] at hR
  exact ht hR.2.1
theorem own_ne {w : World} {B e z n k B' e' z' n' k' : Nat} {v v' : Value} {xs xs' : List Value} (h : w.ownsRow B e z v n xs) (hk : v.ownBlock = some k) (h' : w.ownsRow B' e' z' v' n' xs') (hk' : v'.ownBlock = some k') (ht : e ≠ e') : k ≠ k' := by
  obtain ⟨cur, hc⟩ := own_type h' hk'
  exact type_ne h hk hc ht
/-- A row of nodes: what its cells hold, the kids of each in a block of S. -/
def PItsZ (Z : Nat) (S : Nat → Prop) (w : World) (xs : List Value) (m : Nat) (D : Pn) : Prop := D.n = m ∧ ∀ j, j < m → ∃ ad cp, (xs[j * 4]? = some (.int .i64 (D.K j)) ∧ xs[j * 4 + 1]? = some (.string (D.NM j)) ∧ xs[j * 4 + 2]? = some (.slice ad (D.KL j).length cp) ∧ xs[j * 4 + 3]? = some (.int .i64 (D.OC j))) ∧
  w.ownsRow 0 2 1 (.slice ad (D.KL j).length cp) (D.KL j).length ((D.KL j).map (Value.int .i64)) ∧ (∀ k, (Value.slice ad (D.KL j).length cp).ownBlock = some k → S k) ∧ (D.NM j).size ≤ Z ∧ (D.KL j).length ≤ 100
abbrev PIts := PItsZ 20000
/-- The block of a node's kids; no two nodes have one. -/
def kbk (xs : List Value) (j : Nat) : Option Nat := match xs[j * 4 + 2]? with
  | some v => v.ownBlock
  | none => none
def Dj (xs : List Value) (m : Nat) : Prop := ∀ i j k, i < m → j < m → i ≠ j → kbk xs i = some k → kbk xs j ≠ some k
theorem kbk_of {xs : List Value} {j : Nat} {v : Value} (h : xs[j * 4 + 2]? = some v) : kbk xs j = v.ownBlock := by unfold kbk; rw [h]
def POZ (Z B : Nat) (S : Nat → Prop) (w : World) (ad : Option Addr) (m c : Nat) (D : Pn) : Prop := ∃ xs, w.ownsRow B 46 4 (.slice ad m c) m xs ∧ PItsZ Z S w xs m D ∧ Dj xs m
abbrev PO := POZ 20000
theorem dj_push {xs : List Value} {m : Nat} (h : Dj xs m) (hl : xs.length = m * 4) (a b v d : Value) (hv : ∀ j k, j < m → kbk xs j = some k → v.ownBlock ≠ some k) : Dj (xs ++ [a, b, v, d]) (m + 1) := by
  have e1 : ∀ j, j < m → kbk (xs ++ [a, b, v, d]) j = kbk xs j := fun j hj => by unfold kbk; rw [List.getElem?_append_left (by omega)]
  have e2 : kbk (xs ++ [a, b, v, d]) m = v.ownBlock := kbk_of (by rw [List.getElem?_append_right (by omega), hl]; simp)
  intro i j k hi hj hne hk
  by_cases c1 : i < m
  · rw [e1 i c1] at hk
    by_cases c2 : j < m
    · rw [e1 j c2]; exact h i j k c1 c2 hne hk
    · have : j = m := by omega
      subst this
      rw [e2]; exact hv i k c1 hk
  · have : i = m := by omega
    subst this
    rw [e2] at hk
    rw [e1 j (by omega)]
    intro e
    exact hv j k (by omega) e hk
theorem pits_kp {Z : Nat} {S T : Nat → Prop} {w w' : World} {xs : List Value} {m : Nat} {D : Pn} (h : PItsZ Z S w xs m D) (k : Kp T w w') (hT : ∀ B' z n v ys j, w.ownsRow B' 2 z v n ys → v.ownBlock = some j → S j → ¬ T j) : PItsZ Z S w' xs m D := by
  refine ⟨h.1, fun j hj => ?_⟩
  obtain ⟨ad, cp, h1, h2, h3, h4⟩ := h.2 j hj
  exact ⟨ad, cp, h1, own_kp h2 k (fun i hi => hT _ _ _ _ _ i h2 hi (h3 i hi)), h3, h4⟩
theorem pits_imp {Z : Nat} {S T : Nat → Prop} {w : World} {xs : List Value} {m : Nat} {D : Pn} (h : PItsZ Z S w xs m D) (hT : ∀ k, k < w.heap.size → S k → T k) : PItsZ Z T w xs m D := by
  refine ⟨h.1, fun j hj => ?_⟩
  obtain ⟨ad, cp, h1, h2, h3, h4⟩ := h.2 j hj
  exact ⟨ad, cp, h1, h2, fun k hk => hT k (h2.lt k hk).2 (h3 k hk), h4⟩
def pushN (D : Pn) (k : Int) (nm : ByteArray) (L : List Int) (oc : Int) : Pn := ⟨D.n + 1, fun j => if j < D.n then D.K j else k, fun j => if j < D.n then D.NM j else nm, fun j => if j < D.n then D.KL j else L, fun j => if j < D.n then D.OC j else oc⟩
theorem pits_push {Z : Nat} {S : Nat → Prop} {w : World} {xs : List Value} {m : Nat} {D : Pn} (h : PItsZ Z S w xs m D) (hl : xs.length = m * 4) (k : Int) (nm : ByteArray) (L : List Int) (oc : Int) (ad : Option Addr) (cp : Nat)
    (h2 : w.ownsRow 0 2 1 (.slice ad L.length cp) L.length (L.map (Value.int .i64))) (h3 : ∀ j, (Value.slice ad L.length cp).ownBlock = some j → S j) (h4 : nm.size ≤ Z) (h5 : L.length ≤ 100) :
    PItsZ Z S w (xs ++ [.int .i64 k, .string nm, .slice ad L.length cp, .int .i64 oc]) (m + 1) (pushN D k nm L oc) := by
  obtain ⟨hn, h⟩ := h
  refine ⟨by show D.n + 1 = _; omega, fun j hj => ?_⟩
  by_cases e : j < m
  · obtain ⟨ad', cp', ⟨a0, a1, a2, a3⟩, b2, b3, b4⟩ := h j e
    have e' : j < D.n := by omega
    simp only [pushN, if_pos e']
    refine ⟨ad', cp', ⟨?_, ?_, ?_, ?_⟩, b2, b3, b4⟩
    all_goals (rw [List.getElem?_append_left (by omega)]; assumption)
  · have ej : j = m := by omega
    subst ej
    have e' : ¬ j < D.n := by omega
    simp only [pushN, if_neg e']
    refine ⟨ad, cp, ⟨?_, ?_, ?_, ?_⟩, h2, h3, h4, h5⟩
    all_goals (rw [List.getElem?_append_right (by omega), hl]; simp)
theorem po_imp {Z B : Nat} {S T : Nat → Prop} {w : World} {ad : Option Addr} {m c : Nat} {D : Pn} (h : POZ Z B S w ad m c D) (hT : ∀ k, k < w.heap.size → S k → T k) : POZ Z B T w ad m c D := by
  obtain ⟨xs, h1, h2, h3⟩ := h
  exact ⟨xs, h1, pits_imp h2 hT, h3⟩
theorem po_nil {Z : Nat} (B : Nat) (S : Nat → Prop) (w : World) : POZ Z B S w none 0 0 ⟨0, fun _ => 0, fun _ => ⟨#[]⟩, fun _ => [], fun _ => 0⟩ := ⟨[], World.ownsRow_nil _ _ _ _, ⟨rfl, fun j hj => absurd hj (Nat.not_lt_zero _)⟩, fun i _ _ hi => absurd hi (Nat.not_lt_zero _)⟩
/-- What stands apart from the row of nodes stays it. -/
theorem po_kp {Z B : Nat} {S T : Nat → Prop} {w w' : World} {ad : Option Addr} {m c : Nat} {D : Pn} (h : POZ Z B S w ad m c D) (k : Kp T w w') (h1 : ∀ j, (Value.slice ad m c).ownBlock = some j → ¬ T j) (hT : ∀ B' z n v ys j, w.ownsRow B' 2 z v n ys → v.ownBlock = some j → S j → ¬ T j) : POZ Z B S w' ad m c D := by
  obtain ⟨xs, h2, h3, h4⟩ := h
  exact ⟨xs, own_kp h2 k h1, pits_kp h3 k hT, h4⟩
/-- As an argument. -/
theorem po_at {Z B : Nat} {S : Nat → Prop} {w : World} {ad : Option Addr} {m c : Nat} {D : Pn} (h : POZ Z B S w ad m c D) : D.n = m ∧ PnAt w ad D w.heap.size := by
  obtain ⟨xs, h1, ⟨hn, h2⟩, -⟩ := h
  refine ⟨hn, fun h0 => ?_⟩
  rcases h1.2 with ⟨-, hz⟩ | ⟨g, cap, cur, hv, -, hh, -⟩
  · omega
  · simp only [Value.slice.injEq] at hv
    obtain ⟨rfl, -, rfl⟩ := hv
    refine ⟨g, 0, rfl, (Array.getElem?_eq_some_iff.1 hh).1, fun j hj => ?_⟩
    obtain ⟨ad, cp, ⟨a0, a1, a2, a3⟩, b2, -⟩ := h2 j (by omega)
    refine ⟨ad, cp, ?_, own_rowAt9 b2, ?_⟩
    · unfold PnCells
      rw [Nat.zero_add]
      exact ⟨(h1.cellAt _ (by omega)).trans a0, (h1.cellAt _ (by omega)).trans a1, (h1.cellAt _ (by omega)).trans a2, (h1.cellAt _ (by omega)).trans a3⟩
    · rcases b2.2 with ⟨hv, hz⟩ | ⟨g', cap', cur', hv, -, -, hc, -⟩
      · omega
      · simp only [Value.slice.injEq] at hv
        omega
theorem sumN_bound (f : Nat → Nat) (q : Nat) : ∀ m, (∀ j, j < m → f j ≤ q) → sumN f m ≤ q * m
  | 0, _ => Nat.le_refl _
  | m + 1, h => by
    have h1 := sumN_bound f q m (fun j hj => h j (by omega))
    have h2 := h m (by omega)
    show sumN f m + f m ≤ q * (m + 1)
    rw [Nat.mul_add]
    omega
theorem po_tot {B : Nat} {S : Nat → Prop} {w : World} {ad : Option Addr} {m c : Nat} {D : Pn} (h : PO B S w ad m c D) (hm : m ≤ 50) : pnTot D ≤ 1048576 := by
  obtain ⟨xs, -, ⟨hn, h2⟩, -⟩ := h
  have h9 := sumN_bound (pnSz D) 20100 m (fun j hj => by
    obtain ⟨ad, cp, -, -, -, h4, h5⟩ := h2 j hj
    show (D.NM j).size + (D.KL j).length ≤ 20100
    omega)
  unfold pnTot
  rw [hn]
  omega
theorem po_small {Z B : Nat} {S : Nat → Prop} {w : World} {ad : Option Addr} {m c : Nat} {D : Pn} (h : POZ Z B S w ad m c D) (hn : ∀ j, j < m → (D.NM j).size ≤ 20000) : PO B S w ad m c D := by
  obtain ⟨xs, h1, ⟨h2, h3⟩, h4⟩ := h
  refine ⟨xs, h1, ⟨h2, fun j hj => ?_⟩, h4⟩
  obtain ⟨ad', cp', a1, a2, a3, a4, a5⟩ := h3 j hj
  exact ⟨ad', cp', a1, a2, a3, hn j hj, a5⟩
theorem po_sizes {Z B : Nat} {S : Nat → Prop} {w : World} {ad : Option Addr} {m c : Nat} {D : Pn} (h : POZ Z B S w ad m c D) : ∀ j, j < m → (D.NM j).size ≤ Z ∧ (D.KL j).length ≤ 100 := by
  obtain ⟨xs, h1, ⟨h2, h3⟩, h4⟩ := h
  intro j hj
  obtain ⟨ad', cp', a1, a2, a3, a4, a5⟩ := h3 j hj
  exact ⟨a4, a5⟩
/-- The reader lies in block R. -/
def L8 (w : World) (R : Nat) (s : ByteArray) (p : Nat) (bd : Bool) (ad : Option Addr) (m c : Nat) : Prop := w.heap[R]? = some (.cells #[.string s, .int .i64 p, .bool bd, .slice ad m c] 58 (0, 0))
theorem l8_cells {w : World} {R : Nat} {s : ByteArray} {p : Nat} {bd : Bool} {ad : Option Addr} {m c : Nat} (h : L8 w R s p bd ad m c) : w.cell? ⟨R, 0, none⟩ = some (.string s) ∧ w.cell? ⟨R, 1, none⟩ = some (.int .i64 p) ∧ w.cell? ⟨R, 2, none⟩ = some (.bool bd) ∧ w.cell? ⟨R, 3, none⟩ = some (.slice ad m c) := by
  have e : ∀ i, w.cell? ⟨R, i, none⟩ = (#[.string s, .int .i64 p, .bool bd, .slice ad m c] : Array Value)[i]? := fun i => by rw [cell_of_row w R i _ _ (0, 0) h]
  exact ⟨e 0, e 1, e 2, e 3⟩
theorem l8_frozen {w : World} {R : Nat} {s : ByteArray} {p : Nat} {bd : Bool} {ad : Option Addr} {m c : Nat} (h : L8 w R s p bd ad m c) (i : Nat) : w.frozen? ⟨R, i, none⟩ = false := frozen_of_row w R i _ _ h
theorem l8_lt {w : World} {R : Nat} {s : ByteArray} {p : Nat} {bd : Bool} {ad : Option Addr} {m c : Nat} (h : L8 w R s p bd ad m c) : R < w.heap.size := (Array.getElem?_eq_some_iff.1 h).1
theorem l8_kp {S : Nat → Prop} {w w' : World} {R : Nat} {s : ByteArray} {p : Nat} {bd : Bool} {ad : Option Addr} {m c : Nat} (h : L8 w R s p bd ad m c) (k : Kp S w w') (hS : ¬ S R) : L8 w' R s p bd ad m c := (k.block R (l8_lt h) hS).trans h
theorem l8_p {w : World} {R : Nat} {s : ByteArray} {p : Nat} {bd : Bool} {ad : Option Addr} {m c : Nat} (h : L8 w R s p bd ad m c) (p' : Nat) : L8 (w.setCell ⟨R, 1, none⟩ (.int .i64 p')) R s p' bd ad m c := heap_setCell_same w R 1 _ _ (.int .i64 p') h
theorem l8_b {w : World} {R : Nat} {s : ByteArray} {p : Nat} {bd : Bool} {ad : Option Addr} {m c : Nat} (h : L8 w R s p bd ad m c) (b' : Bool) : L8 (w.setCell ⟨R, 2, none⟩ (.bool b')) R s p b' ad m c := heap_setCell_same w R 2 _ _ (.bool b') h
theorem l8_o {w : World} {R : Nat} {s : ByteArray} {p : Nat} {bd : Bool} {ad : Option Addr} {m c : Nat} (h : L8 w R s p bd ad m c) (ad' : Option Addr) (m' c' : Nat) : L8 (w.setCell ⟨R, 3, none⟩ (.slice ad' m' c')) R s p bd ad' m' c' := heap_setCell_same w R 3 _ _ (.slice ad' m' c') h
end Go.Proofs.Ytfohfljdgmlibaa
