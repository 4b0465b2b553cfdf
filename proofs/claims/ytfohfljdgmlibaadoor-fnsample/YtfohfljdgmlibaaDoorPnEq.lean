/-
  Contracts of the laws' helpers on rows of model nodes: a copy in new memory, and that two rows that are alike are told so.
-/
import Derived.Test.YtfohfljdgmlibaaDoorPnRow
namespace Go.Proofs.YtfohfljdgmlibaaDoor
open Go.RowKit Go.Joins
set_option linter.unusedVariables false
set_option linter.unusedSimpArgs false
theorem three_nodes {w w2 : World} {k : Int} {nm : ByteArray} {a : Option Addr} {n c : Nat} {oc : Int} {T U V : TypeId}
    (hb : Below (((w.alloc (.cells #[.int .i64 k, .string nm, .slice a n c, .int .i64 oc] T)).alloc (.cells #[.int .i64 0, .string ⟨#[]⟩, .slice none 0 0, .int .i64 0] U)).alloc (.cells #[.int .i64 k, .string nm, .slice none 0 0, .int .i64 0] V)).heap.size
      (((w.alloc (.cells #[.int .i64 k, .string nm, .slice a n c, .int .i64 oc] T)).alloc (.cells #[.int .i64 0, .string ⟨#[]⟩, .slice none 0 0, .int .i64 0] U)).alloc (.cells #[.int .i64 k, .string nm, .slice none 0 0, .int .i64 0] V)) w2) :
    NdAt w2 w.heap.size k nm a n c oc ∧ NdAt w2 (w.heap.size + 1) 0 ⟨#[]⟩ none 0 0 0 ∧ NdAt w2 (w.heap.size + 1 + 1) k nm none 0 0 0 ∧ Below w.heap.size w w2 := by
  have h1 := ndAt_new w k nm a n c oc T
  have h2 := ndAt_new (w.alloc (.cells #[.int .i64 k, .string nm, .slice a n c, .int .i64 oc] T)) 0 ⟨#[]⟩ none 0 0 0 U
  have h3 := ndAt_new ((w.alloc (.cells #[.int .i64 k, .string nm, .slice a n c, .int .i64 oc] T)).alloc (.cells #[.int .i64 0, .string ⟨#[]⟩, .slice none 0 0, .int .i64 0] U)) k nm none 0 0 0 V
  have st : ∀ (x : World) (o : Obj), Below x.heap.size x (x.alloc o) := fun x o => (Below.refl _ _).alloc (Nat.le_refl _) _
  refine ⟨ndAt_go (ndAt_go (ndAt_go h1 (st _ _)) (st _ _)) hb, ?_, ?_, ?_⟩
  · have := ndAt_go (ndAt_go h2 (st _ _)) hb
    simpa using this
  · have := ndAt_go h3 hb
    simpa using this
  · refine ((((Below.refl w.heap.size w).alloc (Nat.le_refl _) _).alloc (by simp) _).alloc (by simp; omega) _).trans (hb.mono (by simp; omega))
/-- Of a row of cells the first k nodes are those of D, each with its kids in a block of its own above g. -/
def QuadN (w : World) (g : Nat) (xs : List Value) (k : Nat) (D : Pn) : Prop := ∀ j, j < k → ∃ G, g < G ∧ (xs[j * 4]? = some (.int .i64 (D.K j)) ∧ xs[j * 4 + 1]? = some (.string (D.NM j)) ∧ xs[j * 4 + 2]? = some (.slice (some ⟨G, 0, none⟩) (D.KL j).length (D.KL j).length) ∧ xs[j * 4 + 3]? = some (.int .i64 (D.OC j))) ∧ RowAt .i64 w (some ⟨G, 0, none⟩) (D.KL j) w.heap.size
theorem quadN_go {w w' : World} {g k : Nat} {xs : List Value} {D : Pn} (h : QuadN w g xs k D) (hb : Below w.heap.size w w') : QuadN w' g xs k D := fun j hj => by
  obtain ⟨G, hG, hc, hr⟩ := h j hj
  exact ⟨G, hG, hc, rwAt_up (rwAt_go hr hb) hb.size⟩
theorem quadN_set {w : World} {g k o : Nat} {xs : List Value} {D : Pn} (h : QuadN w g xs k D) (v : Value) : QuadN (w.setCell ⟨g, o, none⟩ v) g xs k D := fun j hj => by
  obtain ⟨G, hG, hc, hr⟩ := h j hj
  refine ⟨G, hG, hc, ?_⟩
  rw [heap_setCell_size]
  exact rwAt_set hr _ _ (by show g ≠ G; omega)
theorem quadN_step {w : World} {g k n G : Nat} {xs : List Value} {D : Pn} (h : QuadN w g xs k D) (hk : k < n) (hl : xs.length = n * 4) (hG : g < G) (hr : RowAt .i64 w (some ⟨G, 0, none⟩) (D.KL k) w.heap.size) :
    QuadN w g ((((xs.set (k * 4) (.int .i64 (D.K k))).set (k * 4 + 1) (.string (D.NM k))).set (k * 4 + 2) (.slice (some ⟨G, 0, none⟩) (D.KL k).length (D.KL k).length)).set (k * 4 + 3) (.int .i64 (D.OC k))) (k + 1) D := by
  intro j hj
  simp only [List.getElem?_set, List.length_set]
  by_cases e : j = k
  · subst e
    refine ⟨G, hG, ⟨?_, ?_, ?_, ?_⟩, hr⟩
    all_goals
      repeat (first | rw [if_pos rfl, if_pos (by omega)] | rw [if_neg (by omega)])
  · obtain ⟨G', hG', ⟨h0, h1, h2, h3⟩, hr'⟩ := h j (by omega)
    refine ⟨G', hG', ⟨?_, ?_, ?_, ?_⟩, hr'⟩
    all_goals
      repeat rw [if_neg (by omega)]
      assumption
theorem own_pn {w : World} {B g n t : Nat} {xs : List Value} {D : Pn} (hn : D.n = n) (h : w.ownsRow B t 4 (.slice (some ⟨g, 0, none⟩) n n) n xs) (hp : QuadN w g xs n D) : PnAt w (some ⟨g, 0, none⟩) D w.heap.size := fun h0 => by
  have hg : g < w.heap.size := (h.lt g rfl).2
  refine ⟨g, 0, rfl, hg, fun j hj => ?_⟩
  obtain ⟨G, hG, ⟨h0, h1, h2, h3⟩, hr⟩ := hp j (by omega)
  refine ⟨some ⟨G, 0, none⟩, (D.KL j).length, ⟨?_, ?_, ?_, ?_⟩, hr, Nat.le_refl _⟩
  · rw [Nat.zero_add, h.cellAt (j * 4) (by omega)]; exact h0
  · rw [Nat.zero_add, h.cellAt (j * 4 + 1) (by omega)]; exact h1
  · rw [Nat.zero_add, h.cellAt (j * 4 + 2) (by omega)]; exact h2
  · rw [Nat.zero_add, h.cellAt (j * 4 + 3) (by omega)]; exact h3
theorem two_nodes {w w2 : World} {k : Int} {nm : ByteArray} {a a' : Option Addr} {n c c' : Nat} {oc : Int} {T U : TypeId}
    (hb : Below ((w.alloc (.cells #[.int .i64 k, .string nm, .slice a n c, .int .i64 oc] T)).alloc (.cells #[.int .i64 k, .string nm, .slice a' n c', .int .i64 oc] U)).heap.size ((w.alloc (.cells #[.int .i64 k, .string nm, .slice a n c, .int .i64 oc] T)).alloc (.cells #[.int .i64 k, .string nm, .slice a' n c', .int .i64 oc] U)) w2) :
    NdAt w2 w.heap.size k nm a n c oc ∧ NdAt w2 (w.heap.size + 1) k nm a' n c' oc ∧ Below w.heap.size w w2 := by
  have h1 := ndAt_new w k nm a n c oc T
  have h2 := ndAt_new (w.alloc (.cells #[.int .i64 k, .string nm, .slice a n c, .int .i64 oc] T)) k nm a' n c' oc U
  have st : ∀ (x : World) (o : Obj), Below x.heap.size x (x.alloc o) := fun x o => (Below.refl _ _).alloc (Nat.le_refl _) _
  refine ⟨ndAt_go (ndAt_go h1 (st _ _)) hb, ?_, ?_⟩
  · have := ndAt_go h2 hb
    simpa using this
  · exact (((Below.refl w.heap.size w).alloc (Nat.le_refl _) _).alloc (by simp) _).trans (hb.mono (by simp; omega))
theorem drewN_below9 (w : World) (q : Nat) : Below w.heap.size w (w.drewN q) := by
  induction q with
  | zero => exact Below.refl _ _
  | succ q ih => exact ih.trans ⟨rfl, rfl, rfl, Nat.le_refl _, fun _ _ => rfl⟩
def EQP (w w' : World) (b o b' o' : Nat) (D : Pn) (k : Nat) (ad : Option Addr) (cp : Nat) (ad' : Option Addr) (cp' : Nat) : Prop := Below w.heap.size w w' ∧ (b < w.heap.size ∧ b' < w.heap.size) ∧
  PnCells w' b o D k ad cp ∧ PnCells w' b' o' D k ad' cp' ∧ RowAt .i64 w' ad (D.KL k) w.heap.size ∧ RowAt .i64 w' ad' (D.KL k) w.heap.size
section
variable {w w1 w2 : World} {b o b' o' : Nat} {D : Pn} {k : Nat} {ad : Option Addr} {cp : Nat} {ad' : Option Addr} {cp' : Nat}
theorem eqp_go (x : EQP w w1 b o b' o' D k ad cp ad' cp') (h : Below w1.heap.size w1 w2) : EQP w w2 b o b' o' D k ad cp ad' cp' := by
  obtain ⟨hb, ⟨h1, h2⟩, c1, c2, r1, r2⟩ := x
  have hh := h.mono hb.size
  exact ⟨hb.trans hh, ⟨h1, h2⟩, pnCells_go c1 h1 hh, pnCells_go c2 h2 hh, rwAt_go r1 hh, rwAt_go r2 hh⟩
theorem eqp_drew (x : EQP w w1 b o b' o' D k ad cp ad' cp') : EQP w w1.drew b o b' o' D k ad cp ad' cp' := eqp_go x ⟨rfl, rfl, rfl, Nat.le_refl _, fun _ _ => rfl⟩
theorem eqp_all (x : EQP w w1 b o b' o' D k ad cp ad' cp') : EQP w w1 b o b' o' D k ad cp ad' cp' ∧ (w1.cell? ⟨b, o, none⟩ = some (.int .i64 (D.K k)) ∧ w1.cell? ⟨b, o + 1, none⟩ = some (.string (D.NM k)) ∧ w1.cell? ⟨b, o + 2, none⟩ = some (.slice ad (D.KL k).length cp) ∧ w1.cell? ⟨b, o + 3, none⟩ = some (.int .i64 (D.OC k))) ∧ w1.cell? ⟨b', o', none⟩ = some (.int .i64 (D.K k)) ∧ w1.cell? ⟨b', o' + 1, none⟩ = some (.string (D.NM k)) ∧ w1.cell? ⟨b', o' + 2, none⟩ = some (.slice ad' (D.KL k).length cp') ∧ w1.cell? ⟨b', o' + 3, none⟩ = some (.int .i64 (D.OC k)) := ⟨x, x.2.2.1, x.2.2.2.1⟩
theorem eqp_r1 (x : EQP w w1 b o b' o' D k ad cp ad' cp') : RowAt .i64 w1 ad (D.KL k) w1.heap.size := rwAt_up x.2.2.2.2.1 x.1.size
theorem eqp_r2 (x : EQP w w1 b o b' o' D k ad cp ad' cp') : RowAt .i64 w1 ad' (D.KL k) w1.heap.size := rwAt_up x.2.2.2.2.2 x.1.size
end
end Go.Proofs.YtfohfljdgmlibaaDoor
