/-
  Plain facts on the reader of models, while one item is read.
-/
import Derived.Test.YtfohfljdgmlibaaW4
namespace Go.Proofs.Ytfohfljdgmlibaa
open Go.RowKit Go.Joins
set_option linter.unusedVariables false
set_option linter.unusedSimpArgs false
/-- The node that is read lies in block X. -/
def XN (w : World) (X : Nat) (k : Int) (nm : ByteArray) (a : Option Addr) (n c : Nat) (oc : Int) : Prop := w.heap[X]? = some (.cells #[.int .i64 k, .string nm, .slice a n c, .int .i64 oc] 46 (0, 0))
theorem xn_cells {w : World} {X : Nat} {k : Int} {nm : ByteArray} {a : Option Addr} {n c : Nat} {oc : Int} (h : XN w X k nm a n c oc) : w.cell? ⟨X, 0, none⟩ = some (.int .i64 k) ∧ w.cell? ⟨X, 1, none⟩ = some (.string nm) ∧ w.cell? ⟨X, 2, none⟩ = some (.slice a n c) ∧ w.cell? ⟨X, 3, none⟩ = some (.int .i64 oc) := ndAt_cells ⟨_, h⟩
theorem xn_frozen {w : World} {X : Nat} {k : Int} {nm : ByteArray} {a : Option Addr} {n c : Nat} {oc : Int} (h : XN w X k nm a n c oc) (i : Nat) : w.frozen? ⟨X, i, none⟩ = false := ndAt_frozen ⟨_, h⟩ i
theorem xn_lt {w : World} {X : Nat} {k : Int} {nm : ByteArray} {a : Option Addr} {n c : Nat} {oc : Int} (h : XN w X k nm a n c oc) : X < w.heap.size := (Array.getElem?_eq_some_iff.1 h).1
theorem xn_k {w : World} {X : Nat} {k : Int} {nm : ByteArray} {a : Option Addr} {n c : Nat} {oc : Int} (h : XN w X k nm a n c oc) (k' : Int) : XN (w.setCell ⟨X, 0, none⟩ (.int .i64 k')) X k' nm a n c oc := heap_setCell_same w X 0 _ _ (.int .i64 k') h
theorem xn_nm {w : World} {X : Nat} {k : Int} {nm : ByteArray} {a : Option Addr} {n c : Nat} {oc : Int} (h : XN w X k nm a n c oc) (nm' : ByteArray) : XN (w.setCell ⟨X, 1, none⟩ (.string nm')) X k nm' a n c oc := heap_setCell_same w X 1 _ _ (.string nm') h
theorem xn_kd {w : World} {X : Nat} {k : Int} {nm : ByteArray} {a : Option Addr} {n c : Nat} {oc : Int} (h : XN w X k nm a n c oc) (a' : Option Addr) (n' c' : Nat) : XN (w.setCell ⟨X, 2, none⟩ (.slice a' n' c')) X k nm a' n' c' oc := heap_setCell_same w X 2 _ _ (.slice a' n' c') h
theorem xn_oc {w : World} {X : Nat} {k : Int} {nm : ByteArray} {a : Option Addr} {n c : Nat} {oc : Int} (h : XN w X k nm a n c oc) (oc' : Int) : XN (w.setCell ⟨X, 3, none⟩ (.int .i64 oc')) X k nm a n c oc' := heap_setCell_same w X 3 _ _ (.int .i64 oc') h
/-- While an item is read: the reader, the node in block w0.heap.size, its kids, the row of nodes; what was there at w0 is as it was, but the reader and the row. -/
structure ItS (R B : Nat) (s : ByteArray) (w0 : World) (S0 : Nat → Prop) (ro : Option Nat) (w : World) (p : Nat) (bd : Bool) (ad : Option Addr) (m c : Nat) (D : Pn) (k : Int) (nm : ByteArray) (kad : Option Addr) (L : List Int) (kc : Nat) (oc : Int) : Prop where
  rd : L8 w R s p bd ad m c
  nd : XN w w0.heap.size k nm kad L.length kc oc
  kd : w.ownsRow 0 2 1 (.slice kad L.length kc) L.length (L.map (Value.int .i64))
  po : PO B (fun j => (S0 j ∨ w0.heap.size ≤ j) ∧ (Value.slice kad L.length kc).ownBlock ≠ some j) w ad m c D
  kp : Kp (fun j => j = R ∨ ro = some j) w0 w
  ob : ∀ j, (Value.slice ad m c).ownBlock = some j → (ro = some j ∧ j < w0.heap.size) ∨ w0.heap.size < j
  kb : ∀ j, (Value.slice kad L.length kc).ownBlock = some j → w0.heap.size < j
  lt : R < w0.heap.size
section
variable {R B : Nat} {s : ByteArray} {w0 w w' : World} {S0 : Nat → Prop} {ro : Option Nat} {p : Nat} {bd : Bool} {ad : Option Addr} {m c : Nat} {D : Pn} {k : Int} {nm : ByteArray} {kad : Option Addr} {L : List Int} {kc : Nat} {oc : Int}
theorem its_new (h : L8 w0 R s p bd ad m c) (hp : PO B S0 w0 ad m c D) (ho : ∀ j, (Value.slice ad m c).ownBlock = some j → ro = some j) (k : Int) :
    ItS R B s w0 S0 ro (w0.alloc (.cells #[.int .i64 k, .string ⟨#[]⟩, .slice none 0 0, .int .i64 0] 46)) p bd ad m c D k ⟨#[]⟩ none [] 0 0 := by
  have ka : ∀ S, Kp S w0 (w0.alloc (.cells #[.int .i64 k, .string ⟨#[]⟩, .slice none 0 0, .int .i64 0] 46)) := fun S => kp_alloc w0 _
  refine ⟨l8_kp h (ka (fun _ => False)) (fun x => x), heap_alloc_new w0 _, World.ownsRow_nil _ _ _ _, ?_, ka _, fun j hj => .inl ⟨ho j hj, ?_⟩, fun j hj => (by cases hj), l8_lt h⟩
  · exact po_imp (po_kp hp (ka (fun _ => False)) (fun _ _ x => x) (fun _ _ _ _ _ _ _ _ _ x => x)) (fun j _ hj => ⟨.inl hj, fun e => by cases e⟩)
  · obtain ⟨xs, h1, -⟩ := hp
    exact (h1.lt j hj).2
/-- A step that writes the reader alone, or what is new. -/
theorem its_step {p' : Nat} {bd' : Bool} (h : ItS R B s w0 S0 ro w p bd ad m c D k nm kad L kc oc) (hk : Kp (fun j => j = R) w w') (h8 : L8 w' R s p' bd' ad m c) : ItS R B s w0 S0 ro w' p' bd' ad m c D k nm kad L kc oc := by
  obtain ⟨xs, hown, hp, hdj⟩ := h.po
  refine ⟨h8, ?_, own_kp h.kd hk (fun j hj => type_ne h.kd hj h.rd (by decide)), ⟨xs, own_kp hown hk (fun j hj => type_ne hown hj h.rd (by decide)), pits_kp hp hk (fun B' z n v ys j hv hj _ => type_ne hv hj h.rd (by decide)), hdj⟩, h.kp.trans hk (fun j _ hj => .inl hj), h.ob, h.kb, h.lt⟩
  have hlt := h.lt
  exact (hk.block _ (xn_lt h.nd) (by omega)).trans h.nd
theorem its_drew (h : ItS R B s w0 S0 ro w p bd ad m c D k nm kad L kc oc) (q : Nat) : ItS R B s w0 S0 ro (w.drewN q) p bd ad m c D k nm kad L kc oc := its_step h (kp_drewN w q) h.rd
theorem its_bad (h : ItS R B s w0 S0 ro w p bd ad m c D k nm kad L kc oc) (b : Bool) : ItS R B s w0 S0 ro (w.setCell ⟨R, 2, none⟩ (.bool b)) p b ad m c D k nm kad L kc oc := its_step h (kp_set (S := fun j => j = R) _ _ _ rfl) (l8_b h.rd b)
theorem its_at (h : ItS R B s w0 S0 ro w p bd ad m c D k nm kad L kc oc) (p' : Nat) : ItS R B s w0 S0 ro (w.setCell ⟨R, 1, none⟩ (.int .i64 p')) p' bd ad m c D k nm kad L kc oc := its_step h (kp_set (S := fun j => j = R) _ _ _ rfl) (l8_p h.rd p')
/-- A step that writes the node alone. -/
theorem its_node {k' : Int} {nm' : ByteArray} {oc' : Int} (h : ItS R B s w0 S0 ro w p bd ad m c D k nm kad L kc oc) (hk : Kp (fun j => j = w0.heap.size) w w') (hn : XN w' w0.heap.size k' nm' kad L.length kc oc') : ItS R B s w0 S0 ro w' p bd ad m c D k' nm' kad L kc oc' := by
  obtain ⟨xs, hown, hp, hdj⟩ := h.po
  have hlt := h.lt
  refine ⟨l8_kp h.rd hk (by omega), hn, own_kp h.kd hk (fun j hj => type_ne h.kd hj h.nd (by decide)), ⟨xs, own_kp hown hk (fun j hj => ?_), pits_kp hp hk (fun B' z n v ys j hv hj _ => type_ne hv hj h.nd (by decide)), hdj⟩, h.kp.trans hk (fun j h1 h2 => by omega), h.ob, h.kb, h.lt⟩
  rcases h.ob j hj with e | e <;> omega
theorem its_k (h : ItS R B s w0 S0 ro w p bd ad m c D k nm kad L kc oc) (k' : Int) : ItS R B s w0 S0 ro (w.setCell ⟨w0.heap.size, 0, none⟩ (.int .i64 k')) p bd ad m c D k' nm kad L kc oc := its_node h (kp_set (S := fun j => j = w0.heap.size) _ _ _ rfl) (xn_k h.nd k')
theorem its_nm (h : ItS R B s w0 S0 ro w p bd ad m c D k nm kad L kc oc) (nm' : ByteArray) : ItS R B s w0 S0 ro (w.setCell ⟨w0.heap.size, 1, none⟩ (.string nm')) p bd ad m c D k nm' kad L kc oc := its_node h (kp_set (S := fun j => j = w0.heap.size) _ _ _ rfl) (xn_nm h.nd nm')
theorem its_oc (h : ItS R B s w0 S0 ro w p bd ad m c D k nm kad L kc oc) (oc' : Int) : ItS R B s w0 S0 ro (w.setCell ⟨w0.heap.size, 3, none⟩ (.int .i64 oc')) p bd ad m c D k nm kad L kc oc' := its_node h (kp_set (S := fun j => j = w0.heap.size) _ _ _ rfl) (xn_oc h.nd oc')
/-- What one item leaves, asked at one depth. -/
def ItmAns (R B d : Nat) (s : ByteArray) (p m : Nat) (bd : Bool) (v : Value) (S : Nat → Prop) (w : World) (e : Ending) (w' : World) : Prop :=
  ∃ (x : Int) (p' : Nat) (bd' : Bool) (ad : Option Addr) (m' c : Nat) (D : Pn), e = .returned (.int .i64 x) ∧ L8 w' R s p' bd' ad m' c ∧ (p ≤ p' ∧ p' ≤ s.size) ∧ (bd = true → bd' = true) ∧ (bd' = false → p < p' ∧ m' ≤ 40) ∧ (m < m' ∧ m' ≤ 41 + 2 * d) ∧
    PO B (fun j => S j ∨ w.heap.size ≤ j) w' ad m' c D ∧ Kp (fun j => j = R ∨ v.ownBlock = some j) w w' ∧ (∀ j, (Value.slice ad m' c).ownBlock = some j → v.ownBlock = some j ∨ w.heap.size ≤ j)
/-- An item within: the node and its kids stay. -/
theorem its_item {d : Nat} {e : Ending} {K9 : Prop} (h : ItS R B s w0 S0 ro w p bd ad m c D k nm kad L kc oc) (hb : ∀ x p' bd' ad' m' c' D', e = .returned (.int .i64 x) → ItS R B s w0 S0 ro w' p' bd' ad' m' c' D' k nm kad L kc oc → (p ≤ p' ∧ p' ≤ s.size) → (bd = true → bd' = true) → (bd' = false → p < p' ∧ m' ≤ 40) → (m < m' ∧ m' ≤ 41 + 2 * d) → K9) (ha : ItmAns R B d s p m bd (.slice ad m c) (fun j => (S0 j ∨ w0.heap.size ≤ j) ∧ (Value.slice kad L.length kc).ownBlock ≠ some j) w e w') : K9 := by
  obtain ⟨x, p', bd', ad', m', c', D', he, h8, h1, h2, h3, h4, hpo, hk, hnew⟩ := ha
  obtain ⟨xs, hown, hp, hdj⟩ := h.po
  have hlt := h.lt
  have hsz := h.kp.size
  have hX := xn_lt h.nd
  refine hb x p' bd' ad' m' c' D' he ⟨h8, ?_, ?_, ?_, ?_, ?_, h.kb, h.lt⟩ h1 h2 h3 h4
  · refine (hk.block _ hX ?_).trans h.nd
    rintro (e | e)
    · omega
    · rcases h.ob _ e with ⟨-, e⟩ | e <;> omega
  · refine own_kp h.kd hk (fun j hj => ?_)
    rintro (e | e)
    · exact type_ne h.kd hj h.rd (by decide) e
    · exact own_ne h.kd hj hown e (by decide) rfl
  · refine po_imp hpo (fun j _ hj => ?_)
    rcases hj with hj | hj
    · exact hj
    · refine ⟨.inr (by omega), fun e => ?_⟩
      have := (h.kd.lt j e).2
      omega
  · refine h.kp.trans hk (fun j h5 h6 => ?_)
    rcases h6 with e | e
    · exact .inl e
    · rcases h.ob _ e with ⟨e, -⟩ | e
      · exact .inr e
      · omega
  · intro j hj
    rcases hnew j hj with e | e
    · exact h.ob j e
    · exact .inr (by omega)
/-- One kid more. -/
theorem its_kid {x : Int} {gg cap' : Nat} {w6 : World} {o : Obj} (h : ItS R B s w0 S0 ro w p bd ad m c D k nm kad L kc oc) (hown6 : w6.ownsRow 0 2 1 (.slice (some ⟨gg, 0, none⟩) (L.length + 1) cap') (L.length + 1) (L.map (Value.int .i64) ++ [.int .i64 x])) (hg : (w.alloc o).grownBy w6 (Value.slice kad L.length kc).ownBlock) (hat : (Value.slice kad L.length kc).ownBlock = some gg ∨ gg = w.heap.size + 1) :
    ItS R B s w0 S0 ro (w6.setCell ⟨w0.heap.size, 2, none⟩ (.slice (some ⟨gg, 0, none⟩) (L.length + 1) cap')) p bd ad m c D k nm (some ⟨gg, 0, none⟩) (L ++ [x]) cap' oc := by
  rw [show L.length + 1 = (L ++ [x]).length by simp]
  have hlt := h.lt
  have hsz := h.kp.size
  have hX := xn_lt h.nd
  obtain ⟨xs, hown, hp, hdj⟩ := h.po
  have hk : Kp (fun j => (Value.slice kad L.length kc).ownBlock = some j) w w6 := (kp_alloc w o).trans (kp_grown (S := fun j => (Value.slice kad L.length kc).ownBlock = some j) hg (fun j hj => hj)) (fun j _ hj => hj)
  have hgX : w0.heap.size < gg := by
    rcases hat with e | e
    · exact h.kb gg e
    · omega
  have hl : (L ++ [x]).length = L.length + 1 := by simp
  have n6 : XN w6 w0.heap.size k nm kad L.length kc oc := (hk.block _ hX (fun e => by have := h.kb _ e; omega)).trans h.nd
  have r6 : L8 w6 R s p bd ad m c := l8_kp h.rd hk (fun e => type_ne h.kd e h.rd (by decide) rfl)
  have o6 : w6.ownsRow B 46 4 (.slice ad m c) m xs := own_kp hown hk (fun j hj e => own_ne h.kd e hown hj (by decide) rfl)
  have p6 : PIts (fun j => (S0 j ∨ w0.heap.size ≤ j) ∧ (Value.slice kad L.length kc).ownBlock ≠ some j) w6 xs m D := pits_kp hp hk (fun _ _ _ _ _ j _ _ hs e => hs.2 e)
  have ks : Kp (fun j => j = w0.heap.size) w6 (w6.setCell ⟨w0.heap.size, 2, none⟩ (.slice (some ⟨gg, 0, none⟩) (L ++ [x]).length cap')) := kp_set (S := fun j => j = w0.heap.size) _ _ _ rfl
  have hown7 : w6.ownsRow 0 2 1 (.slice (some ⟨gg, 0, none⟩) (L ++ [x]).length cap') (L ++ [x]).length ((L ++ [x]).map (Value.int .i64)) := by rw [hl, List.map_append]; exact hown6
  refine ⟨l8_kp r6 ks (by omega), xn_kd n6 _ _ _, own_kp hown7 ks (fun j hj => type_ne hown7 hj n6 (by decide)), ⟨xs, own_kp o6 ks (fun j hj => ?_), ?_, hdj⟩, ?_, h.ob, fun j hj => ?_, h.lt⟩
  · rcases h.ob j hj with e | e <;> omega
  · refine pits_kp ?_ ks (fun B' z n v ys j hv hj _ => type_ne hv hj n6 (by decide))
    refine ⟨p6.1, fun j hj => ?_⟩
    obtain ⟨ad', cp', h1, h2, h3, h4⟩ := p6.2 j hj
    obtain ⟨ad9, cp9, h19, h29, h39, -⟩ := hp.2 j hj
    have hsame : Value.slice ad' (D.KL j).length cp' = Value.slice ad9 (D.KL j).length cp9 := by
      have := h1.2.2.1.symm.trans h19.2.2.1
      simpa using this
    refine ⟨ad', cp', h1, h2, fun i hi => ⟨(h3 i hi).1, fun e => ?_⟩, h4⟩
    have e' : gg = i := by simpa [Value.ownBlock] using e
    subst e'
    rcases hat with e | e
    · exact (h3 gg hi).2 e
    · have := (h29.lt gg (by rw [← hsame]; exact hi)).2
      omega
  · have k6 : Kp (fun j => j = R ∨ ro = some j) w0 w6 := h.kp.trans hk (fun j h1 e => by have := h.kb _ e; omega)
    exact k6.trans ks (fun j h1 e => by omega)
  · have e' : gg = j := by simpa [Value.ownBlock] using hj
    omega
theorem its_kidX {w6 : World} {o : Obj} (h : ItS R B s w0 S0 ro w p bd ad m c D k nm kad L kc oc) (hg : (w.alloc o).grownBy w6 (Value.slice kad L.length kc).ownBlock) : XN w6 w0.heap.size k nm kad L.length kc oc := by
  have hk : Kp (fun j => (Value.slice kad L.length kc).ownBlock = some j) w w6 := (kp_alloc w o).trans (kp_grown (S := fun j => (Value.slice kad L.length kc).ownBlock = some j) hg (fun j hj => hj)) (fun j _ hj => hj)
  exact (hk.block _ (xn_lt h.nd) (fun e => by have := h.kb _ e; omega)).trans h.nd
theorem its_alloc (h : ItS R B s w0 S0 ro w p bd ad m c D k nm kad L kc oc) (o : Obj) : ItS R B s w0 S0 ro (w.alloc o) p bd ad m c D k nm kad L kc oc := its_step h (kp_alloc w o) (l8_kp (S := fun _ => False) h.rd (kp_alloc w o) (fun x => x))
/-- The node is put behind the row. -/
theorem its_push {gg cap' : Nat} {w6 : World} {o : Obj} {xs : List Value} (h : ItS R B s w0 S0 ro w p bd ad m c D k nm kad L kc oc) (hxs : PIts (fun j => (S0 j ∨ w0.heap.size ≤ j) ∧ (Value.slice kad L.length kc).ownBlock ≠ some j) w xs m D) (hxo : w.ownsRow B 46 4 (.slice ad m c) m xs) (hdj : Dj xs m) (hn : nm.size ≤ 20000) (hL : L.length ≤ 100)
    (hown6 : w6.ownsRow B 46 4 (.slice (some ⟨gg, 0, none⟩) (m + 1) cap') (m + 1) (xs ++ [.int .i64 k, .string nm, .slice kad L.length kc, .int .i64 oc])) (hg : (w.alloc o).grownBy w6 (Value.slice ad m c).ownBlock) (hat : (Value.slice ad m c).ownBlock = some gg ∨ gg = w.heap.size + 1) :
    L8 (w6.setCell ⟨R, 3, none⟩ (.slice (some ⟨gg, 0, none⟩) (m + 1) cap')) R s p bd (some ⟨gg, 0, none⟩) (m + 1) cap' ∧ PO B (fun j => S0 j ∨ w0.heap.size ≤ j) (w6.setCell ⟨R, 3, none⟩ (.slice (some ⟨gg, 0, none⟩) (m + 1) cap')) (some ⟨gg, 0, none⟩) (m + 1) cap' (pushN D k nm L oc) ∧
      Kp (fun j => j = R ∨ ro = some j) w0 (w6.setCell ⟨R, 3, none⟩ (.slice (some ⟨gg, 0, none⟩) (m + 1) cap')) ∧ (ro = some gg ∨ w0.heap.size ≤ gg) := by
  have hlt := h.lt
  have hsz := h.kp.size
  have hk : Kp (fun j => (Value.slice ad m c).ownBlock = some j) w w6 := (kp_alloc w o).trans (kp_grown (S := fun j => (Value.slice ad m c).ownBlock = some j) hg (fun j hj => hj)) (fun j _ hj => hj)
  have r6 : L8 w6 R s p bd ad m c := l8_kp h.rd hk (fun e => type_ne hxo e h.rd (by decide) rfl)
  have ks : Kp (fun j => j = R) w6 (w6.setCell ⟨R, 3, none⟩ (.slice (some ⟨gg, 0, none⟩) (m + 1) cap')) := kp_set (S := fun j => j = R) _ _ _ rfl
  have p1 : PIts (fun j => S0 j ∨ w0.heap.size ≤ j) w xs m D := pits_imp hxs (fun j _ hj => hj.1)
  have p2 : PIts (fun j => S0 j ∨ w0.heap.size ≤ j) w (xs ++ [.int .i64 k, .string nm, .slice kad L.length kc, .int .i64 oc]) (m + 1) (pushN D k nm L oc) := pits_push p1 hxo.1 k nm L oc kad kc h.kd (fun j hj => .inr (by have := h.kb j hj; omega)) hn hL
  have p3 := pits_kp p2 hk (fun B' z n v ys j hv hj _ e => own_ne hv hj hxo e (by decide) rfl)
  refine ⟨l8_o r6 _ _ _, ⟨_, own_kp hown6 ks (fun j hj => type_ne hown6 hj r6 (by decide)), pits_kp p3 ks (fun B' z n v ys j hv hj _ => type_ne hv hj r6 (by decide)), dj_push hdj hxo.1 _ _ _ _ (fun j k hj hk e => ?_)⟩, ?_, ?_⟩
  · obtain ⟨ad', cp', h1, h2, h3, h4⟩ := hxs.2 j hj
    rw [kbk_of h1.2.2.1] at hk
    exact (h3 k hk).2 e
  · have k6 : Kp (fun j => j = R ∨ ro = some j) w0 w6 := h.kp.trans hk (fun j h1 e => by rcases h.ob _ e with ⟨e, -⟩ | e; exact .inr e; omega)
    exact k6.trans ks (fun j h1 e => .inl e)
  · rcases hat with e | e
    · rcases h.ob _ e with ⟨e, -⟩ | e
      · exact .inl e
      · exact .inr (by omega)
    · exact .inr (by omega)
theorem grown_undrew {w w6 : World} {row : Option Nat} (h : w.drew.grownBy w6 row) : w.grownBy w6 row := ⟨h.os, h.tape, h.output, h.size, h.block⟩
theorem its_pushR {w6 : World} {o : Obj} {xs : List Value} (h : ItS R B s w0 S0 ro w p bd ad m c D k nm kad L kc oc) (hxo : w.ownsRow B 46 4 (.slice ad m c) m xs) (hg : (w.alloc o).grownBy w6 (Value.slice ad m c).ownBlock) : L8 w6 R s p bd ad m c := by
  have hk : Kp (fun j => (Value.slice ad m c).ownBlock = some j) w w6 := (kp_alloc w o).trans (kp_grown (S := fun j => (Value.slice ad m c).ownBlock = some j) hg (fun j hj => hj)) (fun j _ hj => hj)
  exact l8_kp h.rd hk (fun e => type_ne hxo e h.rd (by decide) rfl)
/-- How much of the text is left to a reader that has met nothing bad. -/
def rdM (R n : Nat) (w : World) : Nat := match w.cell? ⟨R, 2, none⟩, w.cell? ⟨R, 1, none⟩ with
  | some (.bool false), some (.int _ p) => n + 1 - p.toNat
  | _, _ => 0
theorem rdM_of (h : L8 w R s p bd ad m c) : rdM R s.size w = if bd = true then 0 else s.size + 1 - p := by
  obtain ⟨c0, c1, c2, c3⟩ := l8_cells h
  unfold rdM
  rw [c1, c2]
  cases bd <;> simp
end
end Go.Proofs.Ytfohfljdgmlibaa
