/-
  Texts put together: TnA, NuS.
-/
import Derived.Test.YtfohfljdgmlibaaW5
import Derived.Test.YtfohfljdgmlibaaW8
/-
  Plain facts on memory while a model is turned round: the node that is copied, its kids, the row of nodes that grows.
-/
namespace Go.Proofs.Ytfohfljdgmlibaa
open Go.RowKit Go.Joins
set_option linter.unusedVariables false
set_option linter.unusedSimpArgs false
/-- A block of another type than rows of numbers and rows of nodes have. -/
def OtT (w : World) (j : Nat) : Prop := ∃ cs t, w.heap[j]? = some (.cells cs t (0, 0)) ∧ t ≠ 2 ∧ t ≠ 46
structure TnS (Rp : Nat → Prop) (B : Nat) (w0 : World) (S0 : Nat → Prop) (ro : Option Nat) (w : World) (ad : Option Addr) (m c : Nat) (O : Pn) (k : Int) (nm : ByteArray) (na : Option Addr) (nn nc : Nat) (oc : Int) (kad : Option Addr) (L : List Int) (kc : Nat) : Prop where
  nd : XN w w0.heap.size k nm na nn nc oc
  kd : w.ownsRow 0 2 1 (.slice kad L.length kc) L.length (L.map (Value.int .i64))
  po : PO B (fun j => (S0 j ∨ w0.heap.size ≤ j) ∧ (Value.slice kad L.length kc).ownBlock ≠ some j) w ad m c O
  kp : Kp (fun j => Rp j ∨ ro = some j) w0 w
  ob : ∀ j, (Value.slice ad m c).ownBlock = some j → (ro = some j ∧ j < w0.heap.size) ∨ w0.heap.size < j
  kb : ∀ j, (Value.slice kad L.length kc).ownBlock = some j → w0.heap.size < j
  rp : ∀ j, Rp j → j < w0.heap.size ∧ OtT w j
theorem ot_ne1 {w : World} {j : Nat} (h : OtT w j) {B z n i : Nat} {v : Value} {xs : List Value} (ho : w.ownsRow B 2 z v n xs) (hi : v.ownBlock = some i) : i ≠ j := by
  obtain ⟨cs, t, hj, h1, -⟩ := h
  exact type_ne ho hi hj (fun e => h1 e.symm)
theorem ot_ne2 {w : World} {j : Nat} (h : OtT w j) {B z n i : Nat} {v : Value} {xs : List Value} (ho : w.ownsRow B 46 z v n xs) (hi : v.ownBlock = some i) : i ≠ j := by
  obtain ⟨cs, t, hj, -, h1⟩ := h
  exact type_ne ho hi hj (fun e => h1 e.symm)
theorem ot_kp {S : Nat → Prop} {w w' : World} {j : Nat} (h : OtT w j) (k : Kp S w w') (hS : ¬ S j) : OtT w' j := by
  obtain ⟨cs, t, hj, h1⟩ := h
  exact ⟨cs, t, (k.block j (Array.getElem?_eq_some_iff.1 hj).1 hS).trans hj, h1⟩
/-- What a node that was turned leaves. -/
def TrnA (Rp : Nat → Prop) (B : Nat) (O : Pn) (v : Value) (S : Nat → Prop) (w w' : World) (ad : Option Addr) (m c : Nat) : Prop :=
  PO B (fun j => S j ∨ w.heap.size ≤ j) w' ad m c O ∧ Kp (fun j => Rp j ∨ v.ownBlock = some j) w w' ∧ (∀ j, (Value.slice ad m c).ownBlock = some j → v.ownBlock = some j ∨ w.heap.size ≤ j) ∧ ∀ j, Rp j → OtT w' j
section
variable {Rp : Nat → Prop} {B : Nat} {w0 w w' : World} {S0 : Nat → Prop} {ro : Option Nat} {ad : Option Addr} {m c : Nat} {O : Pn} {k : Int} {nm : ByteArray} {na : Option Addr} {nn nc : Nat} {oc : Int} {kad : Option Addr} {L : List Int} {kc : Nat}
theorem tns_new (hp : PO B S0 w0 ad m c O) (ho : ∀ j, (Value.slice ad m c).ownBlock = some j → ro = some j) (hr : ∀ j, Rp j → j < w0.heap.size ∧ OtT w0 j) (k : Int) (nm : ByteArray) (na : Option Addr) (nn nc : Nat) (oc : Int) :
    TnS Rp B w0 S0 ro (w0.alloc (.cells #[.int .i64 k, .string nm, .slice na nn nc, .int .i64 oc] 46)) ad m c O k nm na nn nc oc none [] 0 := by
  have ka : ∀ S, Kp S w0 (w0.alloc (.cells #[.int .i64 k, .string nm, .slice na nn nc, .int .i64 oc] 46)) := fun S => kp_alloc w0 _
  refine ⟨heap_alloc_new w0 _, World.ownsRow_nil _ _ _ _, ?_, ka _, fun j hj => .inl ⟨ho j hj, ?_⟩, fun j hj => (by cases hj), fun j hj => ⟨(hr j hj).1, ot_kp (hr j hj).2 (ka (fun _ => False)) (fun x => x)⟩⟩
  · exact po_imp (po_kp hp (ka (fun _ => False)) (fun _ _ x => x) (fun _ _ _ _ _ _ _ _ _ x => x)) (fun j _ hj => ⟨.inl hj, fun e => by cases e⟩)
  · obtain ⟨xs, h1, -⟩ := hp
    exact (h1.lt j hj).2
theorem tns_kp (h : TnS Rp B w0 S0 ro w ad m c O k nm na nn nc oc kad L kc) (hk : Kp (fun _ => False) w w') : TnS Rp B w0 S0 ro w' ad m c O k nm na nn nc oc kad L kc :=
  ⟨(hk.block _ (xn_lt h.nd) (fun x => x)).trans h.nd, own_kp h.kd hk (fun _ _ x => x), po_kp h.po hk (fun _ _ x => x) (fun _ _ _ _ _ _ _ _ _ x => x), h.kp.trans hk (fun _ _ x => x.elim), h.ob, h.kb, fun j hj => ⟨(h.rp j hj).1, ot_kp (h.rp j hj).2 hk (fun x => x)⟩⟩
theorem kp_of_below (hb : Below w.heap.size w w') : Kp (fun _ => False) w w' := ⟨hb.os, hb.tape, hb.output, hb.size, fun k hk _ => hb.block k hk⟩
/-- A row of kids that begins anew. -/
theorem tns_kids0 (h : TnS Rp B w0 S0 ro w ad m c O k nm na nn nc oc none [] 0) : TnS Rp B w0 S0 ro (w.alloc (.cells #[] 2)) ad m c O k nm na nn nc oc (some ⟨w.heap.size, 0, none⟩) [] 0 := by
  have h1 := tns_kp h (kp_alloc (S := fun _ => False) w (.cells #[] 2))
  have hs := h.kp.size
  have hx := xn_lt h.nd
  refine ⟨h1.nd, World.ownsRow_lit w #[] 0 (Nat.zero_le _) (by unfold maxLen; omega) rfl, ?_, h1.kp, h1.ob, fun j hj => ?_, h1.rp⟩
  · have h2 := po_kp (T := fun _ => False) h.po (kp_alloc w (.cells #[] 2)) (fun _ _ x => x) (fun _ _ _ _ _ _ _ _ _ x => x)
    obtain ⟨xs, h3, h4, h5⟩ := h.po
    refine ⟨xs, World.ownsRow.alloc h3 _, ⟨h4.1, fun j hj => ?_⟩, h5⟩
    obtain ⟨ad', cp', a1, a2, a3, a4⟩ := h4.2 j hj
    refine ⟨ad', cp', a1, World.ownsRow.alloc a2 _, fun i hi => ⟨(a3 i hi).1, fun e => ?_⟩, a4⟩
    have e' : w.heap.size = i := by simpa [Value.ownBlock] using e
    have := (a2.lt i hi).2
    omega
  · have e' : w.heap.size = j := by simpa [Value.ownBlock] using hj
    omega
/-- A node within, turned. -/
theorem tns_rec {O' : Pn} {ad' : Option Addr} {m' c' : Nat} (h : TnS Rp B w0 S0 ro w ad m c O k nm na nn nc oc kad L kc) (ha : TrnA Rp B O' (.slice ad m c) (fun j => (S0 j ∨ w0.heap.size ≤ j) ∧ (Value.slice kad L.length kc).ownBlock ≠ some j) w w' ad' m' c') : TnS Rp B w0 S0 ro w' ad' m' c' O' k nm na nn nc oc kad L kc := by
  obtain ⟨hpo, hk, hnew, hot⟩ := ha
  obtain ⟨xs, hown, hp, hdj⟩ := h.po
  have hsz := h.kp.size
  have hX := xn_lt h.nd
  refine ⟨?_, ?_, ?_, ?_, ?_, h.kb, fun j hj => ⟨(h.rp j hj).1, hot j hj⟩⟩
  · refine (hk.block _ hX ?_).trans h.nd
    rintro (e | e)
    · have := (h.rp _ e).1; omega
    · rcases h.ob _ e with ⟨-, e⟩ | e <;> omega
  · refine own_kp h.kd hk (fun j hj => ?_)
    rintro (e | e)
    · exact ot_ne1 (h.rp _ e).2 h.kd hj rfl
    · exact own_ne h.kd hj hown e (by decide) rfl
  · refine po_imp hpo (fun j _ hj => ?_)
    rcases hj with hj | hj
    · exact hj
    · refine ⟨.inr (by omega), fun e => ?_⟩
      have := (h.kd.lt j e).2
      omega
  · refine h.kp.trans hk (fun j h5 h6 => ?_)
    rcases h6 with e | e
    · exact .inl e
    · rcases h.ob _ e with ⟨e, -⟩ | e
      · exact .inr e
      · omega
  · intro j hj
    rcases hnew j hj with e | e
    · exact h.ob j e
    · exact .inr (by omega)
/-- One kid more. -/
theorem tns_kid {x : Int} {gg cap' : Nat} {w6 : World} {o : Obj} (h : TnS Rp B w0 S0 ro w ad m c O k nm na nn nc oc kad L kc) (hown6 : w6.ownsRow 0 2 1 (.slice (some ⟨gg, 0, none⟩) (L.length + 1) cap') (L.length + 1) (L.map (Value.int .i64) ++ [.int .i64 x])) (hg : (w.alloc o).grownBy w6 (Value.slice kad L.length kc).ownBlock) (hat : (Value.slice kad L.length kc).ownBlock = some gg ∨ gg = w.heap.size + 1) :
    TnS Rp B w0 S0 ro w6 ad m c O k nm na nn nc oc (some ⟨gg, 0, none⟩) (L ++ [x]) cap' := by
  have hsz := h.kp.size
  have hX := xn_lt h.nd
  obtain ⟨xs, hown, hp, hdj⟩ := h.po
  have hk : Kp (fun j => (Value.slice kad L.length kc).ownBlock = some j) w w6 := (kp_alloc w o).trans (kp_grown (S := fun j => (Value.slice kad L.length kc).ownBlock = some j) hg (fun j hj => hj)) (fun j _ hj => hj)
  have hgX : w0.heap.size < gg := by
    rcases hat with e | e
    · exact h.kb gg e
    · omega
  have hl : (L ++ [x]).length = L.length + 1 := by simp
  have n6 : XN w6 w0.heap.size k nm na nn nc oc := (hk.block _ hX (fun e => by have := h.kb _ e; omega)).trans h.nd
  have o6 : w6.ownsRow B 46 4 (.slice ad m c) m xs := own_kp hown hk (fun j hj e => own_ne h.kd e hown hj (by decide) rfl)
  have p6 : PIts (fun j => (S0 j ∨ w0.heap.size ≤ j) ∧ (Value.slice kad L.length kc).ownBlock ≠ some j) w6 xs m O := pits_kp hp hk (fun _ _ _ _ _ j _ _ hs e => hs.2 e)
  refine ⟨n6, by rw [hl, List.map_append]; exact hown6, ⟨xs, o6, ⟨p6.1, fun j hj => ?_⟩, hdj⟩, h.kp.trans hk (fun j h1 e => by have := h.kb _ e; omega), h.ob, fun j hj => ?_, fun j hj => ⟨(h.rp j hj).1, ot_kp (h.rp j hj).2 hk (fun e => ot_ne1 (h.rp j hj).2 h.kd e rfl)⟩⟩
  · obtain ⟨ad', cp', h1, h2, h3, h4⟩ := p6.2 j hj
    obtain ⟨ad9, cp9, h19, h29, h39, -⟩ := hp.2 j hj
    have hsame : Value.slice ad' (O.KL j).length cp' = Value.slice ad9 (O.KL j).length cp9 := by
      have := h1.2.2.1.symm.trans h19.2.2.1
      simpa using this
    refine ⟨ad', cp', h1, h2, fun i hi => ⟨(h3 i hi).1, fun e => ?_⟩, h4⟩
    have e' : gg = i := by simpa [Value.ownBlock] using e
    subst e'
    rcases hat with e | e
    · exact (h3 gg hi).2 e
    · have := (h29.lt gg (by rw [← hsame]; exact hi)).2
      omega
  · have e' : gg = j := by simpa [Value.ownBlock] using hj
    omega
/-- The node's kids are put anew. -/
theorem tns_x (h : TnS Rp B w0 S0 ro w ad m c O k nm na nn nc oc kad L kc) (na' : Option Addr) (nn' nc' : Nat) : TnS Rp B w0 S0 ro (w.setCell ⟨w0.heap.size, 2, none⟩ (.slice na' nn' nc')) ad m c O k nm na' nn' nc' oc kad L kc := by
  have ks : Kp (fun j => j = w0.heap.size) w (w.setCell ⟨w0.heap.size, 2, none⟩ (.slice na' nn' nc')) := kp_set (S := fun j => j = w0.heap.size) _ _ _ rfl
  refine ⟨xn_kd h.nd _ _ _, own_kp h.kd ks (fun j hj => type_ne h.kd hj h.nd (by decide)), po_kp h.po ks (fun j hj e => ?_) (fun B' z n v ys j hv hj _ => type_ne hv hj h.nd (by decide)), h.kp.trans ks (fun j h1 e => by omega), h.ob, h.kb, fun j hj => ⟨(h.rp j hj).1, ot_kp (h.rp j hj).2 ks (fun e => by have := (h.rp j hj).1; omega)⟩⟩
  rcases h.ob j hj with e' | e' <;> omega
/-- The node is put behind the row. -/
theorem tns_push {gg cap' : Nat} {w6 : World} {o : Obj} {xs : List Value} (h : TnS Rp B w0 S0 ro w ad m c O k nm na nn nc oc kad L kc) (hxs : PIts (fun j => (S0 j ∨ w0.heap.size ≤ j) ∧ (Value.slice kad L.length kc).ownBlock ≠ some j) w xs m O) (hxo : w.ownsRow B 46 4 (.slice ad m c) m xs) (hdj : Dj xs m) (hn : nm.size ≤ 20000) (hL : L.length ≤ 100)
    (hown6 : w6.ownsRow B 46 4 (.slice (some ⟨gg, 0, none⟩) (m + 1) cap') (m + 1) (xs ++ [.int .i64 k, .string nm, .slice kad L.length kc, .int .i64 oc])) (hg : (w.alloc o).grownBy w6 (Value.slice ad m c).ownBlock) (hat : (Value.slice ad m c).ownBlock = some gg ∨ gg = w.heap.size + 1) :
    PO B (fun j => S0 j ∨ w0.heap.size ≤ j) w6 (some ⟨gg, 0, none⟩) (m + 1) cap' (pushN O k nm L oc) ∧ Kp (fun j => Rp j ∨ ro = some j) w0 w6 ∧ (ro = some gg ∨ w0.heap.size ≤ gg) ∧ ∀ j, Rp j → OtT w6 j ∧ w6.heap[j]? = w.heap[j]? := by
  have hsz := h.kp.size
  have hk : Kp (fun j => (Value.slice ad m c).ownBlock = some j) w w6 := (kp_alloc w o).trans (kp_grown (S := fun j => (Value.slice ad m c).ownBlock = some j) hg (fun j hj => hj)) (fun j _ hj => hj)
  have p1 : PIts (fun j => S0 j ∨ w0.heap.size ≤ j) w xs m O := pits_imp hxs (fun j _ hj => hj.1)
  have p2 : PIts (fun j => S0 j ∨ w0.heap.size ≤ j) w (xs ++ [.int .i64 k, .string nm, .slice kad L.length kc, .int .i64 oc]) (m + 1) (pushN O k nm L oc) := pits_push p1 hxo.1 k nm L oc kad kc h.kd (fun j hj => .inr (by have := h.kb j hj; omega)) hn hL
  have p3 := pits_kp p2 hk (fun B' z n v ys j hv hj _ e => own_ne hv hj hxo e (by decide) rfl)
  refine ⟨⟨_, hown6, p3, dj_push hdj hxo.1 _ _ _ _ (fun j k hj hk e => ?_)⟩, h.kp.trans hk (fun j h1 e => by rcases h.ob _ e with ⟨e, -⟩ | e; exact .inr e; omega), ?_, fun j hj => ?_⟩
  · obtain ⟨ad', cp', h1, h2, h3, h4⟩ := hxs.2 j hj
    rw [kbk_of h1.2.2.1] at hk
    exact (h3 k hk).2 e
  · rcases hat with e | e
    · rcases h.ob _ e with ⟨e, -⟩ | e
      · exact .inl e
      · exact .inr (by omega)
    · exact .inr (by omega)
  · have hne : ¬ (Value.slice ad m c).ownBlock = some j := fun e => ot_ne2 (h.rp j hj).2 hxo e rfl
    refine ⟨ot_kp (h.rp j hj).2 hk hne, ?_⟩
    obtain ⟨cs, t, hc, -⟩ := (h.rp j hj).2
    exact hk.block j (Array.getElem?_eq_some_iff.1 hc).1 hne
end
end Go.Proofs.Ytfohfljdgmlibaa

/-
  Contract: whether a node takes no names at all, by the specification.
-/
namespace Go.Proofs.Ytfohfljdgmlibaa
open Go.RowKit Go.Joins
set_option linter.unusedVariables false
set_option linter.unusedSimpArgs false
def bdN (oc k : Int) (R : List Bool) : Bool := decide (oc = 1 ∨ oc = 2) || (if k = 2 then R.all id else if k = 3 then R.any id else false)
def nlF (D : Pn) : Nat → Nat → Bool
  | 0, _ => false
  | f + 1, i => bdN (D.OC i) (D.K i) ((D.KL i).map fun k => nlF D f k.toNat)
theorem nlF_more {D : Pn} : ∀ (f g i : Nat), Lo D i → i < f → i < g → nlF D f i = nlF D g i
  | 0, g, i, hl, hf, hg => by omega
  | f + 1, 0, i, hl, hf, hg => by omega
  | f + 1, g + 1, i, hl, hf, hg => by
    have : ((D.KL i).map fun k => nlF D f k.toNat) = (D.KL i).map fun k => nlF D g k.toNat := List.map_congr_left (fun k hk => by
      have := hl i (Nat.le_refl _) k hk
      exact nlF_more f g k.toNat (lo_less hl (by omega)) (by omega) (by omega))
    rw [nlF, nlF, this]
/-- A node takes no names at all. -/
def nl (D : Pn) (i : Nat) : Bool := nlF D (i + 1) i
theorem nl_eq {D : Pn} {i : Nat} (hl : Lo D i) : nl D i = bdN (D.OC i) (D.K i) ((D.KL i).map fun k => nl D k.toNat) := by
  have : ((D.KL i).map fun k => nlF D i k.toNat) = (D.KL i).map fun k => nl D k.toNat := List.map_congr_left (fun k hk => by
    have := hl i (Nat.le_refl _) k hk
    exact nlF_more i (k.toNat + 1) k.toNat (lo_less hl (by omega)) (by omega) (by omega))
  show nlF D (i + 1) i = _
  rw [nlF, this]
/-- What the sets of a right model lean on. -/
def RN (D : Pn) (n : Nat) : Prop := D.n = n ∧ n ≤ 40 ∧ (∀ j, j < n → nodeB D j = true) ∧ (∀ j, j < n → ∀ k, k ∈ D.KL j → 0 ≤ k ∧ k < (j : Int)) ∧ (∀ j, j < n → ∃ c, tr D j = some c) ∧ ∀ j, j < n → (D.KL j).length ≤ 1048576
theorem rn_of {D : Pn} {n : Nat} (hD : D.n = n) (h : pkB D = true) (hz : pnTot D ≤ 1048576) : RN D n := by
  obtain ⟨h1, h2, -⟩ := pk_facts h
  have h3 := pk_lo h
  rw [hD] at h1 h2 h3
  exact ⟨hD, h1.2, h2, fun j hj => (h3 j hj).2, fun j hj => (h3 j hj).1, fun j hj => ((pn_sz hz).2 j (by rw [hD]; exact hj)).2⟩
theorem rn_kinds {D : Pn} {n : Nat} (h : RN D n) {i : Nat} (hi : i < n) : D.K i = 1 ∨ D.K i = 2 ∨ D.K i = 3 ∨ D.K i = 4 := nd_kinds (h.2.2.1 i hi)
theorem all_no {R : List Bool} {m : Nat} (hm : m < R.length) (h : R[m]?.getD false = false) : R.all id = false := by
  rw [List.all_eq_false]
  rw [List.getElem?_eq_getElem hm] at h
  exact ⟨R[m], List.getElem_mem hm, by have : R[m] = false := h; rw [this]; decide⟩
theorem all_yes {R : List Bool} (h : ∀ m, m < R.length → R[m]?.getD false = true) : R.all id = true := by
  rw [List.all_eq_true]
  intro b hb
  obtain ⟨m, hm, rfl⟩ := List.mem_iff_getElem.1 hb
  have := h m hm
  rw [List.getElem?_eq_getElem hm] at this
  exact this
theorem any_yes {R : List Bool} {m : Nat} (hm : m < R.length) (h : R[m]?.getD false = true) : R.any id = true := by
  rw [List.any_eq_true]
  rw [List.getElem?_eq_getElem hm] at h
  exact ⟨R[m], List.getElem_mem hm, h⟩
theorem any_no {R : List Bool} (h : ∀ m, m < R.length → R[m]?.getD false = false) : R.any id = false := by
  rw [List.any_eq_false]
  intro b hb
  obtain ⟨m, hm, rfl⟩ := List.mem_iff_getElem.1 hb
  have := h m hm
  rw [List.getElem?_eq_getElem hm] at this
  have h2 : R[m] = false := this
  rw [h2]
  decide
end Go.Proofs.Ytfohfljdgmlibaa
