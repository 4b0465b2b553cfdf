/-
  Plain facts on the program's reader of models, while one node is read.
-/
import Derived.Test.YtfohfljdgmlibaaW5
import Derived.Test.YtfohfljdgmlibaaW37
namespace Go.Proofs.Ytfohfljdgmlibaa
open Go.RowKit Go.Joins
set_option linter.unusedVariables false
set_option linter.unusedSimpArgs false
/-- While a node is read: the reader, the node in block X, its kids, the row of nodes; what was there at w0 is as it was, but the reader and the row. -/
structure RJ (R B : Nat) (w0 : World) (S0 : Nat → Prop) (ro : Option Nat) (X : Nat) (w : World) (u : ByteArray) (ad : Option Addr) (m c : Nat) (D : Pn) (k : Int) (nm : ByteArray) (kad : Option Addr) (L : List Int) (kc : Nat) (oc : Int) : Prop where
  rd : MR w R u ad m c
  nd : XN w X k nm kad L.length kc oc
  kd : w.ownsRow 0 2 1 (.slice kad L.length kc) L.length (L.map (Value.int .i64))
  po : POZ 1048576 B (fun j => (S0 j ∨ w0.heap.size ≤ j) ∧ (Value.slice kad L.length kc).ownBlock ≠ some j) w ad m c D
  kp : Kp (fun j => j = R ∨ ro = some j) w0 w
  ob : ∀ j, (Value.slice ad m c).ownBlock = some j → ((ro = some j ∧ j < w0.heap.size) ∨ w0.heap.size ≤ j) ∧ j ≠ X
  kb : ∀ j, (Value.slice kad L.length kc).ownBlock = some j → w0.heap.size ≤ j
  lt : R < w0.heap.size
  hx : w0.heap.size ≤ X
section
variable {R B X : Nat} {u u' : ByteArray} {w0 w w' : World} {S0 : Nat → Prop} {ro : Option Nat} {ad : Option Addr} {m c : Nat} {D : Pn} {k : Int} {nm : ByteArray} {kad : Option Addr} {L : List Int} {kc : Nat} {oc : Int}
theorem po_lt {S : Nat → Prop} (hp : POZ 1048576 B S w ad m c D) (j : Nat) (hj : (Value.slice ad m c).ownBlock = some j) : j < w.heap.size := by
  obtain ⟨xs, h1, -⟩ := hp
  exact (h1.lt j hj).2
/-- A new node, with kids that lie somewhere new. -/
theorem rj_new {wk : World} (h : MR wk R u ad m c) (hp : POZ 1048576 B (fun j => (S0 j ∨ w0.heap.size ≤ j) ∧ (Value.slice kad L.length kc).ownBlock ≠ some j) wk ad m c D) (hk : wk.ownsRow 0 2 1 (.slice kad L.length kc) L.length (L.map (Value.int .i64))) (hkp : Kp (fun j => j = R ∨ ro = some j) w0 wk)
    (ho : ∀ j, (Value.slice ad m c).ownBlock = some j → (ro = some j ∧ j < w0.heap.size) ∨ w0.heap.size ≤ j) (hkb : ∀ j, (Value.slice kad L.length kc).ownBlock = some j → w0.heap.size ≤ j) (hlt : R < w0.heap.size) (k : Int) (nm : ByteArray) (oc : Int) :
    RJ R B w0 S0 ro wk.heap.size (wk.alloc (.cells #[.int .i64 k, .string nm, .slice kad L.length kc, .int .i64 oc] 46)) u ad m c D k nm kad L kc oc := by
  have ka : ∀ S, Kp S wk (wk.alloc (.cells #[.int .i64 k, .string nm, .slice kad L.length kc, .int .i64 oc] 46)) := fun S => kp_alloc wk _
  refine ⟨mr_kp h (ka (fun _ => False)) (fun x => x), heap_alloc_new wk _, own_kp hk (ka (fun _ => False)) (fun _ _ x => x), po_kp hp (ka (fun _ => False)) (fun _ _ x => x) (fun _ _ _ _ _ _ _ _ _ x => x), hkp.trans (ka (fun _ => False)) (fun j _ x => x.elim), fun j hj => ⟨ho j hj, ?_⟩, hkb, hlt, hkp.size⟩
  have := po_lt hp j hj
  omega
/-- A step that writes the reader alone, or what is new. -/
theorem rj_step (h : RJ R B w0 S0 ro X w u ad m c D k nm kad L kc oc) (hk : Kp (fun j => j = R) w w') (h8 : MR w' R u' ad m c) : RJ R B w0 S0 ro X w' u' ad m c D k nm kad L kc oc := by
  obtain ⟨xs, hown, hp, hdj⟩ := h.po
  refine ⟨h8, ?_, own_kp h.kd hk (fun j hj => type_ne h.kd hj h.rd (by decide)), ⟨xs, own_kp hown hk (fun j hj => type_ne hown hj h.rd (by decide)), pits_kp hp hk (fun B' z n v ys j hv hj _ => type_ne hv hj h.rd (by decide)), hdj⟩, h.kp.trans hk (fun j _ hj => .inl hj), h.ob, h.kb, h.lt, h.hx⟩
  have hlt := h.lt
  have hx := h.hx
  exact (hk.block _ (xn_lt h.nd) (by omega)).trans h.nd
theorem rj_drew (h : RJ R B w0 S0 ro X w u ad m c D k nm kad L kc oc) (q : Nat) : RJ R B w0 S0 ro X (w.drewN q) u ad m c D k nm kad L kc oc := rj_step h (kp_drewN w q) h.rd
theorem rj_dr (h : RJ R B w0 S0 ro X w u ad m c D k nm kad L kc oc) : RJ R B w0 S0 ro X w.drew u ad m c D k nm kad L kc oc := rj_step h (kp_drew w) h.rd
/-- A step that writes the node alone. -/
theorem rj_node {k' : Int} {nm' : ByteArray} {oc' : Int} (h : RJ R B w0 S0 ro X w u ad m c D k nm kad L kc oc) (hk : Kp (fun j => j = X) w w') (hn : XN w' X k' nm' kad L.length kc oc') : RJ R B w0 S0 ro X w' u ad m c D k' nm' kad L kc oc' := by
  obtain ⟨xs, hown, hp, hdj⟩ := h.po
  have hlt := h.lt
  have hx := h.hx
  refine ⟨mr_kp h.rd hk (by omega), hn, own_kp h.kd hk (fun j hj => type_ne h.kd hj h.nd (by decide)), ⟨xs, own_kp hown hk (fun j hj => (h.ob j hj).2), pits_kp hp hk (fun B' z n v ys j hv hj _ => type_ne hv hj h.nd (by decide)), hdj⟩, h.kp.trans hk (fun j h1 h2 => by omega), h.ob, h.kb, h.lt, h.hx⟩
theorem rj_k (h : RJ R B w0 S0 ro X w u ad m c D k nm kad L kc oc) (k' : Int) : RJ R B w0 S0 ro X (w.setCell ⟨X, 0, none⟩ (.int .i64 k')) u ad m c D k' nm kad L kc oc := rj_node h (kp_set (S := fun j => j = X) _ _ _ rfl) (xn_k h.nd k')
theorem rj_nm (h : RJ R B w0 S0 ro X w u ad m c D k nm kad L kc oc) (nm' : ByteArray) : RJ R B w0 S0 ro X (w.setCell ⟨X, 1, none⟩ (.string nm')) u ad m c D k nm' kad L kc oc := rj_node h (kp_set (S := fun j => j = X) _ _ _ rfl) (xn_nm h.nd nm')
theorem rj_oc (h : RJ R B w0 S0 ro X w u ad m c D k nm kad L kc oc) (oc' : Int) : RJ R B w0 S0 ro X (w.setCell ⟨X, 3, none⟩ (.int .i64 oc')) u ad m c D k nm kad L kc oc' := rj_node h (kp_set (S := fun j => j = X) _ _ _ rfl) (xn_oc h.nd oc')
theorem rj_alloc (h : RJ R B w0 S0 ro X w u ad m c D k nm kad L kc oc) (o : Obj) : RJ R B w0 S0 ro X (w.alloc o) u ad m c D k nm kad L kc oc := rj_step h (kp_alloc w o) (mr_kp (S := fun _ => False) h.rd (kp_alloc w o) (fun x => x))
/-- A node within: the node and its kids stay. -/
theorem rj_item {ad' : Option Addr} {m' c' : Nat} {D' : Pn} (h : RJ R B w0 S0 ro X w u ad m c D k nm kad L kc oc) (h8 : MR w' R u' ad' m' c') (hpo : POZ 1048576 B (fun j => ((S0 j ∨ w0.heap.size ≤ j) ∧ (Value.slice kad L.length kc).ownBlock ≠ some j) ∨ w.heap.size ≤ j) w' ad' m' c' D') (hk : Kp (fun j => j = R ∨ (Value.slice ad m c).ownBlock = some j) w w') (hnew : ∀ j, (Value.slice ad' m' c').ownBlock = some j → (Value.slice ad m c).ownBlock = some j ∨ w.heap.size ≤ j) :
    RJ R B w0 S0 ro X w' u' ad' m' c' D' k nm kad L kc oc := by
  obtain ⟨xs, hown, hp, hdj⟩ := h.po
  have hlt := h.lt
  have hsz := h.kp.size
  have hX := xn_lt h.nd
  have hx := h.hx
  refine ⟨h8, ?_, ?_, ?_, ?_, ?_, h.kb, h.lt, h.hx⟩
  · refine (hk.block _ hX ?_).trans h.nd
    rintro (e | e)
    · omega
    · exact (h.ob _ e).2 rfl
  · refine own_kp h.kd hk (fun j hj => ?_)
    rintro (e | e)
    · exact type_ne h.kd hj h.rd (by decide) e
    · exact own_ne h.kd hj hown e (by decide) rfl
  · refine po_imp hpo (fun j _ hj => ?_)
    rcases hj with hj | hj
    · exact hj
    · refine ⟨.inr (by omega), fun e => ?_⟩
      have := (h.kd.lt j e).2
      omega
  · refine h.kp.trans hk (fun j h5 h6 => ?_)
    rcases h6 with e | e
    · exact .inl e
    · rcases (h.ob _ e).1 with ⟨e, -⟩ | e
      · exact .inr e
      · omega
  · intro j hj
    rcases hnew j hj with e | e
    · exact h.ob j e
    · exact ⟨.inr (by omega), by omega⟩
/-- One kid more. -/
theorem rj_kid {x : Int} {gg cap' : Nat} {w6 : World} {o : Obj} (h : RJ R B w0 S0 ro X w u ad m c D k nm kad L kc oc) (hown6 : w6.ownsRow 0 2 1 (.slice (some ⟨gg, 0, none⟩) (L.length + 1) cap') (L.length + 1) (L.map (Value.int .i64) ++ [.int .i64 x])) (hg : (w.alloc o).grownBy w6 (Value.slice kad L.length kc).ownBlock) (hat : (Value.slice kad L.length kc).ownBlock = some gg ∨ gg = w.heap.size + 1) :
    RJ R B w0 S0 ro X (w6.setCell ⟨X, 2, none⟩ (.slice (some ⟨gg, 0, none⟩) (L.length + 1) cap')) u ad m c D k nm (some ⟨gg, 0, none⟩) (L ++ [x]) cap' oc := by
  rw [show L.length + 1 = (L ++ [x]).length by simp]
  have hlt := h.lt
  have hx := h.hx
  have hsz := h.kp.size
  have hX := xn_lt h.nd
  obtain ⟨xs, hown, hp, hdj⟩ := h.po
  have hk : Kp (fun j => (Value.slice kad L.length kc).ownBlock = some j) w w6 := (kp_alloc w o).trans (kp_grown (S := fun j => (Value.slice kad L.length kc).ownBlock = some j) hg (fun j hj => hj)) (fun j _ hj => hj)
  have hgX : w0.heap.size ≤ gg := by
    rcases hat with e | e
    · exact h.kb gg e
    · omega
  have hl : (L ++ [x]).length = L.length + 1 := by simp
  have n6 : XN w6 X k nm kad L.length kc oc := (hk.block _ hX (fun e => type_ne h.kd e h.nd (by decide) rfl)).trans h.nd
  have r6 : MR w6 R u ad m c := mr_kp h.rd hk (fun e => type_ne h.kd e h.rd (by decide) rfl)
  have o6 : w6.ownsRow B 46 4 (.slice ad m c) m xs := own_kp hown hk (fun j hj e => own_ne h.kd e hown hj (by decide) rfl)
  have p6 : PItsZ 1048576 (fun j => (S0 j ∨ w0.heap.size ≤ j) ∧ (Value.slice kad L.length kc).ownBlock ≠ some j) w6 xs m D := pits_kp hp hk (fun _ _ _ _ _ j _ _ hs e => hs.2 e)
  have ks : Kp (fun j => j = X) w6 (w6.setCell ⟨X, 2, none⟩ (.slice (some ⟨gg, 0, none⟩) (L ++ [x]).length cap')) := kp_set (S := fun j => j = X) _ _ _ rfl
  have hown7 : w6.ownsRow 0 2 1 (.slice (some ⟨gg, 0, none⟩) (L ++ [x]).length cap') (L ++ [x]).length ((L ++ [x]).map (Value.int .i64)) := by rw [hl, List.map_append]; exact hown6
  refine ⟨mr_kp r6 ks (by omega), xn_kd n6 _ _ _, own_kp hown7 ks (fun j hj => type_ne hown7 hj n6 (by decide)), ⟨xs, own_kp o6 ks (fun j hj => (h.ob j hj).2), ?_, hdj⟩, ?_, h.ob, fun j hj => ?_, h.lt, h.hx⟩
  · refine pits_kp ?_ ks (fun B' z n v ys j hv hj _ => type_ne hv hj n6 (by decide))
    refine ⟨p6.1, fun j hj => ?_⟩
    obtain ⟨ad', cp', h1, h2, h3, h4⟩ := p6.2 j hj
    obtain ⟨ad9, cp9, h19, h29, h39, -⟩ := hp.2 j hj
    have hsame : Value.slice ad' (D.KL j).length cp' = Value.slice ad9 (D.KL j).length cp9 := by
      have := h1.2.2.1.symm.trans h19.2.2.1
      simpa using this
    refine ⟨ad', cp', h1, h2, fun i hi => ⟨(h3 i hi).1, fun e => ?_⟩, h4⟩
    have e' : gg = i := by simpa [Value.ownBlock] using e
    subst e'
    rcases hat with e | e
    · exact (h3 gg hi).2 e
    · have := (h29.lt gg (by rw [← hsame]; exact hi)).2
      omega
  · have k6 : Kp (fun j => j = R ∨ ro = some j) w0 w6 := h.kp.trans hk (fun j h1 e => by have := h.kb _ e; omega)
    exact k6.trans ks (fun j h1 e => by omega)
  · have e' : gg = j := by simpa [Value.ownBlock] using hj
    omega
theorem rj_kidX {w6 : World} {o : Obj} (h : RJ R B w0 S0 ro X w u ad m c D k nm kad L kc oc) (hg : (w.alloc o).grownBy w6 (Value.slice kad L.length kc).ownBlock) : XN w6 X k nm kad L.length kc oc := by
  have hk : Kp (fun j => (Value.slice kad L.length kc).ownBlock = some j) w w6 := (kp_alloc w o).trans (kp_grown (S := fun j => (Value.slice kad L.length kc).ownBlock = some j) hg (fun j hj => hj)) (fun j _ hj => hj)
  exact (hk.block _ (xn_lt h.nd) (fun e => type_ne h.kd e h.nd (by decide) rfl)).trans h.nd
/-- The node is put behind the row. -/
theorem rj_push {gg cap' : Nat} {w6 : World} {o : Obj} {xs : List Value} (h : RJ R B w0 S0 ro X w u ad m c D k nm kad L kc oc) (hxs : PItsZ 1048576 (fun j => (S0 j ∨ w0.heap.size ≤ j) ∧ (Value.slice kad L.length kc).ownBlock ≠ some j) w xs m D) (hxo : w.ownsRow B 46 4 (.slice ad m c) m xs) (hdj : Dj xs m) (hn : nm.size ≤ 1048576) (hL : L.length ≤ 100)
    (hown6 : w6.ownsRow B 46 4 (.slice (some ⟨gg, 0, none⟩) (m + 1) cap') (m + 1) (xs ++ [.int .i64 k, .string nm, .slice kad L.length kc, .int .i64 oc])) (hg : (w.alloc o).grownBy w6 (Value.slice ad m c).ownBlock) (hat : (Value.slice ad m c).ownBlock = some gg ∨ gg = w.heap.size + 1) :
    MR (w6.setCell ⟨R, 1, none⟩ (.slice (some ⟨gg, 0, none⟩) (m + 1) cap')) R u (some ⟨gg, 0, none⟩) (m + 1) cap' ∧ POZ 1048576 B (fun j => S0 j ∨ w0.heap.size ≤ j) (w6.setCell ⟨R, 1, none⟩ (.slice (some ⟨gg, 0, none⟩) (m + 1) cap')) (some ⟨gg, 0, none⟩) (m + 1) cap' (pushN D k nm L oc) ∧
      Kp (fun j => j = R ∨ ro = some j) w0 (w6.setCell ⟨R, 1, none⟩ (.slice (some ⟨gg, 0, none⟩) (m + 1) cap')) ∧ (ro = some gg ∨ w0.heap.size ≤ gg) := by
  have hlt := h.lt
  have hsz := h.kp.size
  have hk : Kp (fun j => (Value.slice ad m c).ownBlock = some j) w w6 := (kp_alloc w o).trans (kp_grown (S := fun j => (Value.slice ad m c).ownBlock = some j) hg (fun j hj => hj)) (fun j _ hj => hj)
  have r6 : MR w6 R u ad m c := mr_kp h.rd hk (fun e => type_ne hxo e h.rd (by decide) rfl)
  have ks : Kp (fun j => j = R) w6 (w6.setCell ⟨R, 1, none⟩ (.slice (some ⟨gg, 0, none⟩) (m + 1) cap')) := kp_set (S := fun j => j = R) _ _ _ rfl
  have p1 : PItsZ 1048576 (fun j => S0 j ∨ w0.heap.size ≤ j) w xs m D := pits_imp hxs (fun j _ hj => hj.1)
  have p2 : PItsZ 1048576 (fun j => S0 j ∨ w0.heap.size ≤ j) w (xs ++ [.int .i64 k, .string nm, .slice kad L.length kc, .int .i64 oc]) (m + 1) (pushN D k nm L oc) := pits_push p1 hxo.1 k nm L oc kad kc h.kd (fun j hj => .inr (h.kb j hj)) hn hL
  have p3 := pits_kp p2 hk (fun B' z n v ys j hv hj _ e => own_ne hv hj hxo e (by decide) rfl)
  refine ⟨mr_o r6 _ _ _, ⟨_, own_kp hown6 ks (fun j hj => type_ne hown6 hj r6 (by decide)), pits_kp p3 ks (fun B' z n v ys j hv hj _ => type_ne hv hj r6 (by decide)), dj_push hdj hxo.1 _ _ _ _ (fun j k hj hk e => ?_)⟩, ?_, ?_⟩
  · obtain ⟨ad', cp', h1, h2, h3, h4⟩ := hxs.2 j hj
    rw [kbk_of h1.2.2.1] at hk
    exact (h3 k hk).2 e
  · have k6 : Kp (fun j => j = R ∨ ro = some j) w0 w6 := h.kp.trans hk (fun j h1 e => by rcases (h.ob _ e).1 with ⟨e, -⟩ | e; exact .inr e; omega)
    exact k6.trans ks (fun j h1 e => .inl e)
  · rcases hat with e | e
    · rcases (h.ob _ e).1 with ⟨e, -⟩ | e
      · exact .inl e
      · exact .inr (by omega)
    · exact .inr (by omega)
theorem rj_pushR {w6 : World} {o : Obj} {xs : List Value} (h : RJ R B w0 S0 ro X w u ad m c D k nm kad L kc oc) (hxo : w.ownsRow B 46 4 (.slice ad m c) m xs) (hg : (w.alloc o).grownBy w6 (Value.slice ad m c).ownBlock) : MR w6 R u ad m c := by
  have hk : Kp (fun j => (Value.slice ad m c).ownBlock = some j) w w6 := (kp_alloc w o).trans (kp_grown (S := fun j => (Value.slice ad m c).ownBlock = some j) hg (fun j hj => hj)) (fun j _ hj => hj)
  exact mr_kp h.rd hk (fun e => type_ne hxo e h.rd (by decide) rfl)
end
end Go.Proofs.Ytfohfljdgmlibaa
