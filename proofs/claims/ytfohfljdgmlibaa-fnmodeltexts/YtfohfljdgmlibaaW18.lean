/-
  Contracts of the laws' helpers on rows of model nodes: a copy in new memory, and that two rows that are alike are told so.
-/
import Derived.Test.YtfohfljdgmlibaaW3
namespace Go.Proofs.Ytfohfljdgmlibaa
open Go.RowKit Go.Joins
set_option linter.unusedVariables false
set_option linter.unusedSimpArgs false
theorem three_nodes {w w2 : World} {k : Int} {nm : ByteArray} {a : Option Addr} {n c : Nat} {oc : Int} {T U V : TypeId}
    (hb : Below (((w.alloc (.cells #[.int .i64 k, .string nm, .slice a n c, .int .i64 oc] T)).alloc (.cells #[.int .i64 0, .string ⟨#[]⟩, .slice none 0 0, .int .i64 0] U)).alloc (.cells #[.int .i64 k, .string nm, .slice none 0 0, .int .i64 0] V)).heap.size
      (((w.alloc (.cells #[.int .i64 k, .string nm, .slice a n c, .int .i64 oc] T)).alloc (.cells #[.int .i64 0, .string ⟨#[]⟩, .slice none 0 0, .int .i64 0] U)).alloc (.cells #[.int .i64 k, .string nm, .slice none 0 0, .int .i64 0] V)) w2) :
    NdAt w2 w.heap.size k nm a n c oc ∧ NdAt w2 (w.heap.size + 1) 0 ⟨#[]⟩ none 0 0 0 ∧ NdAt w2 (w.heap.size + 1 + 1) k nm none 0 0 0 ∧ Below w.heap.size w w2 := by
  have h1 := ndAt_new w k nm a n c oc T
  have h2 := ndAt_new (w.alloc (.cells #[.int .i64 k, .string nm, .slice a n c, .int .i64 oc] T)) 0 ⟨#[]⟩ none 0 0 0 U
  have h3 := ndAt_new ((w.alloc (.cells #[.int .i64 k, .string nm, .slice a n c, .int .i64 oc] T)).alloc (.cells #[.int .i64 0, .string ⟨#[]⟩, .slice none 0 0, .int .i64 0] U)) k nm none 0 0 0 V
  have st : ∀ (x : World) (o : Obj), Below x.heap.size x (x.alloc o) := fun x o => (Below.refl _ _).alloc (Nat.le_refl _) _
  refine ⟨ndAt_go (ndAt_go (ndAt_go h1 (st _ _)) (st _ _)) hb, ?_, ?_, ?_⟩
  · have := ndAt_go (ndAt_go h2 (st _ _)) hb
    simpa using this
  · have := ndAt_go h3 hb
    simpa using this
  · refine ((((Below.refl w.heap.size w).alloc (Nat.le_refl _) _).alloc (by simp) _).alloc (by simp; omega) _).trans (hb.mono (by simp; omega))
set_option maxHeartbeats 2000000 in
theorem l_toP (k : Int) (nm : ByteArray) (a : Option Addr) (L : List Int) (n c : Nat) (oc : Int) (w : World) (hL : L.length = n) (hn : n ≤ 1048576) (hr : RowAt .i64 w a L w.heap.size) :
    Calls Try.prog 40 #[.agg #[.int .i64 k, .string nm, .slice a n c, .int .i64 oc]] w fun e w' => ∃ G, e = .returned (.agg #[.int .i64 k, .string nm, .slice (some ⟨G, 0, none⟩) n n, .int .i64 oc]) ∧ w.heap.size ≤ G ∧
      RowAt .i64 w' (some ⟨G, 0, none⟩) L w'.heap.size ∧ Below w.heap.size w w' := by
  have HR := hide hr
  have HL := hide hL
  clear hr hL
  go_enter Try.func40, Try.ntmps40
  go_wp2_with (go_at_call 66; refine (to_ints _ _ _ L _ HL.out hn (rwAt_up (rwAt_go HR.out ((((Below.refl _ _).alloc (Nat.le_refl _) _).alloc (by simp) _).alloc (by simp; omega) _)) (by simp; omega))).mono ?_; rintro e w2 ⟨rfl, hr2, hb2⟩; obtain ⟨hN1, hN2, hN3, hB⟩ := three_nodes hb2; have HN2 := hide hN2; have HR2 := hide (own_rowAt9 hr2); have HB := hide hB; obtain ⟨a0, a1, a2, a3⟩ := ndAt_cells hN1; obtain ⟨b0, b1, b2, b3⟩ := ndAt_cells hN2; obtain ⟨c0, c1, c2, c3⟩ := ndAt_cells hN3; have f0 := ndAt_frozen hN2; have g0 := ndAt_frozen hN3; clear hb2 hr2 hN1 hN2 hN3 hB)
  refine bodyPost_ret (v := .agg #[.int .i64 k, .string nm, .slice (some ⟨w.heap.size + 1 + 1 + 1, 0, none⟩) n n, .int .i64 oc]) ?_ rfl ⟨_, rfl, by omega, ?_, ?_⟩
  · obtain ⟨T, hT⟩ := ndAt_sets (k' := k) (nm' := nm) (a' := some ⟨w.heap.size + 1 + 1 + 1, 0, none⟩) (n' := n) (c' := n) (oc' := oc) (ndAt_far (ndAt_far HN2.out ⟨w.heap.size + 1 + 1, 2, none⟩ (.slice (some ⟨w.heap.size + 1 + 1 + 1, 0, none⟩) n n) (by simp)) ⟨w.heap.size + 1 + 1, 3, none⟩ (.int .i64 oc) (by simp))
    exact results_cell_row Try.results40 _ _ (w.heap.size + 1) T _ _ _ rfl hT Try.underlying46 rfl (by kernel_rfl)
  · have h := HR2.out
    simp only [heap_setCell_size]
    iterate 6 (refine rwAt_set ?_ _ _ (by simp))
    simpa using h
  · iterate 6 (refine Below.setCell ?_ (by simp; try omega) _)
    exact HB.out
/-- Of a row of cells the first k nodes are those of D, each with its kids in a block of its own above g. -/
def QuadN (w : World) (g : Nat) (xs : List Value) (k : Nat) (D : Pn) : Prop := ∀ j, j < k → ∃ G, g < G ∧ (xs[j * 4]? = some (.int .i64 (D.K j)) ∧ xs[j * 4 + 1]? = some (.string (D.NM j)) ∧ xs[j * 4 + 2]? = some (.slice (some ⟨G, 0, none⟩) (D.KL j).length (D.KL j).length) ∧ xs[j * 4 + 3]? = some (.int .i64 (D.OC j))) ∧ RowAt .i64 w (some ⟨G, 0, none⟩) (D.KL j) w.heap.size
theorem quadN_go {w w' : World} {g k : Nat} {xs : List Value} {D : Pn} (h : QuadN w g xs k D) (hb : Below w.heap.size w w') : QuadN w' g xs k D := fun j hj => by
  obtain ⟨G, hG, hc, hr⟩ := h j hj
  exact ⟨G, hG, hc, rwAt_up (rwAt_go hr hb) hb.size⟩
theorem quadN_set {w : World} {g k o : Nat} {xs : List Value} {D : Pn} (h : QuadN w g xs k D) (v : Value) : QuadN (w.setCell ⟨g, o, none⟩ v) g xs k D := fun j hj => by
  obtain ⟨G, hG, hc, hr⟩ := h j hj
  refine ⟨G, hG, hc, ?_⟩
  rw [heap_setCell_size]
  exact rwAt_set hr _ _ (by show g ≠ G; omega)
theorem quadN_step {w : World} {g k n G : Nat} {xs : List Value} {D : Pn} (h : QuadN w g xs k D) (hk : k < n) (hl : xs.length = n * 4) (hG : g < G) (hr : RowAt .i64 w (some ⟨G, 0, none⟩) (D.KL k) w.heap.size) :
    QuadN w g ((((xs.set (k * 4) (.int .i64 (D.K k))).set (k * 4 + 1) (.string (D.NM k))).set (k * 4 + 2) (.slice (some ⟨G, 0, none⟩) (D.KL k).length (D.KL k).length)).set (k * 4 + 3) (.int .i64 (D.OC k))) (k + 1) D := by
  intro j hj
  simp only [List.getElem?_set, List.length_set]
  by_cases e : j = k
  · subst e
    refine ⟨G, hG, ⟨?_, ?_, ?_, ?_⟩, hr⟩
    all_goals
      repeat (first | rw [if_pos rfl, if_pos (by omega)] | rw [if_neg (by omega)])
  · obtain ⟨G', hG', ⟨h0, h1, h2, h3⟩, hr'⟩ := h j (by omega)
    refine ⟨G', hG', ⟨?_, ?_, ?_, ?_⟩, hr'⟩
    all_goals
      repeat rw [if_neg (by omega)]
      assumption
theorem own_pn {w : World} {B g n t : Nat} {xs : List Value} {D : Pn} (hn : D.n = n) (h : w.ownsRow B t 4 (.slice (some ⟨g, 0, none⟩) n n) n xs) (hp : QuadN w g xs n D) : PnAt w (some ⟨g, 0, none⟩) D w.heap.size := fun h0 => by
  have hg : g < w.heap.size := (h.lt g rfl).2
  refine ⟨g, 0, rfl, hg, fun j hj => ?_⟩
  obtain ⟨G, hG, ⟨h0, h1, h2, h3⟩, hr⟩ := hp j (by omega)
  refine ⟨some ⟨G, 0, none⟩, (D.KL j).length, ⟨?_, ?_, ?_, ?_⟩, hr, Nat.le_refl _⟩
  · rw [Nat.zero_add, h.cellAt (j * 4) (by omega)]; exact h0
  · rw [Nat.zero_add, h.cellAt (j * 4 + 1) (by omega)]; exact h1
  · rw [Nat.zero_add, h.cellAt (j * 4 + 2) (by omega)]; exact h2
  · rw [Nat.zero_add, h.cellAt (j * 4 + 3) (by omega)]; exact h3
theorem infoP : (Try.prog.info? 46).map (fun i => (i.zero, i.size, i.bytes)) = some (some (.agg #[.int .i64 0, .string ⟨#[]⟩, .slice none 0 0, .int .i64 0]), 4, 56) := by kernel_rfl
set_option maxRecDepth 100000 in
set_option maxHeartbeats 4000000 in
theorem l_toPs (D : Pn) (n : Nat) (a : Option Addr) (cap : Nat) (w : World) (hX : D.n = n) (hn : n ≤ 1048576) (hnr : ∀ j, j < n → (D.KL j).length ≤ 1048576) (hr : PnAt w a D w.heap.size) :
    Calls Try.prog 20 #[.slice a n cap] w fun e w' => ∃ g, e = .returned (.slice (some ⟨g, 0, none⟩) n n) ∧ w.heap.size ≤ g ∧ PnAt w' (some ⟨g, 0, none⟩) D w'.heap.size ∧ Below w.heap.size w w' := by
  obtain ⟨i0, hi, hz0, hz1, hz2⟩ := info_parts infoP
  have HX := hide hX
  have HNR := hide hnr
  have HR := hide hr
  clear hr hnr hX
  go_enter Try.func20, Try.ntmps20
  go_wp2_with (at_make; refine wpList_make_full _ rfl _ _ 24 rfl w.heap.size 46 i0 (.agg #[.int .i64 0, .string ⟨#[]⟩, .slice none 0 0, .int .i64 0]) 4 Try.underlying24 hi hz0 hz1 .i64 .i64 _ _ n rfl rfl rfl rfl (by rw [hz2]; omega) (by unfold maxLen; omega) (Nat.le_refl _) ?_; intro w1 hown hgrow)
  have hb1 : Below w.heap.size w w1 := (Below.refl _ _).grown hgrow (Nat.le_refl _) (fun k h => by cases h)
  clear hgrow
  go_loopw [4] (fun i wr => ∃ k : Nat, k ≤ n ∧ i = .int .i64 k ∧ (∃ xs, wr.ownsRow w.heap.size 46 4 (.slice (some ⟨w.heap.size, 0, none⟩) n n) n xs ∧ QuadN wr w.heap.size xs k D) ∧ Below w.heap.size w wr) (fun i _ => n - (intOf i).toNat)
  case atStart => exact ⟨0, Nat.zero_le _, rfl, ⟨_, hown, fun j h => by omega⟩, hb1⟩
  case round =>
    clear hown hb1
    obtain ⟨k, hk, rfl, ⟨xs, hown, hp⟩, hb⟩ := hrel
    by_cases hlt : k < n
    · obtain ⟨b, off, rfl, hbs, hrow⟩ := HR.out (by rw [HX.out]; omega)
      obtain ⟨ad, cp, hc, hrg, -⟩ := hrow k (by rw [HX.out]; omega)
      obtain ⟨c0, c1, c2, c3⟩ := pnCells_go hc hbs hb
      have hnk := HNR.out k hlt
      have hlt2 : w.heap.size < wr.heap.size := (hown.lt w.heap.size rfl).2
      have HP := hide hp
      have HB := hide hb
      have HO := hide hown
      have HG := hide (rwAt_up (rwAt_go hrg hb) hb.size)
      clear hp hb hc hown hrg hrow
      go_wp2_with (go_at_call 40; refine (l_toP _ _ _ (D.KL k) _ _ _ _ rfl hnk HG.out).mono ?_; rintro e w2 ⟨G, rfl, hG, hr2, hb2⟩; have hown2 := own_after HO.out hb2; have hf0 := hown2.frozenAt (k * 4); obtain ⟨x0, hx0⟩ := own_someN hown2 (k * 4) (by omega); have hf1 := hown2.frozenAt (k * 4 + 1); obtain ⟨x1, hx1⟩ := own_someN hown2 (k * 4 + 1) (by omega); have hf2 := hown2.frozenAt (k * 4 + 2); obtain ⟨x2, hx2⟩ := own_someN hown2 (k * 4 + 2) (by omega); have hf3 := hown2.frozenAt (k * 4 + 3); obtain ⟨x3, hx3⟩ := own_someN hown2 (k * 4 + 3) (by omega); replace HB := hide (HB.out.trans (hb2.mono HB.out.size)); replace HO := hide hown2; replace HP := hide (quadN_go HP.out hb2); have HG2 := hide hr2; have HGl := hide hG; clear hown2 hb2 hr2 hG)
      go_roundw
      case rel =>
        refine ⟨k + 1, by omega, by go_num, ⟨_, ((((HO.out.stored (k * 4) (.int .i64 (D.K k))).1.stored (k * 4 + 1) (.string (D.NM k))).1.stored (k * 4 + 2) (.slice (some ⟨G, 0, none⟩) (D.KL k).length (D.KL k).length)).1.stored (k * 4 + 3) (.int .i64 (D.OC k))).1, ?_⟩, ?_⟩
        · have h := quadN_step HP.out hlt HO.out.1 (Nat.lt_of_lt_of_le hlt2 HGl.out) HG2.out
          replace h := quadN_set (o := k * 4) h (.int .i64 (D.K k))
          replace h := quadN_set (o := k * 4 + 1) h (.string (D.NM k))
          replace h := quadN_set (o := k * 4 + 2) h (.slice (some ⟨G, 0, none⟩) (D.KL k).length (D.KL k).length)
          replace h := quadN_set (o := k * 4 + 3) h (.int .i64 (D.OC k))
          exact h
        · iterate 4 (refine Below.setCell ?_ (Nat.le_refl w.heap.size) _)
          exact HB.out
      case measure => simp [intOf]; omega
    · have hkn : k = n := by omega
      subst hkn
      go_wp2
      go_ret
      exact ⟨_, rfl, Nat.le_refl _, own_pn HX.out hown hp, hb⟩
theorem two_nodes {w w2 : World} {k : Int} {nm : ByteArray} {a a' : Option Addr} {n c c' : Nat} {oc : Int} {T U : TypeId}
    (hb : Below ((w.alloc (.cells #[.int .i64 k, .string nm, .slice a n c, .int .i64 oc] T)).alloc (.cells #[.int .i64 k, .string nm, .slice a' n c', .int .i64 oc] U)).heap.size ((w.alloc (.cells #[.int .i64 k, .string nm, .slice a n c, .int .i64 oc] T)).alloc (.cells #[.int .i64 k, .string nm, .slice a' n c', .int .i64 oc] U)) w2) :
    NdAt w2 w.heap.size k nm a n c oc ∧ NdAt w2 (w.heap.size + 1) k nm a' n c' oc ∧ Below w.heap.size w w2 := by
  have h1 := ndAt_new w k nm a n c oc T
  have h2 := ndAt_new (w.alloc (.cells #[.int .i64 k, .string nm, .slice a n c, .int .i64 oc] T)) k nm a' n c' oc U
  have st : ∀ (x : World) (o : Obj), Below x.heap.size x (x.alloc o) := fun x o => (Below.refl _ _).alloc (Nat.le_refl _) _
  refine ⟨ndAt_go (ndAt_go h1 (st _ _)) hb, ?_, ?_⟩
  · have := ndAt_go h2 hb
    simpa using this
  · exact (((Below.refl w.heap.size w).alloc (Nat.le_refl _) _).alloc (by simp) _).trans (hb.mono (by simp; omega))
theorem drewN_below9 (w : World) (q : Nat) : Below w.heap.size w (w.drewN q) := by
  induction q with
  | zero => exact Below.refl _ _
  | succ q ih => exact ih.trans ⟨rfl, rfl, rfl, Nat.le_refl _, fun _ _ => rfl⟩
theorem eq_same9 (a1 a2 : Option Addr) (n c1 c2 : Nat) (xs : List Int) (w : World) (hx : xs.length = n) (hn : n ≤ 1048576) (h1 : RowAt .i64 w a1 xs w.heap.size) (h2 : RowAt .i64 w a2 xs w.heap.size) :
    Calls Try.prog 64 #[.slice a1 n c1, .slice a2 n c2] w fun e w' => e = .returned (.bool true) ∧ Below w.heap.size w w' := by
  refine (eq_ints a1 a2 n n c1 c2 xs xs w hx hx hn hn h1 h2).mono ?_
  rintro e w' ⟨rfl, q, rfl⟩
  exact ⟨by simp, drewN_below9 w q⟩
set_option maxHeartbeats 4000000 in
theorem l_eqP (k : Int) (nm : ByteArray) (a a' : Option Addr) (L : List Int) (n c c' : Nat) (oc : Int) (w : World) (hL : L.length = n) (hn : n ≤ 1048576) (hr : RowAt .i64 w a L w.heap.size) (hr' : RowAt .i64 w a' L w.heap.size) : Calls Try.prog 34 #[.agg #[.int .i64 k, .string nm, .slice a n c, .int .i64 oc], .agg #[.int .i64 k, .string nm, .slice a' n c', .int .i64 oc]] w fun e w' => e = .returned (.bool true) ∧ Below w.heap.size w w' := by
  have HR := hide hr
  have HR' := hide hr'
  have HL := hide hL
  clear hr hr' hL
  go_enter Try.func34, Try.ntmps34
  go_wp2_with (go_at_call 64; refine (eq_same9 _ _ _ _ _ L _ HL.out hn (rwAt_up (rwAt_go HR.out (((Below.refl _ _).alloc (Nat.le_refl _) _).alloc (by simp) _)) (by simp; omega)) (rwAt_up (rwAt_go HR'.out (((Below.refl _ _).alloc (Nat.le_refl _) _).alloc (by simp) _)) (by simp; omega))).mono ?_; rintro e w2 ⟨rfl, hb2⟩; have HX2 := hide (two_nodes hb2); obtain ⟨a0, a1, a2, a3⟩ := ndAt_cells HX2.out.1; obtain ⟨b0, b1, b2, b3⟩ := ndAt_cells HX2.out.2.1; clear hb2)
  go_ret
  exact ⟨rfl, HX2.out.2.2⟩
def EQP (w w' : World) (b o b' o' : Nat) (D : Pn) (k : Nat) (ad : Option Addr) (cp : Nat) (ad' : Option Addr) (cp' : Nat) : Prop := Below w.heap.size w w' ∧ (b < w.heap.size ∧ b' < w.heap.size) ∧
  PnCells w' b o D k ad cp ∧ PnCells w' b' o' D k ad' cp' ∧ RowAt .i64 w' ad (D.KL k) w.heap.size ∧ RowAt .i64 w' ad' (D.KL k) w.heap.size
section
variable {w w1 w2 : World} {b o b' o' : Nat} {D : Pn} {k : Nat} {ad : Option Addr} {cp : Nat} {ad' : Option Addr} {cp' : Nat}
theorem eqp_go (x : EQP w w1 b o b' o' D k ad cp ad' cp') (h : Below w1.heap.size w1 w2) : EQP w w2 b o b' o' D k ad cp ad' cp' := by
  obtain ⟨hb, ⟨h1, h2⟩, c1, c2, r1, r2⟩ := x
  have hh := h.mono hb.size
  exact ⟨hb.trans hh, ⟨h1, h2⟩, pnCells_go c1 h1 hh, pnCells_go c2 h2 hh, rwAt_go r1 hh, rwAt_go r2 hh⟩
theorem eqp_drew (x : EQP w w1 b o b' o' D k ad cp ad' cp') : EQP w w1.drew b o b' o' D k ad cp ad' cp' := eqp_go x ⟨rfl, rfl, rfl, Nat.le_refl _, fun _ _ => rfl⟩
theorem eqp_all (x : EQP w w1 b o b' o' D k ad cp ad' cp') : EQP w w1 b o b' o' D k ad cp ad' cp' ∧ (w1.cell? ⟨b, o, none⟩ = some (.int .i64 (D.K k)) ∧ w1.cell? ⟨b, o + 1, none⟩ = some (.string (D.NM k)) ∧ w1.cell? ⟨b, o + 2, none⟩ = some (.slice ad (D.KL k).length cp) ∧ w1.cell? ⟨b, o + 3, none⟩ = some (.int .i64 (D.OC k))) ∧ w1.cell? ⟨b', o', none⟩ = some (.int .i64 (D.K k)) ∧ w1.cell? ⟨b', o' + 1, none⟩ = some (.string (D.NM k)) ∧ w1.cell? ⟨b', o' + 2, none⟩ = some (.slice ad' (D.KL k).length cp') ∧ w1.cell? ⟨b', o' + 3, none⟩ = some (.int .i64 (D.OC k)) := ⟨x, x.2.2.1, x.2.2.2.1⟩
theorem eqp_r1 (x : EQP w w1 b o b' o' D k ad cp ad' cp') : RowAt .i64 w1 ad (D.KL k) w1.heap.size := rwAt_up x.2.2.2.2.1 x.1.size
theorem eqp_r2 (x : EQP w w1 b o b' o' D k ad cp ad' cp') : RowAt .i64 w1 ad' (D.KL k) w1.heap.size := rwAt_up x.2.2.2.2.2 x.1.size
end
set_option maxRecDepth 100000 in
set_option maxHeartbeats 4000000 in
theorem l_eqPs (D : Pn) (n : Nat) (a1 a2 : Option Addr) (c1 c2 : Nat) (w : World) (hX : D.n = n) (hn : n ≤ 1048576) (hnr : ∀ j, j < n → (D.KL j).length ≤ 1048576) (h1 : PnAt w a1 D w.heap.size) (h2 : PnAt w a2 D w.heap.size) :
    Calls Try.prog 15 #[.slice a1 n c1, .slice a2 n c2] w fun e w' => e = .returned (.bool true) ∧ Below w.heap.size w w' := by
  have HX := hide hX
  have HNR := hide hnr
  have H1 := hide h1
  have H2 := hide h2
  clear h1 h2 hnr hX
  go_enter Try.func15, Try.ntmps15
  go_wp2
  go_loopw [5] (fun i wr => ∃ k : Nat, k ≤ n ∧ i = .int .i64 k ∧ Below w.heap.size w wr) (fun i _ => n - (intOf i).toNat)
  case atStart => exact ⟨0, Nat.zero_le _, rfl, Below.refl _ _⟩
  case round =>
    obtain ⟨k, hk, rfl, hb⟩ := hrel
    by_cases hlt : k < n
    · obtain ⟨b, off, rfl, hbs, hc⟩ := H1.out (by rw [HX.out]; omega)
      obtain ⟨b', off', rfl, hbs', hc'⟩ := H2.out (by rw [HX.out]; omega)
      obtain ⟨ad, cp, hk1, hr1, -⟩ := hc k (by rw [HX.out]; omega)
      obtain ⟨ad', cp', hk2, hr2, -⟩ := hc' k (by rw [HX.out]; omega)
      have hnk := HNR.out k hlt
      have XX : Hid (EQP w wr b (off + k * 4) b' (off' + k * 4) D k ad cp ad' cp') := ⟨hb, ⟨hbs, hbs'⟩, pnCells_go hk1 hbs hb, pnCells_go hk2 hbs' hb, rwAt_go hr1 hb, rwAt_go hr2 hb⟩
      have hi : (k : Int) < (n : Int) := by omega
      have hi0 : (0 : Int) ≤ (k : Int) := by omega
      clear hc hc' hb hk1 hk2 hr1 hr2
      go_wp2
      go_region_held3 (fun w' => EQP w w' b (off + k * 4) b' (off' + k * 4) D k ad cp ad' cp' ∧ (w'.cell? ⟨b, off + k * 4, none⟩ = some (.int .i64 (D.K k)) ∧ w'.cell? ⟨b, off + k * 4 + 1, none⟩ = some (.string (D.NM k)) ∧ w'.cell? ⟨b, off + k * 4 + 2, none⟩ = some (.slice ad (D.KL k).length cp) ∧ w'.cell? ⟨b, off + k * 4 + 3, none⟩ = some (.int .i64 (D.OC k))) ∧ w'.cell? ⟨b', off' + k * 4, none⟩ = some (.int .i64 (D.K k)) ∧ w'.cell? ⟨b', off' + k * 4 + 1, none⟩ = some (.string (D.NM k)) ∧ w'.cell? ⟨b', off' + k * 4 + 2, none⟩ = some (.slice ad' (D.KL k).length cp') ∧ w'.cell? ⟨b', off' + k * 4 + 3, none⟩ = some (.int .i64 (D.OC k))) (first | assumption | exact eqp_all (eqp_drew XX.out) | exact eqp_all XX.out) (first | (go_at_call 34; refine (l_eqP _ _ _ _ (D.KL k) _ _ _ _ _ rfl hnk (eqp_r1 (And.left (by assumption))) (eqp_r2 (And.left (by assumption)))).mono ?_; rintro e w2 ⟨rfl, hb2⟩; have X2 := hide (eqp_go (eqp_drew XX.out) hb2); replace XX := X2; clear X2 hb2))
      all_goals
        go_wp2
        go_roundw
        case rel => exact ⟨k + 1, by omega, by go_num, XX.out.1⟩
        case measure => simp [intOf]; omega
    · go_wp2
      go_ret
      exact ⟨rfl, hb⟩
end Go.Proofs.Ytfohfljdgmlibaa
