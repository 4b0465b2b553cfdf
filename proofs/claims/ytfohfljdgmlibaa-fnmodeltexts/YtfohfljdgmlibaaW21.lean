/-
  Contract: a node's stem, by the program.
-/
import Derived.Test.YtfohfljdgmlibaaW20
import Derived.Shelf.RegionOpen
import Derived.RangeFuncCalls
namespace Go.Proofs.Ytfohfljdgmlibaa
open Go.RowKit Go.Joins Go.Shelf
set_option linter.unusedVariables false
set_option linter.unusedSimpArgs false
attribute [local go_sem] Oper.semAt_some
/-- Kids gone through, the last one first: where they begin, how deep they are. -/
def gs (D : Pn) : List Int → Nat → Nat → Option (Nat × Nat)
  | [], a, d => some (a, d)
  | k :: ks, a, d => if 0 < a ∧ k = (a : Int) - 1 then (tr D (a - 1)).bind (fun b => gs D ks b (max d (dq D (a - 1)))) else none
theorem gs_snoc (D : Pn) (k : Int) : ∀ (ks : List Int) (a d : Nat), gs D (ks ++ [k]) a d = (gs D ks a d).bind (fun p => gs D [k] p.1 p.2)
  | [], a, d => rfl
  | h :: ks, a, d => by
    rw [List.cons_append, gs, gs]
    split
    · cases tr D (a - 1) with
      | none => rfl
      | some b => exact gs_snoc D k ks b _
    · rfl
theorem gs_one {D : Pn} {k : Int} {a d : Nat} (h : 0 < a ∧ k = (a : Int) - 1) {b : Nat} (hb : tr D (a - 1) = some b) : gs D [k] a d = some (b, max d (dq D (a - 1))) := by
  rw [gs, if_pos h, hb]; rfl
theorem gs_bad {D : Pn} {k : Int} {a d : Nat} (h : ¬ (0 < a ∧ k = (a : Int) - 1)) : gs D [k] a d = none := by rw [gs, if_neg h]
theorem gs_fd {D : Pn} : ∀ (ks : List Int) (a d : Nat), gs D ks a d = (fd (tr D) ks a).map (fun b => (b, ks.foldl (fun d k => max d (dq D k.toNat)) d))
  | [], a, d => rfl
  | k :: ks, a, d => by
    rw [gs, fd]
    split
    · rename_i hc
      cases tr D (a - 1) with
      | none => rfl
      | some b =>
        show gs D ks b _ = _
        rw [gs_fd ks b, List.foldl_cons, show k.toNat = a - 1 by omega]
        rfl
    · rfl
theorem gs_app_none {D : Pn} {a d : Nat} : ∀ (us ks : List Int), gs D ks a d = none → gs D (ks ++ us) a d = none
  | [], ks, h => by rw [List.append_nil]; exact h
  | u :: us, ks, h => by
    rw [show ks ++ u :: us = (ks ++ [u]) ++ us by simp]
    exact gs_app_none us (ks ++ [u]) (by rw [gs_snoc, h]; rfl)
theorem gs_le {D : Pn} {ks : List Int} {a d a' d' : Nat} (h : gs D ks a d = some (a', d')) : a' ≤ a := by
  rw [gs_fd] at h
  obtain ⟨b, hb, he⟩ := Option.map_eq_some_iff.1 h
  simp only [Prod.mk.injEq] at he
  obtain ⟨rfl, -⟩ := he
  exact fd_le _ _ _ (fun j c _ hc => tr_le hc) hb
def stF (D : Pn) (i : Nat) : Int := match tr D i with | some f => f | none => 0
def stG (D : Pn) (i : Nat) : Int := match tr D i with | some _ => (dq D i : Int) - 1 | none => 0
def StAt (w : World) (a : Option Addr) (D : Pn) (i B : Nat) : Prop := 0 < i → ∃ b off, a = some ⟨b, off, none⟩ ∧ b < B ∧ ∀ j, j < i → w.cell? ⟨b, off + j * 2, none⟩ = some (.int .i64 (stF D j)) ∧ w.cell? ⟨b, off + j * 2 + 1, none⟩ = some (.int .i64 (stG D j))
theorem stAt_go {w w' : World} {a : Option Addr} {D : Pn} {i B : Nat} (h : StAt w a D i B) (hb : Below B w w') : StAt w' a D i B := fun h0 => by
  obtain ⟨b, off, e, hl, hc⟩ := h h0
  exact ⟨b, off, e, hl, fun j hj => ⟨(hb.cell (p := ⟨b, off + j * 2, none⟩) hl).trans (hc j hj).1, (hb.cell (p := ⟨b, off + j * 2 + 1, none⟩) hl).trans (hc j hj).2⟩⟩
theorem stAt_up {w : World} {a : Option Addr} {D : Pn} {i B B' : Nat} (h : StAt w a D i B) (hB : B ≤ B') : StAt w a D i B' := fun h0 => by
  obtain ⟨b, off, e, hl, hc⟩ := h h0
  exact ⟨b, off, e, Nat.lt_of_lt_of_le hl hB, hc⟩
theorem bk_map (zs : List Int) : ∀ k, k ≤ zs.length → (upto (bkF zs) k).map (·.2) = zs.reverse.take k
  | 0, _ => by simp [upto]
  | k + 1, h => by
    rw [upto_succ, List.map_append, bk_map zs k (by omega)]
    rw [List.take_succ_eq_append_getElem (by rw [List.length_reverse]; omega)]
    congr 1
    simp only [List.map_cons, List.map_nil, bkF, List.getElem_reverse]
    rw [List.getElem?_eq_getElem (by omega)]
    rfl
theorem gs_all {D : Pn} {i : Nat} (hlo : ∀ j, j < i → ∃ f, tr D j = some f) {a d : Nat} (h : gs D (D.KL i).reverse i 0 = some (a, d)) : tr D i = some a ∧ (d : Int) = (dq D i : Int) - 1 := by
  rw [gs_fd] at h
  obtain ⟨b, hb, he⟩ := Option.map_eq_some_iff.1 h
  simp only [Prod.mk.injEq] at he
  obtain ⟨rfl, rfl⟩ := he
  have ht : tr D i = some b := by rw [tr_eq]; exact hb
  refine ⟨ht, ?_⟩
  have hl : Lo D i := fun j hj k hk => by
    by_cases e : j = i
    · subst e; exact (tr_cover (j + 1) j b (by omega) ht).2 k hk
    · obtain ⟨f, hf⟩ := hlo j (by omega)
      exact (tr_cover (j + 1) j f (by omega) hf).2 k hk
  rw [dq_eq hl, ← mx_rev]
  show ((mx (dq D) (D.KL i).reverse : Nat) : Int) = _
  omega
theorem cellsAt_kept {W W' : World} {row : Option Nat} {G : Nat} {cs : Array Value} (h : CellsAt W G cs) (hg : W.grownBy W' row) (hrow : ∀ r, row = some r → ∃ o : Obj, W.heap[r]? = some o ∧ o.isCells = false) : CellsAt W' G cs := by
  obtain ⟨T, h⟩ := h
  exact ⟨T, (grownBy_keeps_cells hg hrow h rfl).trans h⟩
theorem wrap_id9 (q : Nat) (h : q ≤ 1000) : IntKind.i64.wrap (q : Int) = (q : Int) := by
  rw [IntKind.wrap_i64]
  omega
theorem cellsAt_drew {w : World} {G : Nat} {cs : Array Value} (h : CellsAt w G cs) : CellsAt w.drew G cs := h
theorem stem_next {D : Pn} {i : Nat} {w W : World} {pre : List (Nat × Int)} {x1 m bb d q a0 : Nat} {v : Int} {sl nl : Value} (hm : m < i) (hd : d ≤ 40) (hq : q ≤ 40) (hv : v = ((max d q : Nat) : Int)) (hg : gs D (pre.map (·.2) ++ [(m : Int)]) i 0 = some (bb, max d q))
    (cO : CellsAt W (w.heap.size + 1 + 1 + 1 + 1) #[.int .i64 (a0 : Int), .int .i64 (d : Int)]) (cA : CellsAt W w.heap.size #[sl]) (cR : CellsAt W (w.heap.size + 1 + 1) #[.int .i64 0, .int .i64 0]) (cQ : CellsAt W (w.heap.size + 1 + 1 + 1) #[.bool false]) (cN : CellsAt W (w.heap.size + 1 + 1 + 1 + 1 + 1) #[nl]) (hB : Below w.heap.size w W) :
    KeepsFrom (w.heap.size + 6) W (((W.setCell ⟨w.heap.size + 1 + 1 + 1 + 1, 0, none⟩ (.int .i64 (bb : Int))).setCell ⟨w.heap.size + 1 + 1 + 1 + 1, 1, none⟩ (.int .i64 v)).drew) ∧ KpB w.heap.size (w.heap.size + 1 + 1 + 1 + 1 + 1) W (((W.setCell ⟨w.heap.size + 1 + 1 + 1 + 1, 0, none⟩ (.int .i64 (bb : Int))).setCell ⟨w.heap.size + 1 + 1 + 1 + 1, 1, none⟩ (.int .i64 v)).drew) ∧
    (∃ aa d : Nat, gs D ((pre ++ [(x1, (m : Int))]).map (·.2)) i 0 = some (aa, d) ∧ d ≤ 40 ∧ CellsAt (((W.setCell ⟨w.heap.size + 1 + 1 + 1 + 1, 0, none⟩ (.int .i64 (bb : Int))).setCell ⟨w.heap.size + 1 + 1 + 1 + 1, 1, none⟩ (.int .i64 v)).drew) (w.heap.size + 1 + 1 + 1 + 1) #[.int .i64 (aa : Int), .int .i64 (d : Int)] ∧ CellsAt (((W.setCell ⟨w.heap.size + 1 + 1 + 1 + 1, 0, none⟩ (.int .i64 (bb : Int))).setCell ⟨w.heap.size + 1 + 1 + 1 + 1, 1, none⟩ (.int .i64 v)).drew) w.heap.size #[sl] ∧ CellsAt (((W.setCell ⟨w.heap.size + 1 + 1 + 1 + 1, 0, none⟩ (.int .i64 (bb : Int))).setCell ⟨w.heap.size + 1 + 1 + 1 + 1, 1, none⟩ (.int .i64 v)).drew) (w.heap.size + 1 + 1) #[.int .i64 0, .int .i64 0] ∧ CellsAt (((W.setCell ⟨w.heap.size + 1 + 1 + 1 + 1, 0, none⟩ (.int .i64 (bb : Int))).setCell ⟨w.heap.size + 1 + 1 + 1 + 1, 1, none⟩ (.int .i64 v)).drew) (w.heap.size + 1 + 1 + 1) #[.bool false] ∧ CellsAt (((W.setCell ⟨w.heap.size + 1 + 1 + 1 + 1, 0, none⟩ (.int .i64 (bb : Int))).setCell ⟨w.heap.size + 1 + 1 + 1 + 1, 1, none⟩ (.int .i64 v)).drew) (w.heap.size + 1 + 1 + 1 + 1 + 1) #[nl]) ∧ Below w.heap.size w (((W.setCell ⟨w.heap.size + 1 + 1 + 1 + 1, 0, none⟩ (.int .i64 (bb : Int))).setCell ⟨w.heap.size + 1 + 1 + 1 + 1, 1, none⟩ (.int .i64 v)).drew) := by
  subst hv
  have hb2 : Below w.heap.size W (((W.setCell ⟨w.heap.size + 1 + 1 + 1 + 1, 0, none⟩ (.int .i64 (bb : Int))).setCell ⟨w.heap.size + 1 + 1 + 1 + 1, 1, none⟩ (.int .i64 ((max d q : Nat) : Int))).drew) :=
    (((Below.refl w.heap.size W).setCell (p := ⟨w.heap.size + 1 + 1 + 1 + 1, 0, none⟩) (by simp; try omega) _).setCell (p := ⟨w.heap.size + 1 + 1 + 1 + 1, 1, none⟩) (by simp; try omega) _).trans ⟨rfl, rfl, rfl, Nat.le_refl _, fun _ _ => rfl⟩
  refine ⟨(((KeepsOthers.setCell _ _ _).trans (KeepsOthers.setCell _ _ _)).trans (KeepsOthers.drew _)).from _, ⟨hb2, ?_⟩, ⟨bb, max d q, by rw [List.map_append]; exact hg, by omega, ?_, ?_, ?_, ?_, ?_⟩, hB.trans hb2⟩
  · show ((W.setCell _ _).setCell _ _).cell? _ = _
    rw [World.cell?_setCell_far _ _ _ _ (by simp; try omega), World.cell?_setCell_far _ _ _ _ (by simp; try omega)]
  · exact cellsAt_drew (cellsAt_set (cellsAt_set cO (i := 0) (.int .i64 (bb : Int))) (i := 1) (.int .i64 ((max d q : Nat) : Int)))
  · exact cellsAt_drew (cellsAt_far (cellsAt_far cA _ (by simp; try omega)) _ (by simp; try omega))
  · exact cellsAt_drew (cellsAt_far (cellsAt_far cR _ (by simp; try omega)) _ (by simp; try omega))
  · exact cellsAt_drew (cellsAt_far (cellsAt_far cQ _ (by simp; try omega)) _ (by simp; try omega))
  · exact cellsAt_drew (cellsAt_far (cellsAt_far cN _ (by simp; try omega)) _ (by simp; try omega))
set_option maxRecDepth 100000 in
set_option maxHeartbeats 4000000 in
theorem i_stem (D : Pn) (i : Nat) (a : Option Addr) (cap : Nat) (ad : Option Addr) (len cp : Nat) (w : World) (hlen : (D.KL i).length = len) (hi : i ≤ 40) (hll : len ≤ 1048576) (hst : StAt w a D i w.heap.size) (hrw : RowAt .i64 w ad (D.KL i) w.heap.size) (hlo : ∀ j, j < i → ∃ f, tr D j = some f) (K OC : Int) (NM : ByteArray) :
    Calls Try.prog 28 #[.slice a i cap, .agg #[.int .i64 K, .string NM, .slice ad len cp, .int .i64 OC]] w fun e w' => e = .returned (.tuple #[.agg #[.int .i64 (stF D i), .int .i64 (stG D i)], .bool (tr D i).isSome]) ∧ Below w.heap.size w w' := by
  refine (callsIn_wide (n := 3)).1 ?_
  have hro : Fence.wide.round = none := rfl
  refine callsIn_of_wp_marks Try.func28 rfl trivial ?_ hro
  simp only [Try.ntmps28, List.size_toArray, List.length_cons, List.length_nil, Nat.reduceAdd, Nat.reduceSub, Array.replicate_succ, Array.replicate_zero, List.push_toArray, List.append_toArray, List.nil_append, List.cons_append]
  have HST := hide hst
  have HRW := hide hrw
  have HLO := hide hlo
  have HLN := hide hlen
  clear hst hrw hlo hlen
  gi_wp2_with (refine ⟨trivial, ?_⟩; gi_at_call 56; refine (back_in Fence.wide _ trivial hro _ _ _ _).mono ?_; rintro e w' ⟨rfl, rfl⟩)
  obtain ⟨W5, hW5⟩ : ∃ W5, (((((w.alloc (Obj.cells #[Value.slice a i cap] 43)).alloc (Obj.cells #[Value.int IntKind.i64 K, Value.string NM, Value.slice ad len cp, Value.int IntKind.i64 OC] 46)).alloc (Obj.cells #[Value.int IntKind.i64 0, Value.int IntKind.i64 0] 48)).alloc (Obj.cells #[Value.bool false] 4)).alloc (Obj.cells #[Value.int IntKind.i64 ↑i, Value.int IntKind.i64 0] 48)) = W5 := ⟨_, rfl⟩
  have hs5 : W5.heap.size = w.heap.size + 1 + 1 + 1 + 1 + 1 := by rw [← hW5]; simp
  have hB5 : Below w.heap.size w W5 := by
    rw [← hW5]
    exact (((((Below.refl _ w).alloc (Nat.le_refl _) _).alloc (by simp) _).alloc (by simp; try omega) _).alloc (by simp; try omega) _).alloc (by simp; try omega) _
  have st : ∀ (x : World) (o : Obj), Below x.heap.size x (x.alloc o) := fun x o => (Below.refl _ _).alloc (Nat.le_refl _) _
  have cA : CellsAt W5 w.heap.size #[.slice a i cap] := by
    rw [← hW5]
    exact cellsAt_go (cellsAt_go (cellsAt_go (cellsAt_go (cellsAt_new w _ _) (st _ _) (by simp)) (st _ _) (by simp; try omega)) (st _ _) (by simp; try omega)) (st _ _) (by simp; try omega)
  have cR : CellsAt W5 (w.heap.size + 1 + 1) #[.int .i64 0, .int .i64 0] := by
    rw [← hW5]
    exact cellsAt_go (cellsAt_go (by have := cellsAt_new ((w.alloc (Obj.cells #[Value.slice a i cap] 43)).alloc (Obj.cells #[Value.int IntKind.i64 K, Value.string NM, Value.slice ad len cp, Value.int IntKind.i64 OC] 46)) #[.int .i64 0, .int .i64 0] 48; simpa using this) (st _ _) (by simp)) (st _ _) (by simp; try omega)
  have cQ : CellsAt W5 (w.heap.size + 1 + 1 + 1) #[.bool false] := by
    rw [← hW5]
    exact cellsAt_go (by have := cellsAt_new (((w.alloc (Obj.cells #[Value.slice a i cap] 43)).alloc (Obj.cells #[Value.int IntKind.i64 K, Value.string NM, Value.slice ad len cp, Value.int IntKind.i64 OC] 46)).alloc (Obj.cells #[Value.int IntKind.i64 0, Value.int IntKind.i64 0] 48)) #[.bool false] 4; simpa using this) (st _ _) (by simp)
  have cO : CellsAt W5 (w.heap.size + 1 + 1 + 1 + 1) #[.int .i64 (i : Int), .int .i64 0] := by
    rw [← hW5]
    have := cellsAt_new ((((w.alloc (Obj.cells #[Value.slice a i cap] 43)).alloc (Obj.cells #[Value.int IntKind.i64 K, Value.string NM, Value.slice ad len cp, Value.int IntKind.i64 OC] 46)).alloc (Obj.cells #[Value.int IntKind.i64 0, Value.int IntKind.i64 0] 48)).alloc (Obj.cells #[Value.bool false] 4)) #[.int .i64 (i : Int), .int .i64 0] 48
    simpa using this
  rw [hW5]
  clear hW5
  have cN := cellsAt_new W5 #[.slice ad len cp] 44
  have cA6 := cellsAt_go cA (st W5 (Obj.cells #[.slice ad len cp] 44)) (by omega)
  have cR6 := cellsAt_go cR (st W5 (Obj.cells #[.slice ad len cp] 44)) (by omega)
  have cQ6 := cellsAt_go cQ (st W5 (Obj.cells #[.slice ad len cp] 44)) (by omega)
  have cO6 := cellsAt_go cO (st W5 (Obj.cells #[.slice ad len cp] 44)) (by omega)
  have hB6 : Below w.heap.size w (W5.alloc (Obj.cells #[.slice ad len cp] 44)) := hB5.alloc (by omega) _
  have hR6 : RowAt .i64 (W5.alloc (Obj.cells #[.slice ad len cp] 44)) ad (D.KL i) w.heap.size := rwAt_go HRW.out hB6
  have hs6 : (W5.alloc (Obj.cells #[.slice ad len cp] 44)).heap.size = w.heap.size + 6 := by simp [hs5]
  clear cA cR cQ cO hB5
  rw [hs5] at cN
  refine wpIn_rangeFunc_ownG hro (by omega) (gf := 75) (lb := #[.pointer (some ⟨w.heap.size + 1 + 1 + 1 + 1 + 1, 0, none⟩)]) rfl trivial (enters_of Try.func75 (by kernel_rfl) rfl)
    (back_stops Fence.wide (3 - 1) trivial hro (by omega) (w.heap.size + 1 + 1 + 1 + 1 + 1) w.heap.size ad len cp (D.KL i) HLN.out hll _ (by omega) (by omega) (cellsAt_cell cN 0) hR6) kpB_t (kpB_b (by omega) (by omega)) (Below.refl _ _) (fun _ => rfl)
    (fun pre W => (∃ aa d : Nat, gs D (pre.map (·.2)) i 0 = some (aa, d) ∧ d ≤ 40 ∧ CellsAt W (w.heap.size + 1 + 1 + 1 + 1) #[.int .i64 (aa : Int), .int .i64 (d : Int)] ∧ CellsAt W w.heap.size #[.slice a i cap] ∧ CellsAt W (w.heap.size + 1 + 1) #[.int .i64 0, .int .i64 0] ∧ CellsAt W (w.heap.size + 1 + 1 + 1) #[.bool false] ∧ CellsAt W (w.heap.size + 1 + 1 + 1 + 1 + 1) #[.slice ad len cp]) ∧ Below w.heap.size w W)
    (fun c pre W => (c = .ret ∧ gs D (pre.map (·.2)) i 0 = none ∧ CellsAt W (w.heap.size + 1 + 1) #[.int .i64 0, .int .i64 0] ∧ CellsAt W (w.heap.size + 1 + 1 + 1) #[.bool false]) ∧ Below w.heap.size w W)
    (OwnFrom.and (Own.from (fun s A B row hs hg hr => by
      obtain ⟨aa, d, e1, e0, e2, e3, e4, e5, e6⟩ := hs
      exact ⟨aa, d, e1, e0, cellsAt_kept e2 hg hr, cellsAt_kept e3 hg hr, cellsAt_kept e4 hg hr, cellsAt_kept e5 hg hr, cellsAt_kept e6 hg hr⟩) _) (ownFrom_below (Nat.le_refl _) (by omega)))
    (fun c => OwnFrom.and (Own.from (fun s A B row hs hg hr => by
      obtain ⟨e1, e2, e3, e4⟩ := hs
      exact ⟨e1, e2, cellsAt_kept e3 hg hr, cellsAt_kept e4 hg hr⟩) _) (ownFrom_below (Nat.le_refl _) (by omega)))
    ⟨⟨i, 0, rfl, by omega, cO6, cA6, cR6, cQ6, cN⟩, hB6⟩
    (fun x => { tmps := #[.slice a i cap, .agg #[.int .i64 K, .string NM, .slice ad len cp, .int .i64 OC], .pointer (some ⟨w.heap.size, 0, none⟩), .pointer (some ⟨w.heap.size + 1, 0, none⟩), .pointer (some ⟨w.heap.size + 1 + 1, 0, none⟩), .pointer (some ⟨w.heap.size + 1 + 1 + 1, 0, none⟩), .pointer (some ⟨w.heap.size + 1 + 1 + 1 + 1, 0, none⟩), undef, .int .i64 x.2, .slice a i cap, .int .i64 (i : Int), .agg #[.int .i64 (i : Int), .int .i64 0], .pointer (some ⟨w.heap.size + 1, 2, none⟩), .slice ad len cp, .func (.func 75) #[] #[.pointer (some ⟨w.heap.size + 1 + 1 + 1 + 1 + 1, 0, none⟩)], .int .i64 (x.1 : Int), .int .i64 x.2, undef, undef, undef, undef, undef, undef, undef, undef, undef, undef, undef, undef, undef, undef, undef, undef, undef, undef, undef, undef, undef, undef, undef, undef, undef, undef, undef, undef], defers := [] }) ?assign ?body ?done ?stop
  case assign =>
    intro l x W K hK
    gi_wp2
    exact hK
  case body =>
    rintro l pre ⟨x1, x2⟩ W ⟨⟨aa, d, e1, e0, cO, cA, cR, cQ, cN'⟩, hB⟩ _
    have o0 : W.cell? ⟨w.heap.size + 1 + 1 + 1 + 1, 0, none⟩ = some (.int .i64 (aa : Int)) := cellsAt_cell cO 0
    have o1 : W.cell? ⟨w.heap.size + 1 + 1 + 1 + 1, 1, none⟩ = some (.int .i64 (d : Int)) := cellsAt_cell cO 1
    have oA : W.cell? ⟨w.heap.size, 0, none⟩ = some (.slice a i cap) := cellsAt_cell cA 0
    have r0 : W.cell? ⟨w.heap.size + 1 + 1, 0, none⟩ = some (.int .i64 0) := cellsAt_cell cR 0
    have r1 : W.cell? ⟨w.heap.size + 1 + 1, 1, none⟩ = some (.int .i64 0) := cellsAt_cell cR 1
    have q0 : W.cell? ⟨w.heap.size + 1 + 1 + 1, 0, none⟩ = some (.bool false) := cellsAt_cell cQ 0
    have fO := cellsAt_frozen cO
    have fR := cellsAt_frozen cR
    have fQ := cellsAt_frozen cQ
    have hai := gs_le e1
    have HSN := hide (gs_snoc D x2 (pre.map (·.2)) i 0)
    rw [e1] at HSN
    have HCO := hide cO
    have HCA := hide cA
    have HCR := hide cR
    have HCQ := hide cQ
    have HCN := hide cN'
    have HB := hide hB
    have HB6 := hide hB6
    clear cO cA cR cQ cN' e1 cO6 cA6 cR6 cQ6 hR6
    by_cases hc : 0 < aa ∧ x2 = (aa : Int) - 1
    · obtain ⟨m, rfl⟩ : ∃ m, aa = m + 1 := ⟨aa - 1, by omega⟩
      obtain ⟨bb, hbb⟩ := HLO.out m (by omega)
      have HG := hide ((show gs D (pre.map (·.2) ++ [x2]) i 0 = _ from HSN.out).trans (gs_one (d := d) hc (b := bb) hbb))
      obtain ⟨b9, off9, rfl, hb9, hc9⟩ := HST.out (by omega)
      obtain ⟨s0, s1⟩ := hc9 m (by omega)
      have t0 := (hB.cell (p := ⟨b9, off9 + m * 2, none⟩) hb9).trans s0
      have t1 := (hB.cell (p := ⟨b9, off9 + m * 2 + 1, none⟩) hb9).trans s1
      have hbm := tr_le hbb
      have hdm := dq_le D m
      have hF : stF D m = (bb : Int) := by unfold stF; rw [hbb]
      have hG : stG D m = (dq D m : Int) - 1 := by unfold stG; rw [hbb]
      rw [hF] at t0
      rw [hG] at t1
      have hx2 : x2 = (m : Int) := by omega
      subst hx2
      obtain ⟨q, hq⟩ : ∃ q, dq D m = q := ⟨_, rfl⟩
      rw [show m + 1 - 1 = m by omega, hq] at HG
      rw [hq] at t1 hdm
      obtain ⟨A, hA⟩ : ∃ A : Int, ((m + 1 : Nat) : Int) = A := ⟨_, rfl⟩
      rw [hA] at o0
      have hA1 : A = (m : Int) + 1 := by omega
      subst hA1
      have f1 : ((m : Int) + 1 == 0) = false := by simp; omega
      have f2 : ((m : Int) != (m : Int) + 1 - 1) = false := by simp
      have hmi : (m : Int) < (i : Int) := by omega
      have hne9 : w.heap.size + 1 + 1 + 1 + 1 ≠ b9 := by omega
      clear hc hc9 s0 s1 hF hG hA hbb hq hB
      have hmx : Try.prog.follows .mixedOrders = true := by kernel_rfl
      gi_wp2
      have hwq : IntKind.i64.wrap (q : Int) = (q : Int) := wrap_id9 q (by omega)
      gi_region
      all_goals gi_wp2
      all_goals exact stem_next (by omega) (by omega) (by omega) (by omega) HG.out HCO.out HCA.out HCR.out HCQ.out HCN.out HB.out
    · have HG := hide ((show gs D (pre.map (·.2) ++ [x2]) i 0 = _ from HSN.out).trans (gs_bad (d := d) hc))
      by_cases h0 : aa = 0
      · subst h0
        clear hc
        gi_wp2
        refine ⟨(((KeepsOthers.setCell _ _ _).trans (KeepsOthers.setCell _ _ _)).trans (KeepsOthers.setCell _ _ _)).from _, ⟨rfl, by rw [List.map_append]; exact HG.out, ?_, ?_⟩, ?_⟩
        · exact cellsAt_far (cellsAt_set (cellsAt_set HCR.out (i := 0) (.int .i64 0)) (i := 1) (.int .i64 0)) _ (by simp; try omega)
        · exact cellsAt_set (cellsAt_far (cellsAt_far HCQ.out _ (by simp; try omega)) _ (by simp; try omega)) (i := 0) (.bool false)
        · exact ((HB.out.setCell (p := ⟨w.heap.size + 1 + 1, 0, none⟩) (by simp; try omega) _).setCell (p := ⟨w.heap.size + 1 + 1, 1, none⟩) (by simp; try omega) _).setCell (p := ⟨w.heap.size + 1 + 1 + 1, 0, none⟩) (by simp; try omega) _
      · have f1 : ((aa : Int) == 0) = false := by simp; omega
        have f2 : (x2 != (aa : Int) - 1) = true := by simp; omega
        clear hc h0
        gi_wp2
        refine ⟨(((KeepsOthers.setCell _ _ _).trans (KeepsOthers.setCell _ _ _)).trans (KeepsOthers.setCell _ _ _)).from _, ⟨rfl, by rw [List.map_append]; exact HG.out, ?_, ?_⟩, ?_⟩
        · exact cellsAt_far (cellsAt_set (cellsAt_set HCR.out (i := 0) (.int .i64 0)) (i := 1) (.int .i64 0)) _ (by simp; try omega)
        · exact cellsAt_set (cellsAt_far (cellsAt_far HCQ.out _ (by simp; try omega)) _ (by simp; try omega)) (i := 0) (.bool false)
        · exact ((HB.out.setCell (p := ⟨w.heap.size + 1 + 1, 0, none⟩) (by simp; try omega) _).setCell (p := ⟨w.heap.size + 1 + 1, 1, none⟩) (by simp; try omega) _).setCell (p := ⟨w.heap.size + 1 + 1 + 1, 0, none⟩) (by simp; try omega) _
  case done =>
    rintro Db ys W hD rfl ⟨⟨aa, d, e1, e0, cO, cA, cR, cQ, cN'⟩, hB⟩ hK
    have o0 : W.cell? ⟨w.heap.size + 1 + 1 + 1 + 1, 0, none⟩ = some (.int .i64 (aa : Int)) := cellsAt_cell cO 0
    have o1 : W.cell? ⟨w.heap.size + 1 + 1 + 1 + 1, 1, none⟩ = some (.int .i64 (d : Int)) := cellsAt_cell cO 1
    have r0 : W.cell? ⟨w.heap.size + 1 + 1, 0, none⟩ = some (.int .i64 0) := cellsAt_cell cR 0
    have r1 : W.cell? ⟨w.heap.size + 1 + 1, 1, none⟩ = some (.int .i64 0) := cellsAt_cell cR 1
    have q0 : W.cell? ⟨w.heap.size + 1 + 1 + 1, 0, none⟩ = some (.bool false) := cellsAt_cell cQ 0
    have fR := cellsAt_frozen cR
    have fQ := cellsAt_frozen cQ
    rw [← HLN.out, bk_map _ _ (Nat.le_refl _), List.take_of_length_le (by rw [List.length_reverse]; exact Nat.le_refl _)] at e1
    obtain ⟨g1, g2⟩ := gs_all HLO.out e1
    have HF : Hid (stF D i = (aa : Int) ∧ stG D i = (d : Int) ∧ (tr D i).isSome = true) := hide ⟨by unfold stF; rw [g1], by unfold stG; rw [g1]; exact g2.symm, by rw [g1]; rfl⟩
    have HCR := hide cR
    have HCQ := hide cQ
    have HB := hide hB
    clear cO cA cR cQ cN' e1 g1 g2 hB cO6 cA6 cR6 cQ6 hR6 cN
    gi_wp2
    have hK3 := (((KeepsOthers.setCell W ⟨w.heap.size + 1 + 1, 0, none⟩ (.int .i64 (aa : Int))).trans (KeepsOthers.setCell _ ⟨w.heap.size + 1 + 1, 1, none⟩ (.int .i64 (d : Int)))).trans (KeepsOthers.setCell _ ⟨w.heap.size + 1 + 1 + 1, 0, none⟩ (.bool true))).same Db _ hK rfl
    have cR3 : CellsAt (((W.setCell ⟨w.heap.size + 1 + 1, 0, none⟩ (.int .i64 (aa : Int))).setCell ⟨w.heap.size + 1 + 1, 1, none⟩ (.int .i64 (d : Int))).setCell ⟨w.heap.size + 1 + 1 + 1, 0, none⟩ (.bool true)) (w.heap.size + 1 + 1) #[.int .i64 (aa : Int), .int .i64 (d : Int)] := cellsAt_far (cellsAt_set (cellsAt_set HCR.out (i := 0) (.int .i64 (aa : Int))) (i := 1) (.int .i64 (d : Int))) _ (by simp; try omega)
    have cQ3 : CellsAt (((W.setCell ⟨w.heap.size + 1 + 1, 0, none⟩ (.int .i64 (aa : Int))).setCell ⟨w.heap.size + 1 + 1, 1, none⟩ (.int .i64 (d : Int))).setCell ⟨w.heap.size + 1 + 1 + 1, 0, none⟩ (.bool true)) (w.heap.size + 1 + 1 + 1) #[.bool true] := cellsAt_set (cellsAt_far (cellsAt_far HCQ.out _ (by simp; try omega)) _ (by simp; try omega)) (i := 0) (.bool true)
    have hB3 : Below w.heap.size w (((W.setCell ⟨w.heap.size + 1 + 1, 0, none⟩ (.int .i64 (aa : Int))).setCell ⟨w.heap.size + 1 + 1, 1, none⟩ (.int .i64 (d : Int))).setCell ⟨w.heap.size + 1 + 1 + 1, 0, none⟩ (.bool true)) := ((HB.out.setCell (p := ⟨w.heap.size + 1 + 1, 0, none⟩) (by simp; try omega) _).setCell (p := ⟨w.heap.size + 1 + 1, 1, none⟩) (by simp; try omega) _).setCell (p := ⟨w.heap.size + 1 + 1 + 1, 0, none⟩) (by simp; try omega) _
    refine ⟨by simp, .inl ⟨_, _, rfl, run_takeDeferred hK3, ?_⟩⟩
    have cR4 := cellsAt_kept cR3 (grownBy_putObj' _ Db (.deferred none)) (fun r e => by cases e; exact ⟨_, hK3, rfl⟩)
    have cQ4 := cellsAt_kept cQ3 (grownBy_putObj' _ Db (.deferred none)) (fun r e => by cases e; exact ⟨_, hK3, rfl⟩)
    have y0 := cellsAt_cell cR4 0
    have y1 := cellsAt_cell cR4 1
    have y2 := cellsAt_cell cQ4 0
    refine ⟨.tuple #[.agg #[.int .i64 (aa : Int), .int .i64 (d : Int)], .bool true], ?_, by rw [HF.out.1, HF.out.2.1, HF.out.2.2], hB3.trans (belowK_b (w := W5.alloc (Obj.cells #[.slice ad len cp] 44)) (by omega) _ Db _ _ hD hK3 rfl rfl)⟩
    simp [results, Try.results28, go_sem, y0, y1, y2]
  case stop =>
    rintro Db c pre W hD ⟨k, hk, rfl⟩ ⟨⟨rfl, e1, cR, cQ⟩, hB⟩ hK
    rw [bk_map _ _ (by rw [HLN.out]; exact hk)] at e1
    have e2 : gs D (D.KL i).reverse i 0 = none := by
      have := gs_app_none ((D.KL i).reverse.drop k) _ e1
      rwa [List.take_append_drop] at this
    have g1 : tr D i = none := by
      rw [gs_fd] at e2
      rw [tr_eq]
      exact Option.map_eq_none_iff.1 e2
    have HF : Hid (stF D i = 0 ∧ stG D i = 0 ∧ (tr D i).isSome = false) := hide ⟨by unfold stF; rw [g1], by unfold stG; rw [g1], by rw [g1]; rfl⟩
    have r0 : W.cell? ⟨w.heap.size + 1 + 1, 0, none⟩ = some (.int .i64 0) := cellsAt_cell cR 0
    have r1 : W.cell? ⟨w.heap.size + 1 + 1, 1, none⟩ = some (.int .i64 0) := cellsAt_cell cR 1
    have q0 : W.cell? ⟨w.heap.size + 1 + 1 + 1, 0, none⟩ = some (.bool false) := cellsAt_cell cQ 0
    clear e1 e2 g1
    gi_wp2
    refine ⟨by simp, .inl ⟨_, _, rfl, run_takeDeferred hK, ?_⟩⟩
    have cR4 := cellsAt_kept cR (grownBy_putObj' _ Db (.deferred none)) (fun r e => by cases e; exact ⟨_, hK, rfl⟩)
    have cQ4 := cellsAt_kept cQ (grownBy_putObj' _ Db (.deferred none)) (fun r e => by cases e; exact ⟨_, hK, rfl⟩)
    have y0 := cellsAt_cell cR4 0
    have y1 := cellsAt_cell cR4 1
    have y2 := cellsAt_cell cQ4 0
    refine ⟨.tuple #[.agg #[.int .i64 0, .int .i64 0], .bool false], ?_, by rw [HF.out.1, HF.out.2.1, HF.out.2.2], hB.trans (belowK_b (w := W5.alloc (Obj.cells #[.slice ad len cp] 44)) (by omega) _ Db _ _ hD hK rfl rfl)⟩
    simp [results, Try.results28, go_sem, y0, y1, y2]
end Go.Proofs.Ytfohfljdgmlibaa
