/-
  Contract of the program: ReadMarks, a range over the iterator of strings.Lines.
-/
import Derived.Test.YtdbipaobanjbbaaDoorMrP
namespace Go.Proofs.YtdbipaobanjbbaaDoor
open Go.RowKit Go.Joins Go.Shelf
set_option linter.unusedVariables false
set_option linter.unusedSimpArgs false
attribute [local go_sem] Oper.semAt_some
/-- While lines are read: k marks are there; the boxes of the results are empty yet. -/
def LnW (w : World) (s : ByteArray) (k : Nat) (W : World) : Prop := ∃ (L : List Mr) (ad : Option Addr) (c : Nat), RdL s k L ∧ MrO w.heap.size W ad k c L ∧ W.heap[w.heap.size]? = some (.cells #[.slice none 0 0] 22 (0, 0)) ∧ W.heap[w.heap.size + 1]? = some (.cells #[.bool false] 4 (0, 0)) ∧
  W.heap[w.heap.size + 1 + 1]? = some (.cells #[.slice ad k c] 22 (0, 0)) ∧ (∃ t, W.heap[w.heap.size + 1 + 1 + 1]? = some (.cells #[.string t] 9 (0, 0))) ∧ Below w.heap.size w W
/-- A line was no mark's: the results are empty. -/
def LnX (w : World) (s : ByteArray) (k : Nat) (W : World) : Prop := (∃ L, RdL s k L) ∧ (¬ ∃ m, okR m = true ∧ lnR m = (lnB s k).data.toList) ∧ W.heap[w.heap.size]? = some (.cells #[.slice none 0 0] 22 (0, 0)) ∧ W.heap[w.heap.size + 1]? = some (.cells #[.bool false] 4 (0, 0)) ∧ Below w.heap.size w W
section
variable {w W W' : World} {s : ByteArray} {k : Nat}
theorem own_keptL {B : Nat} {e : TypeId} {z : Nat} {v : Value} {n : Nat} {xs : List Value} {row : Option Nat} (h : W.ownsRow B e z v n xs) (hg : W.grownBy W' row) (hr : ∀ r, row = some r → ∃ o : Obj, W.heap[r]? = some o ∧ o.isCells = false) : W'.ownsRow B e z v n xs := by
  refine h.kept hg ?_
  cases hv : v.ownBlock with
  | none => exact .inl rfl
  | some q => exact .inr (fun e => by
      obtain ⟨o, ho, hc⟩ := hr q e.symm
      rcases h.2 with ⟨rfl, -⟩ | ⟨g, cap, cur, rfl, -, hh, -⟩
      · cases hv
      · have e2 : g = q := by simpa [Value.ownBlock] using hv
        subst e2
        rw [hh] at ho
        cases ho
        cases hc)
theorem blk_kept {q : Nat} {cs : Array Value} {T : TypeId} {row : Option Nat} (h : W.heap[q]? = some (.cells cs T (0, 0))) (hg : W.grownBy W' row) (hr : ∀ r, row = some r → ∃ o : Obj, W.heap[r]? = some o ∧ o.isCells = false) : W'.heap[q]? = some (.cells cs T (0, 0)) := by
  refine (hg.block q (Array.getElem?_eq_some_iff.1 h).1 (fun e => ?_)).trans h
  obtain ⟨o, ho, hc⟩ := hr q e.symm
  rw [h] at ho
  cases ho
  cases hc
theorem lnw_step {row : Option Nat} (h : LnW w s k W) (hg : W.grownBy W' row) (hr : ∀ r, row = some r → w.heap.size ≤ r ∧ ∃ o : Obj, W.heap[r]? = some o ∧ o.isCells = false) : LnW w s k W' := by
  obtain ⟨L, ad, c, h1, h2, h3, h4, h5, ⟨t, h6⟩, h7⟩ := h
  have hr2 := fun r e => (hr r e).2
  exact ⟨L, ad, c, h1, ⟨own_keptL h2.1 hg hr2, h2.2⟩, blk_kept h3 hg hr2, blk_kept h4 hg hr2, blk_kept h5 hg hr2, ⟨t, blk_kept h6 hg hr2⟩, h7.grown hg h7.size (fun r e => (hr r e).1)⟩
theorem lnx_step {row : Option Nat} (h : LnX w s k W) (hg : W.grownBy W' row) (hr : ∀ r, row = some r → w.heap.size ≤ r ∧ ∃ o : Obj, W.heap[r]? = some o ∧ o.isCells = false) : LnX w s k W' := by
  obtain ⟨h1, h2, h3, h4, h7⟩ := h
  have hr2 := fun r e => (hr r e).2
  exact ⟨h1, h2, blk_kept h3 hg hr2, blk_kept h4 hg hr2, h7.grown hg h7.size (fun r e => (hr r e).1)⟩
theorem lnw_box (h : LnW w s k W) (v : ByteArray) : LnW w s k (W.setCell ⟨w.heap.size + 1 + 1 + 1, 0, none⟩ (.string v)) := by
  obtain ⟨L, ad, c, h1, h2, h3, h4, h5, ⟨t, h6⟩, h7⟩ := h
  have ho : ∀ q, q ≠ w.heap.size + 1 + 1 + 1 → (W.setCell ⟨w.heap.size + 1 + 1 + 1, 0, none⟩ (.string v)).heap[q]? = W.heap[q]? := fun q hq => heap_setCell_other W ⟨w.heap.size + 1 + 1 + 1, 0, none⟩ q _ hq
  refine ⟨L, ad, c, h1, ⟨gOwn_set h2.1 _ _ (fun e => ?_), h2.2⟩, (ho _ (by omega)).trans h3, (ho _ (by omega)).trans h4, (ho _ (by omega)).trans h5, ⟨v, heap_setCell_same W _ 0 _ _ _ h6⟩, h7.setCell (by show w.heap.size ≤ w.heap.size + 1 + 1 + 1; omega) _⟩
  rcases h2.1.2 with ⟨e1, -⟩ | ⟨g, cap, cur, e1, -, hh, -⟩
  · rw [e1] at e; cases e
  · rw [e1] at e
    have e2 : g = w.heap.size + 1 + 1 + 1 := by simpa [Value.ownBlock] using e
    subst e2
    rw [h6] at hh
    simp at hh
end
set_option maxHeartbeats 1000000 in
theorem lines_in (n : Nat) (s : ByteArray) (w : World) :
    CallsIn Fence.wide n Tryd.prog 13 #[.string s] w fun e w' => e = .returned (.func (.func 27) #[] #[.pointer (some ⟨w.heap.size, 0, none⟩)]) ∧ w' = w.alloc (.cells #[.string s] 9) := by
  refine callsIn_of_wp Tryd.func13 rfl trivial ?_ rfl
  simp only [Tryd.ntmps13, List.size_toArray, List.length_cons, List.length_nil, Nat.reduceAdd, Nat.reduceSub, Array.replicate_succ, Array.replicate_zero, List.push_toArray, List.append_toArray, List.nil_append, List.cons_append]
  gi_wp2
  go_ret
  exact ⟨rfl, rfl⟩
theorem own_nt {W : World} {B z n q : Nat} {e T : TypeId} {v : Value} {xs : List Value} {cs : Array Value} (h : W.ownsRow B e z v n xs) (hq : W.heap[q]? = some (.cells cs T (0, 0))) (hne : e ≠ T) : v.ownBlock ≠ some q := fun hv => by
  rcases h.2 with ⟨rfl, -⟩ | ⟨g, cap, cur, rfl, -, hh, -⟩
  · cases hv
  · have e2 : g = q := by simpa [Value.ownBlock] using hv
    subst e2
    rw [hh] at hq
    simp at hq
    exact hne hq.2
theorem own_nc {W : World} {B z n q : Nat} {e : TypeId} {v : Value} {xs : List Value} {o : Obj} (h : W.ownsRow B e z v n xs) (hq : W.heap[q]? = some o) (hc : o.isCells = false) : v.ownBlock ≠ some q := fun hv => by
  rcases h.2 with ⟨rfl, -⟩ | ⟨g, cap, cur, rfl, -, hh, -⟩
  · cases hv
  · have e2 : g = q := by simpa [Value.ownBlock] using hv
    subst e2
    rw [hh] at hq
    cases hq
    cases hc
/-- What a round keeps: whatever is no cells and was laid since, and the iterator's own box. -/
def KpL (N Bs : Nat) (W W' : World) : Prop := (∀ r o, N ≤ r → W.heap[r]? = some o → o.isCells = false → W'.heap[r]? = some o) ∧ ∀ v, CellsAt W Bs #[v] → CellsAt W' Bs #[v]
/-- How a round may end. -/
def RoundEnds (N Bs : Nat) (I X : Nat → World → Prop) (k : Nat) (W : World) : Exit → Act → World → Prop
  | .normal, _, W' => I (k + 1) W' ∧ KpL N Bs W W'
  | .ret, _, W' => X k W' ∧ KpL N Bs W W'
  | _, _, _ => False
/-- A loop over the lines of a text: the iterator writes its own box and no more. -/
theorem over_lines {g : Operand} {ps : Array Tmp} {assign body : Code} {Q : Exit → Act → World → Prop} {a : Act} {W4 : World} {Bs : Nat} {s : ByteArray} (hs : s.size ≤ 1048576) (hg : a.eval g = .func (.func 27) #[] #[.pointer (some ⟨Bs, 0, none⟩)]) (hps : ps.size = 1) (hBs : CellsAt W4 Bs #[.string s])
    (I X : Nat → World → Prop) (a1 : Nat → Act)
    (hI : ∀ k W W' row, I k W → W.grownBy W' row → (∀ r, row = some r → W4.heap.size ≤ r ∧ ∃ o : Obj, W.heap[r]? = some o ∧ o.isCells = false) → I k W')
    (hX : ∀ k W W' row, X k W → W.grownBy W' row → (∀ r, row = some r → W4.heap.size ≤ r ∧ ∃ o : Obj, W.heap[r]? = some o ∧ o.isCells = false) → X k W')
    (hbox : ∀ k W v, I k W → I k (W.setCell ⟨Bs, 0, none⟩ (.string v))) (hdr : ∀ k W, I k W → I k W.drew) (h0 : I 0 W4)
    (hassign : ∀ (l k : Nat) (W : World) (K : Act → World → Prop), K (a1 k) W → assign.wpIn (Fence.wide.inRound l) 1 Tryd.prog (Exit.then K (fun _ _ _ => False)) { tmps := (ps.zip #[Value.string (lnB s k)]).foldl (fun t (p, v) => t.setIfInBounds p v) a.tmps, defers := [] } W)
    (hbody : ∀ (l k : Nat) (W : World), I k W → RsN s k → body.wpIn (Fence.wide.inRound l) 1 Tryd.prog (RoundEnds W4.heap.size Bs I X k W) (a1 k) W)
    (hdone : ∀ k W, I k W → RsE s k → W.heap[W4.heap.size]? = some (.deferred (some [])) → Q .normal { a with defers := { target := .collected W4.heap.size, args := #[] } :: a.defers } W)
    (hstop : ∀ k W, X k W → RsN s k → W.heap[W4.heap.size]? = some (.deferred (some [])) → Code.ret.wpIn Fence.wide 3 Tryd.prog Q { a with defers := { target := .collected W4.heap.size, args := #[] } :: a.defers } W) :
    (Code.rangeFunc g ps assign body).wpIn Fence.wide 3 Tryd.prog Q a W4 := by
  refine wpIn_rangeFunc ?_
  intro fn hfn
  obtain ⟨rc, hrc⟩ : ∃ rc : LoopState → Option Code → Loop, rc = fun st pe => { state := st, pending := pe, fn, tmps := a.tmps, params := ps, assign, body, defers := W4.heap.size } := ⟨_, rfl⟩
  have hgA := (World.grownBy_alloc W4 (.deferred (some [])) none)
  have hgB := (World.grownBy_alloc (W4.alloc (.deferred (some []))) (.loop (rc .ready none)) none)
  have hi1 : I 0 ((W4.alloc (.deferred (some []))).alloc (.loop (rc .ready none))) := hI _ _ _ _ (hI _ _ _ _ h0 hgA (fun r e => by cases e)) hgB (fun r e => by cases e)
  have hl1 : ((W4.alloc (.deferred (some []))).alloc (.loop (rc .ready none))).heap[W4.heap.size + 1]? = some (.loop (rc .ready none)) := by
    have h := World.alloc_heap_new (W4.alloc (.deferred (some []))) (.loop (rc .ready none))
    rwa [World.size_alloc] at h
  have hd1 : ((W4.alloc (.deferred (some []))).alloc (.loop (rc .ready none))).heap[W4.heap.size]? = some (.deferred (some [])) := (hgB.block _ (by simp) (by simp)).trans (World.alloc_heap_new W4 _)
  have hb1 : CellsAt ((W4.alloc (.deferred (some []))).alloc (.loop (rc .ready none))) Bs #[.string s] := by
    have hlt := cellsAt_lt hBs
    exact cellsAt_go (cellsAt_go hBs ((Below.refl W4.heap.size W4).alloc (Nat.le_refl _) _) hlt) ((Below.refl _ _).alloc (Nat.le_refl _) _) (by simp; try omega)
  have henter := run_enterLoop_outer (P := Tryd.prog) (w := W4) fn a.tmps ps assign body
  obtain ⟨W1, hW1⟩ : ∃ W1, (W4.alloc (.deferred (some []))).alloc (.loop (rc .ready none)) = W1 := ⟨_, rfl⟩
  have hW1' : (W4.alloc (.deferred (some []))).alloc (.loop { state := .ready, pending := none, fn, tmps := a.tmps, params := ps, assign, body, defers := W4.heap.size }) = W1 := by rw [← hW1, hrc]
  rw [hW1'] at henter
  rw [hW1] at hi1 hl1 hd1 hb1
  clear hW1 hW1' hgA hgB
  refine ⟨W4.heap.size + 1, [{ target := .collected W4.heap.size, args := #[] }], W1, { target := .fn (.func 27) #[.pointer (some ⟨Bs, 0, none⟩)], args := #[.func (.yield (W4.heap.size + 1)) #[] #[]] }, W1, 27, #[.func (.yield (W4.heap.size + 1)) #[] #[], .pointer (some ⟨Bs, 0, none⟩)], W1, henter, ?_, fun f' _ => trivial, ?_, fun _ => by omega, ?_⟩
  · simp only [resolve, hg]
    simp [go_sem]
  · simp [invoke, go_sem, enters_of Tryd.func27 (by kernel_rfl) rfl]
  · refine (lines1_in 2 (by omega) (W4.heap.size + 1) Bs s hs
      (fun k W => I k W ∧ W.heap[W4.heap.size + 1]? = some (.loop (rc .ready none)) ∧ W.heap[W4.heap.size]? = some (.deferred (some [])))
      (fun k W => X k W ∧ W.heap[W4.heap.size + 1]? = some (.loop (rc .done (some .ret))) ∧ W.heap[W4.heap.size]? = some (.deferred (some [])))
      (fun k W v h => ⟨hbox k W v h.1, (heap_setCell_other W ⟨Bs, 0, none⟩ _ _ (by have := cellsAt_lt hBs; show W4.heap.size + 1 ≠ Bs; omega)).trans h.2.1, (heap_setCell_other W ⟨Bs, 0, none⟩ _ _ (by have := cellsAt_lt hBs; show W4.heap.size ≠ Bs; omega)).trans h.2.2⟩)
      (fun k W h => ⟨hdr k W h.1, h.2⟩) ?_ W1 hb1 ⟨hi1, hl1, hd1⟩).mono ?_
    · rintro k W ⟨hi, hl, hd⟩ hn
      have hlt : W4.heap.size + 1 < W.heap.size := (Array.getElem?_eq_some_iff.1 hl).1
      have hy := run_yield (P := Tryd.prog) (args := #[Value.string (lnB s k)]) hl (by rw [hrc]; exact hps.symm)
      rw [hrc] at hy
      refine ⟨fn, _, assign, body, hy, roundIn_of_wpIn hfn (hassign _ k W _ ⟨_, run_beginRound hl (by rw [hrc]), ?_⟩)⟩
      obtain ⟨Wb, hWb⟩ : ∃ Wb, W.putObj (W4.heap.size + 1) (.loop { rc .ready none with state := .busy }) = Wb := ⟨_, rfl⟩
      have hib : I k Wb := by rw [← hWb]; exact hI k W _ (some (W4.heap.size + 1)) hi (grownBy_putObj' W _ _) (fun r e => by cases e; exact ⟨by omega, _, hl, rfl⟩)
      have hlb : Wb.heap[W4.heap.size + 1]? = some (.loop { rc .ready none with state := .busy }) := by rw [← hWb]; exact World.putObj_heap_same hlt
      have hdb : Wb.heap[W4.heap.size]? = some (.deferred (some [])) := by rw [← hWb]; exact (World.putObj_heap_other (by omega)).trans hd
      have hcb : ∀ v, CellsAt W Bs #[v] → CellsAt Wb Bs #[v] := fun v ⟨T, hT⟩ => ⟨T, by rw [← hWb]; exact (World.putObj_heap_other (by have := cellsAt_lt hBs; omega)).trans hT⟩
      rw [hWb]
      refine wpIn_mono (hbody _ k Wb hib hn) ?_
      rintro e a3 W3 hp
      cases e with
      | normal =>
        obtain ⟨hi3, hk1, hk2⟩ := hp
        have hl3 := hk1 _ _ (by omega) hlb rfl
        have hd3 := hk1 _ _ (Nat.le_refl _) hdb rfl
        have hlt3 := (Array.getElem?_eq_some_iff.1 hl3).1
        refine ⟨_, _, run_endRound none hl3, .inl ⟨rfl, ⟨hI _ W3 _ (some (W4.heap.size + 1)) hi3 (grownBy_putObj' W3 _ _) (fun r e => by cases e; exact ⟨by omega, _, hl3, rfl⟩), ?_, (World.putObj_heap_other (by omega)).trans hd3⟩, fun v hv => ?_⟩⟩
        · rw [World.putObj_heap_same hlt3, hrc]; rfl
        · obtain ⟨T, hT⟩ := hk2 v (hcb v hv)
          exact ⟨T, (World.putObj_heap_other (by have := cellsAt_lt hBs; omega)).trans hT⟩
      | ret =>
        obtain ⟨hx3, hk1, hk2⟩ := hp
        have hl3 := hk1 _ _ (by omega) hlb rfl
        have hd3 := hk1 _ _ (Nat.le_refl _) hdb rfl
        have hlt3 := (Array.getElem?_eq_some_iff.1 hl3).1
        refine ⟨_, _, run_endRound (some .ret) hl3, .inr ⟨rfl, hX _ W3 _ (some (W4.heap.size + 1)) hx3 (grownBy_putObj' W3 _ _) (fun r e => by cases e; exact ⟨by omega, _, hl3, rfl⟩), ?_, (World.putObj_heap_other (by omega)).trans hd3⟩⟩
        rw [World.putObj_heap_same hlt3, hrc]; rfl
      | exit id => exact hp.elim
      | goto t => exact hp.elim
      | panic ch => exact hp.elim
      | outgrown => exact hp.elim
    · rintro e W2 ⟨⟨v, rfl⟩, ⟨k, ⟨hi, hl, hd⟩, he⟩ | ⟨k, hn, hx, hl, hd⟩⟩
      · refine ⟨none, _, by have h := run_endLoop (P := Tryd.prog) hl (by rw [hrc]; simp); rw [hrc] at h; exact h, ?_⟩
        exact hdone k _ (hI _ W2 _ (some (W4.heap.size + 1)) hi (grownBy_putObj' W2 _ _) (fun r e => by cases e; exact ⟨by omega, _, hl, rfl⟩)) he ((World.putObj_heap_other (by omega)).trans hd)
      · refine ⟨some .ret, _, by have h := run_endLoop (P := Tryd.prog) hl (by rw [hrc]; simp); rw [hrc] at h; exact h, ?_⟩
        exact hstop k _ (hX _ W2 _ (some (W4.heap.size + 1)) hx (grownBy_putObj' W2 _ _) (fun r e => by cases e; exact ⟨by omega, _, hl, rfl⟩)) hn ((World.putObj_heap_other (by omega)).trans hd)
set_option maxRecDepth 100000 in
set_option maxHeartbeats 4000000 in
theorem i_readMarks (s : ByteArray) (w : World) (hs : s.size ≤ 1048576) (hW : RmW w) : Calls Tryd.prog 5 #[.string s] w (RmkAns s w) := by
  refine (callsIn_wide (n := 3)).1 ?_
  have hro : Fence.wide.round = none := rfl
  refine callsIn_of_wp_marks Tryd.func5 rfl trivial ?_ hro
  simp only [Tryd.ntmps5, List.size_toArray, List.length_cons, List.length_nil, Nat.reduceAdd, Nat.reduceSub, Array.replicate_succ, Array.replicate_zero, List.push_toArray, List.append_toArray, List.nil_append, List.cons_append]
  have CC := hide (fun W9 => Tryd.strings_Count_one s 10 W9)
  unfold Lib.countByte at CC
  obtain ⟨q, hq⟩ : ∃ q, s.data.toList.count 10 = q := ⟨_, rfl⟩
  rw [hq] at CC
  have HQ := hide hq
  have HW := hide hW
  clear hq hW
  by_cases hc : 200 < q
  · have hci : (200 : Int) < (q : Int) := by omega
    have HNO := hide (rdl_many (s := s) (by rw [HQ.out]; exact hc))
    gi_wp2_with (refine ⟨trivial, ?_⟩; gi_at_call 12; refine ((callsIn_wide).2 (CC.out _)).mono ?_; rintro e w9 ⟨rfl, h9⟩; rw [h9]; clear h9 w9)
    refine ⟨.tuple #[.slice none 0 0, .bool false], ?_, rmk_no (((Below.refl w.heap.size w).alloc (Nat.le_refl _) _).alloc (by simp) _) HNO.out⟩
    simp [results, Tryd.results5, go_sem]
  · have hci : ¬ (200 : Int) < (q : Int) := by omega
    gi_wp2_with (first | (refine ⟨trivial, ?_⟩; gi_at_call 12; refine ((callsIn_wide).2 (CC.out _)).mono ?_; rintro e w9 ⟨rfl, h9⟩; rw [h9]; clear h9 w9) | (refine ⟨trivial, ?_⟩; gi_at_call 13; refine (lines_in _ s _).mono ?_; rintro e w' ⟨rfl, rfl⟩))
    have st : ∀ (x : World) (o : Obj), Below x.heap.size x (x.alloc o) := fun x o => (Below.refl _ _).alloc (Nat.le_refl _) _
    have hsz : ((((w.alloc (.cells #[.slice none 0 0] 22)).alloc (.cells #[.bool false] 4)).alloc (.cells #[.slice none 0 0] 22)).alloc (.cells #[.string s] 9)).heap.size = w.heap.size + 1 + 1 + 1 + 1 := by simp
    have g0 : ((((w.alloc (.cells #[.slice none 0 0] 22)).alloc (.cells #[.bool false] 4)).alloc (.cells #[.slice none 0 0] 22)).alloc (.cells #[.string s] 9)).heap[w.heap.size]? = some (.cells #[.slice none 0 0] 22 (0, 0)) := ((st _ _).block _ (by simp; try omega)).trans (((st _ _).block _ (by simp; try omega)).trans (((st _ _).block _ (by simp)).trans (heap_alloc_new w _)))
    have g1 : ((((w.alloc (.cells #[.slice none 0 0] 22)).alloc (.cells #[.bool false] 4)).alloc (.cells #[.slice none 0 0] 22)).alloc (.cells #[.string s] 9)).heap[w.heap.size + 1]? = some (.cells #[.bool false] 4 (0, 0)) := ((st _ _).block _ (by simp; try omega)).trans (((st _ _).block _ (by simp)).trans (by have h9 := heap_alloc_new (w.alloc (.cells #[.slice none 0 0] 22)) (.cells #[.bool false] 4); simpa using h9))
    have g2 : ((((w.alloc (.cells #[.slice none 0 0] 22)).alloc (.cells #[.bool false] 4)).alloc (.cells #[.slice none 0 0] 22)).alloc (.cells #[.string s] 9)).heap[w.heap.size + 1 + 1]? = some (.cells #[.slice none 0 0] 22 (0, 0)) := ((st _ _).block _ (by simp)).trans (by have h9 := heap_alloc_new ((w.alloc (.cells #[.slice none 0 0] 22)).alloc (.cells #[.bool false] 4)) (.cells #[.slice none 0 0] 22); simpa using h9)
    have g3 : ((((w.alloc (.cells #[.slice none 0 0] 22)).alloc (.cells #[.bool false] 4)).alloc (.cells #[.slice none 0 0] 22)).alloc (.cells #[.string s] 9)).heap[w.heap.size + 1 + 1 + 1]? = some (.cells #[.string s] 9 (0, 0)) := by have h9 := heap_alloc_new (((w.alloc (.cells #[.slice none 0 0] 22)).alloc (.cells #[.bool false] 4)).alloc (.cells #[.slice none 0 0] 22)) (.cells #[.string s] 9); simpa using h9
    have g4 : Below w.heap.size w ((((w.alloc (.cells #[.slice none 0 0] 22)).alloc (.cells #[.bool false] 4)).alloc (.cells #[.slice none 0 0] 22)).alloc (.cells #[.string s] 9)) := ((((Below.refl _ w).alloc (Nat.le_refl _) _).alloc (by simp) _).alloc (by simp; try omega) _).alloc (by simp; try omega) _
    obtain ⟨W4, hW4⟩ : ∃ W4, ((((w.alloc (.cells #[.slice none 0 0] 22)).alloc (.cells #[.bool false] 4)).alloc (.cells #[.slice none 0 0] 22)).alloc (.cells #[.string s] 9)) = W4 := ⟨_, rfl⟩
    rw [hW4] at hsz g0 g1 g2 g3 g4 ⊢
    clear hW4 st
    have hnx : ∀ k, (lnB s k).size ≤ 1048576 := fun k => by
      have h1 := nx_parts (rsB s k)
      have h2 := congrArg List.length h1
      simp only [List.length_append, bl] at h2
      have h3 := rs_size s k
      show (nxL (rsB s k)).1.size ≤ _
      omega
    have HHI := hide hsz
    obtain ⟨i0, hi0, hz0, hz1, hz2⟩ := info_parts infoMr
    refine over_lines (W4 := W4) (Bs := w.heap.size + 1 + 1 + 1) (s := s) hs rfl rfl ⟨_, g3⟩ (LnW w s) (LnX w s) (fun k => { tmps := #[.string s, undef, .pointer (some ⟨w.heap.size, 0, none⟩), .pointer (some ⟨w.heap.size + 1, 0, none⟩), .pointer (some ⟨w.heap.size + 1 + 1, 0, none⟩), .string (lnB s k), undef, undef, .string s, .int .i64 q, .bool (decide ((200 : Int) < (q : Int))), .string s, .func (.func 27) #[] #[.pointer (some ⟨w.heap.size + 1 + 1 + 1, 0, none⟩)], .string (lnB s k), undef, undef, undef, undef, undef, undef, undef, undef, undef, undef, undef, undef], defers := [] }) ?hI ?hX ?hbox ?hdr ?h0 ?hassign ?hbody ?hdone ?hstop
    case hI => exact fun k W W' row h hg hr => lnw_step h hg (fun r e => ⟨by have := (hr r e).1; omega, (hr r e).2⟩)
    case hX => exact fun k W W' row h hg hr => lnx_step h hg (fun r e => ⟨by have := (hr r e).1; omega, (hr r e).2⟩)
    case hbox => exact fun k W v h => lnw_box h v
    case hdr =>
      intro k W h
      obtain ⟨L, ad, c, h1, h2, h3, h4, h5, h6, h7⟩ := h
      exact ⟨L, ad, c, h1, h2, h3, h4, h5, h6, h7.trans ⟨rfl, rfl, rfl, Nat.le_refl _, fun _ _ => rfl⟩⟩
    case h0 => exact ⟨[], none, 0, rdl_start s, mrO_nil _ _, g0, g1, g2, ⟨s, g3⟩, g4⟩
    case hassign =>
      intro l k W K hK
      gi_wp2
      exact hK
    case hbody =>
      rintro l k W ⟨L, ad, c, h1, h2, h3, h4, h5, ⟨t, h6⟩, h7⟩ hn
      have CR := hide (i_readMark (lnB s k) W (hnx k) (rmW_go HW.out h7))
      have HL1 := hide h1
      have HL2 := hide h2
      have HL3 := hide h3
      have HL4 := hide h4
      have HL5 := hide h5
      have HL6 := hide h6
      have HL7 := hide h7
      have HNN := hide hn
      have hkk := rdl_few h1
      clear h1 h2 h3 h4 h5 h6 h7 hn g0 g1 g2 g3 g4 hnx
      gi_wp2_with fail
      refine ⟨trivial, ?_⟩
      refine (CallsIn.inRound l ((callsIn_wide).2 CR.out)).mono ?_
      rintro e w5 ⟨hb5, m, b, rfl, hy, hno⟩
      have HB5 := hide hb5
      have d0 := (hb5.block _ (Array.getElem?_eq_some_iff.1 HL3.out).1).trans HL3.out
      have d1 := (hb5.block _ (Array.getElem?_eq_some_iff.1 HL4.out).1).trans HL4.out
      have d2 := (hb5.block _ (Array.getElem?_eq_some_iff.1 HL5.out).1).trans HL5.out
      have d3 := (hb5.block _ (Array.getElem?_eq_some_iff.1 HL6.out).1).trans HL6.out
      have q0 := (Array.getElem?_eq_some_iff.1 d0).1
      have q1 := (Array.getElem?_eq_some_iff.1 d1).1
      have q2 := (Array.getElem?_eq_some_iff.1 d2).1
      have e0 : w5.cell? ⟨w.heap.size, 0, none⟩ = some (.slice none 0 0) := cellsAt_cell ⟨_, d0⟩ 0
      have e1 : w5.cell? ⟨w.heap.size + 1, 0, none⟩ = some (.bool false) := cellsAt_cell ⟨_, d1⟩ 0
      have e2 : w5.cell? ⟨w.heap.size + 1 + 1, 0, none⟩ = some (.slice ad k c) := cellsAt_cell ⟨_, d2⟩ 0
      have f0 := cellsAt_frozen ⟨_, d0⟩ 0
      have f1 := cellsAt_frozen ⟨_, d1⟩ 0
      have f2 := cellsAt_frozen ⟨_, d2⟩ 0
      have HD0 := hide d0
      have HD1 := hide d1
      have HD2 := hide d2
      have HD3 := hide d3
      have HYY := hide hy
      have HNO := hide hno
      clear hb5 d0 d1 d2 d3 hy hno
      cases b
      · have HN2 := hide (HNO.out rfl)
        clear HYY HNO
        gi_wp2
        have FR : ∀ r, r < W.heap.size → r ≠ w.heap.size → r ≠ w.heap.size + 1 → (((w5.setCell ⟨w.heap.size, 0, none⟩ (.slice none 0 0)).setCell ⟨w.heap.size + 1, 0, none⟩ (.bool false)).alloc (.cells #[.bool m.g, .int .i64 m.dc, .string m.vl, .bool m.nl, .bool m.gv] 29)).heap[r]? = W.heap[r]? := fun r hr n0 n1 => by
          have hr5 : r < w5.heap.size := Nat.lt_of_lt_of_le hr HB5.out.size
          refine (((Below.refl _ _).alloc (Nat.le_refl _) _).block r (by simpa using hr5)).trans ?_
          rw [heap_setCell_other _ ⟨w.heap.size + 1, 0, none⟩ r _ n1, heap_setCell_other _ ⟨w.heap.size, 0, none⟩ r _ n0]
          exact HB5.out.block r hr
        have G0 : (((w5.setCell ⟨w.heap.size, 0, none⟩ (.slice none 0 0)).setCell ⟨w.heap.size + 1, 0, none⟩ (.bool false)).alloc (.cells #[.bool m.g, .int .i64 m.dc, .string m.vl, .bool m.nl, .bool m.gv] 29)).heap[w.heap.size]? = some (.cells #[.slice none 0 0] 22 (0, 0)) := by
          refine (((Below.refl _ _).alloc (Nat.le_refl _) _).block _ (by simpa using q0)).trans ?_
          rw [heap_setCell_other _ ⟨w.heap.size + 1, 0, none⟩ w.heap.size _ (by show w.heap.size ≠ w.heap.size + 1; omega)]
          exact heap_setCell_same w5 _ 0 _ _ _ HD0.out
        have G1 : (((w5.setCell ⟨w.heap.size, 0, none⟩ (.slice none 0 0)).setCell ⟨w.heap.size + 1, 0, none⟩ (.bool false)).alloc (.cells #[.bool m.g, .int .i64 m.dc, .string m.vl, .bool m.nl, .bool m.gv] 29)).heap[w.heap.size + 1]? = some (.cells #[.bool false] 4 (0, 0)) := by
          refine (((Below.refl _ _).alloc (Nat.le_refl _) _).block _ (by simpa using q1)).trans ?_
          exact heap_setCell_same _ _ 0 _ _ _ ((heap_setCell_other w5 ⟨w.heap.size, 0, none⟩ (w.heap.size + 1) _ (by show w.heap.size + 1 ≠ w.heap.size; omega)).trans HD1.out)
        have h44 := HHI.out
        exact ⟨⟨⟨L, HL1.out⟩, HN2.out, G0, G1, (((HL7.out.trans (HB5.out.mono HL7.out.size)).setCell (p := ⟨w.heap.size, 0, none⟩) (Nat.le_refl _) _).setCell (p := ⟨w.heap.size + 1, 0, none⟩) (by show w.heap.size ≤ w.heap.size + 1; omega) _).alloc (by simp; omega) _⟩, fun r o hr ho hc => (FR r (Array.getElem?_eq_some_iff.1 ho).1 (by omega) (by omega)).trans ho, fun v ⟨T, hT⟩ => ⟨T, (FR _ (Array.getElem?_eq_some_iff.1 hT).1 (by omega) (by omega)).trans hT⟩⟩
      · have HY2 := hide (HYY.out rfl)
        clear HYY HNO
        have HO5 := hide (gOwn_after HL2.out.1 HB5.out)
        have hw5 : w.heap.size ≤ w5.heap.size := by omega
        gi_wp2_with (refine wpListIn_append_own _ rfl (.tmp 21) (.tmp 23) 22 rfl w.heap.size 29 i0 _ 5 40 Tryd.underlying22 hi0 hz0 hz1 hz2 rfl (by decide) _ _ _ rfl ((HO5.out.alloc _).alloc _) ⟨w5.heap.size + 1, 0, none⟩ 1 1 (mrV m) rfl rfl (fun j u hj => by have h9 := mr_new (w5.alloc (.cells #[.bool m.g, .int .i64 m.dc, .string m.vl, .bool m.nl, .bool m.gv] 29)) m 29 j u hj; simpa using h9) (mr_one _) (by unfold maxLen; omega) (by omega) (by simp; omega) ?_; intro v2 w7 hown2 hgrow2 _; obtain ⟨ad2, c2', hv2⟩ := gOwn_shape hown2; rw [hv2] at hown2 ⊢; clear hv2; have HO7 := hide hown2; have HG7 := hide hgrow2; have hne7 := own_nt HO5.out HD2.out (by decide); have d2 := (hgrow2.block _ (by simp; omega) (fun e9 => hne7 e9.symm)).trans (((Below.refl _ _).alloc (Nat.le_refl _) _ |>.block _ (by simp; omega)).trans (((Below.refl _ _).alloc (Nat.le_refl _) _ |>.block _ q2).trans HD2.out)); have e27 : w7.cell? ⟨w.heap.size + 1 + 1, 0, none⟩ = some (.slice ad k c) := cellsAt_cell ⟨_, d2⟩ 0; have f27 := cellsAt_frozen ⟨_, d2⟩ 0; clear hown2 hgrow2)
        have K7 : ∀ (x : Nat) (cs : Array Value) (T : TypeId), w5.heap[x]? = some (.cells cs T (0, 0)) → (29 : TypeId) ≠ T → w7.heap[x]? = some (.cells cs T (0, 0)) := fun x cs T h hne => by
          have hx := (Array.getElem?_eq_some_iff.1 h).1
          refine (HG7.out.block x (by simp; omega) (fun e9 => own_nt HO5.out h hne e9.symm)).trans ?_
          exact (((Below.refl _ _).alloc (Nat.le_refl _) _).block x (by simp; omega)).trans ((((Below.refl _ _).alloc (Nat.le_refl _) _).block x hx).trans h)
        have N7 : ∀ (x : Nat) (o : Obj), w5.heap[x]? = some o → o.isCells = false → w7.heap[x]? = some o := fun x o h hc => by
          have hx := (Array.getElem?_eq_some_iff.1 h).1
          refine (HG7.out.block x (by simp; omega) (fun e9 => own_nc HO5.out h hc e9.symm)).trans ?_
          exact (((Below.refl _ _).alloc (Nat.le_refl _) _).block x (by simp; omega)).trans ((((Below.refl _ _).alloc (Nat.le_refl _) _).block x hx).trans h)
        have B7 : Below w.heap.size w w7 := (((HL7.out.trans (HB5.out.mono HL7.out.size)).alloc (by omega) _).alloc (by simp; omega) _).grown HG7.out (by simp; omega) (fun r hr => (HO5.out.lt r hr).1)
        have SO : ∀ x, x ≠ w.heap.size + 1 + 1 → (w7.setCell ⟨w.heap.size + 1 + 1, 0, none⟩ (.slice ad2 (k + 1) c2')).heap[x]? = w7.heap[x]? := fun x hx => heap_setCell_other w7 ⟨w.heap.size + 1 + 1, 0, none⟩ x _ hx
        have h44 := HHI.out
        refine ⟨⟨L ++ [m], ad2, c2', rdl_next HL1.out HY2.out.1 HY2.out.2.1, ⟨gOwn_set (by rw [List.flatMap_append, List.flatMap_singleton]; exact HO7.out) _ _ (own_nt HO7.out d2 (by decide)), by rw [List.length_append, HL2.out.2]; rfl⟩, (SO _ (by omega)).trans (K7 _ _ _ HD0.out (by decide)), (SO _ (by omega)).trans (K7 _ _ _ HD1.out (by decide)), heap_setCell_same w7 _ 0 _ _ _ d2, ⟨t, (SO _ (by omega)).trans (K7 _ _ _ HD3.out (by decide))⟩, B7.setCell (p := ⟨w.heap.size + 1 + 1, 0, none⟩) (by show w.heap.size ≤ w.heap.size + 1 + 1; omega) _⟩, fun r o hr ho hc => ?_, fun v ⟨T, hT⟩ => ?_⟩
        · exact (SO r (by omega)).trans (N7 r o ((HB5.out.block r (Array.getElem?_eq_some_iff.1 ho).1).trans ho) hc)
        · have h6 := HL6.out
          rw [h6] at hT
          obtain ⟨h8, h9⟩ : #[Value.string t] = #[v] ∧ 9 = T := by
            have h7 := Option.some.inj hT
            injection h7 with a1 a2
            exact ⟨a1, a2⟩
          subst h9
          refine ⟨9, (SO _ (by omega)).trans ?_⟩
          rw [← h8]
          exact K7 _ _ _ HD3.out (by decide)
    case hdone =>
      rintro k W ⟨L, ad, c, h1, h2, h3, h4, h5, ⟨t, h6⟩, h7⟩ he hd
      have o0 : W.cell? ⟨w.heap.size, 0, none⟩ = some (.slice none 0 0) := cellsAt_cell ⟨_, h3⟩ 0
      have o1 : W.cell? ⟨w.heap.size + 1, 0, none⟩ = some (.bool false) := cellsAt_cell ⟨_, h4⟩ 0
      have o2 : W.cell? ⟨w.heap.size + 1 + 1, 0, none⟩ = some (.slice ad k c) := cellsAt_cell ⟨_, h5⟩ 0
      have f0 := cellsAt_frozen ⟨_, h3⟩ 0
      have f1 := cellsAt_frozen ⟨_, h4⟩ 0
      have HA := hide (rdl_end h1 he (by rw [HQ.out]; exact hc))
      have r0 : ((W.setCell ⟨w.heap.size, 0, none⟩ (.slice ad k c)).setCell ⟨w.heap.size + 1, 0, none⟩ (.bool true)).heap[w.heap.size]? = some (.cells #[.slice ad k c] 22 (0, 0)) := (heap_setCell_other _ ⟨w.heap.size + 1, 0, none⟩ w.heap.size _ (by show w.heap.size ≠ w.heap.size + 1; omega)).trans (heap_setCell_same W _ 0 _ _ _ h3)
      have r1 : ((W.setCell ⟨w.heap.size, 0, none⟩ (.slice ad k c)).setCell ⟨w.heap.size + 1, 0, none⟩ (.bool true)).heap[w.heap.size + 1]? = some (.cells #[.bool true] 4 (0, 0)) := heap_setCell_same _ _ 0 _ _ _ ((heap_setCell_other W ⟨w.heap.size, 0, none⟩ (w.heap.size + 1) _ (by show w.heap.size + 1 ≠ w.heap.size; omega)).trans h4)
      have rd : ((W.setCell ⟨w.heap.size, 0, none⟩ (.slice ad k c)).setCell ⟨w.heap.size + 1, 0, none⟩ (.bool true)).heap[W4.heap.size]? = some (.deferred (some [])) := (heap_setCell_other _ ⟨w.heap.size + 1, 0, none⟩ W4.heap.size _ (by show W4.heap.size ≠ w.heap.size + 1; omega)).trans ((heap_setCell_other _ ⟨w.heap.size, 0, none⟩ W4.heap.size _ (by show W4.heap.size ≠ w.heap.size; omega)).trans hd)
      have ro : ((W.setCell ⟨w.heap.size, 0, none⟩ (.slice ad k c)).setCell ⟨w.heap.size + 1, 0, none⟩ (.bool true)).ownsRow w.heap.size 29 5 (.slice ad k c) k (L.flatMap mrV) := gOwn_set (gOwn_set h2.1 _ _ (own_nt h2.1 h3 (by decide))) _ _ (own_nt (gOwn_set h2.1 ⟨w.heap.size, 0, none⟩ (.slice ad k c) (own_nt h2.1 h3 (by decide))) ((heap_setCell_other W ⟨w.heap.size, 0, none⟩ (w.heap.size + 1) _ (by show w.heap.size + 1 ≠ w.heap.size; omega)).trans h4) (by decide))
      have rb : Below w.heap.size w ((W.setCell ⟨w.heap.size, 0, none⟩ (.slice ad k c)).setCell ⟨w.heap.size + 1, 0, none⟩ (.bool true)) := (h7.setCell (p := ⟨w.heap.size, 0, none⟩) (Nat.le_refl _) _).setCell (p := ⟨w.heap.size + 1, 0, none⟩) (by show w.heap.size ≤ w.heap.size + 1; omega) _
      have R0 := hide r0
      have R1 := hide r1
      have RD := hide rd
      have RO := hide ro
      have RB := hide rb
      have HL := hide h2.2
      clear h1 h2 h3 h4 h5 h6 h7 he hd r0 r1 rd ro rb g0 g1 g2 g3 g4 hnx
      gi_wp2
      refine ⟨by simp, .inl ⟨_, _, rfl, run_takeDeferred RD.out, ?_⟩⟩
      have hgp := grownBy_putObj' ((W.setCell ⟨w.heap.size, 0, none⟩ (.slice ad k c)).setCell ⟨w.heap.size + 1, 0, none⟩ (.bool true)) W4.heap.size (.deferred none)
      have hrp : ∀ r, some W4.heap.size = some r → ∃ o : Obj, ((W.setCell ⟨w.heap.size, 0, none⟩ (.slice ad k c)).setCell ⟨w.heap.size + 1, 0, none⟩ (.bool true)).heap[r]? = some o ∧ o.isCells = false := fun r e => by cases e; exact ⟨_, RD.out, rfl⟩
      have y0 := cellsAt_cell ⟨_, blk_kept R0.out hgp hrp⟩ 0
      have y1 := cellsAt_cell ⟨_, blk_kept R1.out hgp hrp⟩ 0
      refine ⟨.tuple #[.slice ad k c, .bool true], ?_, RB.out.grown hgp RB.out.size (fun r e => by cases e; have := HHI.out; omega), .inl ⟨L, ad, k, c, HA.out.1, HA.out.2, rfl, own_keptL RO.out hgp hrp, HL.out⟩⟩
      simp [results, Tryd.results5, go_sem, y0, y1]
    case hstop =>
      rintro k W ⟨⟨L, h1⟩, h2, h3, h4, h7⟩ hn hd
      have HA := hide (rdl_no h1 hn h2)
      have R0 := hide h3
      have R1 := hide h4
      have RD := hide hd
      have RB := hide h7
      clear h1 h2 h3 h4 h7 hn hd g0 g1 g2 g3 g4 hnx
      gi_wp2
      refine ⟨by simp, .inl ⟨_, _, rfl, run_takeDeferred RD.out, ?_⟩⟩
      have hgp := grownBy_putObj' W W4.heap.size (.deferred none)
      have hrp : ∀ r, some W4.heap.size = some r → ∃ o : Obj, W.heap[r]? = some o ∧ o.isCells = false := fun r e => by cases e; exact ⟨_, RD.out, rfl⟩
      have y0 := cellsAt_cell ⟨_, blk_kept R0.out hgp hrp⟩ 0
      have y1 := cellsAt_cell ⟨_, blk_kept R1.out hgp hrp⟩ 0
      refine ⟨.tuple #[.slice none 0 0, .bool false], ?_, rmk_no (RB.out.grown hgp RB.out.size (fun r e => by cases e; have := HHI.out; omega)) HA.out⟩
      simp [results, Tryd.results5, go_sem, y0, y1]
end Go.Proofs.YtdbipaobanjbbaaDoor
