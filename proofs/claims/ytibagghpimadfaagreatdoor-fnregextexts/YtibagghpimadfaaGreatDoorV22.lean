/-
  Contract of the program's reader of expressions: the whole text, where it gives up with a panic that is recovered.
-/
import Derived.Test.YtibagghpimadfaaGreatDoorV21
import Derived.Defers
import Derived.Recover
namespace Go.Proofs.YtibagghpimadfaaGreatDoor
open Go.RowKit Go.Joins
set_option linter.unusedVariables false
set_option linter.unusedSimpArgs false
theorem catchR_panic (p q : Addr) (x y : Value) (t : TypeId) (pv : Value) (older : List PanicEntry) (w : World) (hc : w.cell? p = some x) (hz : w.frozen? p = false) (hd : (w.setCell p (.slice none 0 0)).cell? q = some y) (hy : (w.setCell p (.slice none 0 0)).frozen? q = false) :
    CallsD Tryz.prog 29 #[.pointer (some p), .pointer (some q)] (.panicking ({ v := .iface t pv, recovered := false } :: older)) w fun e u' w' =>
      e = .returned (.tuple #[]) ∧ u' = .panicking ({ v := .iface t pv, recovered := true } :: older) ∧ w' = (w.setCell p (.slice none 0 0)).setCell q (.bool false) := by
  refine callsD_of_wpS Tryz.func29 rfl fun c₀ cs hu => ?_
  apply wpS_seq
  apply wpS_region
  simp [wpOpsS, go_sem, recoverD, hu, Tryz.ntmps29, Exit.thenS]
  refine wpS_cond (t := true) (by simp [Act.eval, Array.replicate]) ?_
  simp only [if_true]
  apply wpS_region
  simp [wpOpsS, go_sem, hc, hz, hd, hy, bodyPostS, results, Tryz.results29]
theorem catchR_idle (p q : Addr) (w : World) :
    CallsD Tryz.prog 29 #[.pointer (some p), .pointer (some q)] .returning w fun e u' w' => e = .returned (.tuple #[]) ∧ u' = .returning ∧ w' = w := by
  refine callsD_of_wpS Tryz.func29 rfl fun c₀ cs hu => ?_
  apply wpS_seq
  apply wpS_region
  simp [wpOpsS, go_sem, recoverD, hu, Tryz.ntmps29, Exit.thenS]
  refine wpS_cond (t := false) (by simp [Act.eval, Array.replicate]) ?_
  simp only [Bool.false_eq_true, if_false]
  refine wpS_of_wp (wp_skip ?_)
  cases c₀
  simp_all [bodyPostS, results, Tryz.results29]
/-- The whole text. -/
def rdW (u : List Int) : Option (List Nd) := match rdC (4 * u.length + 4) u [] with
  | some ([], X) => some X
  | _ => none
theorem rdW_some {u : List Int} {X : List Nd} (h : rdC (4 * u.length + 4) u [] = some ([], X)) : rdW u = some X := by unfold rdW; rw [h]
theorem rdW_none {u : List Int} (h : rdC (4 * u.length + 4) u [] = none) : rdW u = none := by unfold rdW; rw [h]
theorem rdW_more {u r : List Int} {c : Int} {X : List Nd} (h : rdC (4 * u.length + 4) u [] = some (c :: r, X)) : rdW u = none := by unfold rdW; rw [h]
/-- What the whole text gives. -/
def RwX (o : Option (List Nd)) (w : World) (e : Ending) (w' : World) : Prop := match o with
  | some X => ∃ ad c, e = .returned (.tuple #[.slice ad X.length c, .bool true]) ∧ XOZ 500 w.heap.size (fun j => w.heap.size ≤ j) w' ad c X ∧ Below w.heap.size w w'
  | none => e = .returned (.tuple #[.slice none 0 0, .bool false]) ∧ Below w.heap.size w w'
/-- A box of one cell. -/
def BX (w : World) (L : Nat) (v : Value) (t : TypeId) : Prop := w.heap[L]? = some (.cells #[v] t (0, 0))
section
variable {w w' : World} {L : Nat} {v : Value} {t : TypeId}
theorem bx_cell (h : BX w L v t) : w.cell? ⟨L, 0, none⟩ = some v := by
  rw [cell_of_row w L 0 _ _ (0, 0) h]; rfl
theorem bx_frozen (h : BX w L v t) : w.frozen? ⟨L, 0, none⟩ = false := frozen_of_row w L 0 _ _ h
theorem bx_set (h : BX w L v t) (v' : Value) : BX (w.setCell ⟨L, 0, none⟩ v') L v' t := heap_setCell_same w L 0 _ _ v' h
theorem bx_kp {S : Nat → Prop} (h : BX w L v t) (k : Kp S w w') (hS : ¬ S L) : BX w' L v t := (k.block L (Array.getElem?_eq_some_iff.1 h).1 hS).trans h
theorem bx_bl {B : Nat} (h : BX w L v t) (k : Below B w w') (hS : L < B) : BX w' L v t := (k.block L hS).trans h
end
/-- The two boxes are set: the answer. -/
theorem bx_two {w : World} {L : Nat} {v1 v2 a b : Value} {t1 t2 : TypeId} (h1 : BX w L v1 t1) (h2 : BX w (L + 1) v2 t2) : BX ((w.setCell ⟨L, 0, none⟩ a).setCell ⟨L + 1, 0, none⟩ b) L a t1 ∧ BX ((w.setCell ⟨L, 0, none⟩ a).setCell ⟨L + 1, 0, none⟩ b) (L + 1) b t2 ∧ Kp (fun j => j = L ∨ j = L + 1) w ((w.setCell ⟨L, 0, none⟩ a).setCell ⟨L + 1, 0, none⟩ b) ∧ BX (w.setCell ⟨L, 0, none⟩ a) (L + 1) v2 t2 := by
  have a1 := bx_set h1 a
  have k1 : Kp (fun j => j = L) w (w.setCell ⟨L, 0, none⟩ a) := kp_set (S := fun j => j = L) _ _ _ rfl
  have a2 := bx_kp h2 k1 (by omega)
  have k2 : Kp (fun j => j = L + 1) (w.setCell ⟨L, 0, none⟩ a) ((w.setCell ⟨L, 0, none⟩ a).setCell ⟨L + 1, 0, none⟩ b) := kp_set (S := fun j => j = L + 1) _ _ _ rfl
  exact ⟨bx_kp a1 k2 (by omega), bx_set a2 b, ((Kp.refl (fun j => j = L ∨ j = L + 1) w).trans k1 (fun j _ hj => .inl hj)).trans k2 (fun j _ hj => .inr hj), a2⟩
theorem xo_lower {Z B B' : Nat} {S : Nat → Prop} {w : World} {ad : Option Addr} {c : Nat} {X : List Nd} (h : XOZ Z B S w ad c X) (hB : B' ≤ B) : XOZ Z B' S w ad c X := by
  obtain ⟨xs, ⟨h0, h1⟩, h2, h3⟩ := h
  refine ⟨xs, ⟨h0, ?_⟩, h2, h3⟩
  rcases h1 with h1 | ⟨g, cap, cur, hv, hg, rest⟩
  · exact .inl h1
  · exact .inr ⟨g, cap, cur, hv, Nat.le_trans hB hg, rest⟩
set_option maxRecDepth 100000 in
set_option maxHeartbeats 4000000 in
theorem i_readRx (u : List Int) (n : Nat) (ta : Option Addr) (tc : Nat) (w : World) (hn : u.length = n) (hu : n ≤ 400) (ht : Tx w.heap.size w ta tc u) : Calls Tryz.prog 15 #[.slice ta n tc] w (RwX (rdW u) w) := by
  have hmf : ∀ (fn : Fn) (first cap : Array Value) (w : World), (Instr.makeFunc fn first cap).run Tryz.prog w = .ok (.func fn first cap) w := fun _ _ _ _ => rfl
  have hwaD : ∃ wa, wa = (((w.alloc (.cells #[.slice none 0 0] 24)).alloc (.cells #[.bool false] 4)).alloc (.cells #[.slice ta n tc, .slice none 0 0] 62)) := ⟨_, rfl⟩
  obtain ⟨wa, hwa⟩ := hwaD
  have hsz : wa.heap.size = w.heap.size + 3 := by rw [hwa]; simp
  have HKA : Hid (Kp (fun _ => False) w wa) := hide (by
    rw [hwa]
    exact ((kp_alloc w _).trans (kp_alloc (S := fun _ => False) _ _) (fun _ _ x => x)).trans (kp_alloc (S := fun _ => False) _ _) (fun _ _ x => x))
  have HBA : Hid (Below w.heap.size w wa) := hide (kp_below HKA.out (Nat.le_refl _) (fun _ h9 => h9.elim))
  have HA : Hid (RD (fun j => w.heap.size + 1 + 1 ≤ j) (w.heap.size + 1 + 1) (w.heap.size + 1 + 1) wa u []) := hide (by
    refine ⟨Nat.le_refl _, ta, tc, none, 0, ?_, ?_, xo_nil _ _ _, fun k hk => (by cases hk)⟩
    · rw [hwa, hn]
      have := heap_alloc_new ((w.alloc (.cells #[.slice none 0 0] 24)).alloc (.cells #[.bool false] 4)) (.cells #[.slice ta n tc, .slice none 0 0] 62)
      rw [show ((w.alloc (.cells #[.slice none 0 0] 24)).alloc (.cells #[.bool false] 4)).heap.size = w.heap.size + 1 + 1 by simp] at this
      exact this
    · obtain ⟨t1, t2, t3, t4⟩ := tx_go ht HBA.out
      exact ⟨t1, t2, fun h9 => by obtain ⟨b, off, e, hb, hc⟩ := t3 h9; exact ⟨b, off, e, by omega, hc⟩, t4⟩)
  have HB1 : Hid (BX wa w.heap.size (.slice none 0 0) 24) := hide (by
    rw [hwa]
    exact bx_kp (bx_kp (w := w.alloc _) (heap_alloc_new w _) (kp_alloc (S := fun _ => False) _ _) (fun x => x)) (kp_alloc (S := fun _ => False) _ _) (fun x => x))
  have HB2 : Hid (BX wa (w.heap.size + 1) (.bool false) 4) := hide (by
    rw [hwa]
    have := heap_alloc_new (w.alloc (.cells #[.slice none 0 0] 24)) (.cells #[.bool false] 4)
    rw [show (w.alloc (.cells #[.slice none 0 0] 24)).heap.size = w.heap.size + 1 by simp] at this
    exact bx_kp this (kp_alloc (S := fun _ => False) _ _) (fun x => x))
  have HC := hide (i_all u.length (by omega) (w.heap.size + 1 + 1) (w.heap.size + 1 + 1) u [] wa (4 * u.length + 4) (Nat.le_refl _) (Nat.le_refl _) (by simp; omega) HA.out)
  clear ht hn
  go_enter_defers Tryz.func15, Tryz.ntmps15
  go_wp2_with fail
  rw [← hwa]
  clear hwa
  rcases hr : rdC (4 * u.length + 4) u [] with _ | ⟨u1, X1⟩
  · have HN := hide (rai_none hr HC.out)
    have HE := hide (rdW_none hr)
    clear HC hr
    refine HN.out.mono ?_
    rintro e w1 ⟨⟨tv, v, rfl⟩, hb⟩
    have b1 := bx_bl HB1.out hb (by omega)
    have b2 := bx_bl HB2.out hb (by omega)
    have HB := hide (HBA.out.trans (hb.mono (by omega)))
    have BB1 := hide b1
    have BB2 := hide b2
    clear hb b1 b2
    go_wp2
    refine leaves_cons (f := 29) (args := #[.pointer (some ⟨w.heap.size, 0, none⟩), .pointer (some ⟨w.heap.size + 1, 0, none⟩)]) (by simp) (by simp [go_sem]) ?_
    have g1 := BB1.out
    have g2 := BB2.out
    obtain ⟨q1, q2, q3, q4⟩ := bx_two (a := .slice none 0 0) (b := .bool false) g1 g2
    refine (catchR_panic ⟨w.heap.size, 0, none⟩ ⟨w.heap.size + 1, 0, none⟩ _ _ tv v [] w1 (bx_cell g1) (bx_frozen g1) (bx_cell q4) (bx_frozen q4)).mono ?_
    rintro e u9 w9 ⟨rfl, rfl, hw9⟩
    rw [← hw9] at q1 q2 q3
    clear hw9
    have d1 := bx_cell q1
    have d2 := bx_cell q2
    have HQ : Hid (RwX (rdW u) w (.returned (.tuple #[.slice none 0 0, .bool false])) w9) := hide (by rw [HE.out]; exact ⟨rfl, HB.out.trans (kp_below q3 HB.out.size (fun j hj => by omega))⟩)
    simp [Leaves, settle, results, Tryz.results15, go_sem, d1, d2]
    exact HQ.out
  · have HN := hide (rai_some hr HC.out)
    refine HN.out.mono ?_
    rintro e w1 ⟨rfl, h1, hb⟩
    have b1 := bx_bl HB1.out hb (by omega)
    have b2 := bx_bl HB2.out hb (by omega)
    have HB := hide (HBA.out.trans (hb.mono (by omega)))
    obtain ⟨h0, t1, tc1, ad, c, hx1, htx1, hxo, hxk⟩ := h1
    obtain ⟨r0, r1⟩ := xr_cells hx1
    have c1 := bx_cell b1
    have c2 := bx_cell b2
    have f1 := bx_frozen b1
    have f2 := bx_frozen b2
    have BB1 := hide b1
    have BB2 := hide b2
    have HXO := hide hxo
    clear hb b1 b2 hx1 htx1 hxo hxk HC HN
    cases u1 with
    | cons d r =>
      have HE := hide (rdW_more hr)
      have hl : (((d :: r).length : Int) == 0) = false := by simp only [List.length_cons, beq_eq_false_iff_ne, ne_eq]; omega
      clear hr
      go_wp2_with fail
      refine (i_wantN w1.heap.size _ _).mono ?_
      rintro e w2 ⟨⟨tv, v, rfl⟩, k2⟩
      have hs1 := HB.out.size
      have g1 := bx_bl BB1.out k2 (Array.getElem?_eq_some_iff.1 BB1.out).1
      have g2 := bx_bl BB2.out k2 (Array.getElem?_eq_some_iff.1 BB2.out).1
      have HB2 := hide (HB.out.trans (k2.mono hs1))
      obtain ⟨q1, q2, q3, q4⟩ := bx_two (a := .slice none 0 0) (b := .bool false) g1 g2
      have HQQ := hide (And.intro q1 (And.intro q2 (And.intro q3 q4)))
      have HG := hide (And.intro g1 g2)
      clear k2 c1 c2 f1 f2 r0 r1 g1 g2 q1 q2 q3 q4
      go_wp2
      refine leaves_cons (f := 29) (args := #[.pointer (some ⟨w.heap.size, 0, none⟩), .pointer (some ⟨w.heap.size + 1, 0, none⟩)]) (by simp) (by simp [go_sem]) ?_
      obtain ⟨q1, q2, q3, q4⟩ := HQQ.out
      obtain ⟨g1, g2⟩ := HG.out
      refine (catchR_panic ⟨w.heap.size, 0, none⟩ ⟨w.heap.size + 1, 0, none⟩ _ _ tv v [] w2 (bx_cell g1) (bx_frozen g1) (bx_cell q4) (bx_frozen q4)).mono ?_
      rintro e u9 w9 ⟨rfl, rfl, hw9⟩
      rw [← hw9] at q1 q2 q3
      clear hw9
      have d1 := bx_cell q1
      have d2 := bx_cell q2
      have HQ : Hid (RwX (rdW u) w (.returned (.tuple #[.slice none 0 0, .bool false])) w9) := hide (by rw [HE.out]; exact ⟨rfl, HB2.out.trans (kp_below q3 HB2.out.size (fun j hj => by omega))⟩)
      simp [Leaves, settle, results, Tryz.results15, go_sem, d1, d2]
      exact HQ.out
    | nil =>
      have HE := hide (rdW_some hr)
      clear hr
      go_wp2_with fail
      refine (i_wantY _ _).mono ?_
      rintro e w2 ⟨rfl, hw2⟩
      rw [hw2]
      clear hw2 w2
      go_wp2
      obtain ⟨q1, q2, q3, -⟩ := bx_two (a := .slice ad X1.length c) (b := .bool true) BB1.out BB2.out
      obtain ⟨wf, hwf⟩ : ∃ wf, (w1.setCell ⟨w.heap.size, 0, none⟩ (.slice ad X1.length c)).setCell ⟨w.heap.size + 1, 0, none⟩ (.bool true) = wf := ⟨_, rfl⟩
      rw [hwf] at q1 q2 q3
      rw [hwf]
      clear hwf
      have d1 := bx_cell q1
      have d2 := bx_cell q2
      have HQ : Hid (RwX (rdW u) w (.returned (.tuple #[.slice ad X1.length c, .bool true])) wf) := hide (by
        rw [HE.out]
        refine ⟨ad, c, rfl, xo_kp (xo_imp (xo_lower HXO.out (by omega)) (fun k _ hs => by have hs' : w.heap.size + 1 + 1 ≤ k := hs; omega)) q3 (fun j hj => ?_) (fun B' z n v ys j hv hj _ => ?_), HB.out.trans (kp_below q3 HB.out.size (fun j hj => by omega))⟩
        · obtain ⟨xs, hx, -⟩ := HXO.out
          rintro (e | e)
          · exact type_ne hx hj BB1.out (by decide) e
          · exact type_ne hx hj BB2.out (by decide) e
        · rintro (e | e)
          · exact type_ne hv hj BB1.out (by decide) e
          · exact type_ne hv hj BB2.out (by decide) e)
      refine leaves_cons (f := 29) (args := #[.pointer (some ⟨w.heap.size, 0, none⟩), .pointer (some ⟨w.heap.size + 1, 0, none⟩)]) (by simp) (by simp [go_sem]) ?_
      refine (catchR_idle ⟨w.heap.size, 0, none⟩ ⟨w.heap.size + 1, 0, none⟩ _).mono ?_
      rintro e u9 w9 ⟨rfl, rfl, rfl⟩
      simp [Leaves, settle, results, Tryz.results15, go_sem, d1, d2]
      exact HQ.out
end Go.Proofs.YtibagghpimadfaaGreatDoor
