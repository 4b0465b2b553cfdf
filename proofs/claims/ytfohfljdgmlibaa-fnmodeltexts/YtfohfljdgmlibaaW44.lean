/-
  Texts put together: RjR, RjM.
-/
import Derived.Test.YtfohfljdgmlibaaW43
import Derived.Defers
import Derived.Recover
import Derived.Test.YtfohfljdgmlibaaW22
/-
  Contract of the program's reader of models: the whole text, where it gives up with a panic that is recovered.
-/
namespace Go.Proofs.Ytfohfljdgmlibaa
open Go.RowKit Go.Joins
set_option linter.unusedVariables false
set_option linter.unusedSimpArgs false
theorem i_part (R B : Nat) : ∀ (n dd : Nat), dd + n = 10 → ∀ (u : ByteArray) (m : Nat) (ad : Option Addr) (c : Nat) (D : Pn) (S : Nat → Prop) (w : World), u.size ≤ 1048576 → m ≤ 49 → B ≤ w.heap.size → MR w R u ad m c → POZ 1048576 B S w ad m c D →
    Calls Try.prog 49 #[.pointer (some ⟨R, 0, none⟩), .int .i64 (dd : Int)] w (RpAns R B u (.slice ad m c) S D dd w)
  | 0, dd, h, u, m, ad, c, D, S, w, hu, hm, hB, h1, h2 => by
    obtain rfl : dd = 10 := by omega
    exact i_partT R B u m ad c D S w h1
  | n + 1, dd, h, u, m, ad, c, D, S, w, hu, hm, hB, h1, h2 =>
    i_partF R B dd u m ad c D S w hu (by omega) hm hB h1 h2 (fun u' m' ad' c' D' S' w' hu' hm' hB' h1' h2' =>
      i_kidsF R B dd u' m' ad' c' D' S' w' hu' (by omega) hm' hB' h1' h2' (fun u9 m9 ad9 c9 D9 S9 w9 a1 a2 a3 a4 a5 => by
        have h9 := i_part R B n (dd + 1) (by omega) u9 m9 ad9 c9 D9 S9 w9 a1 a2 a3 a4 a5
        rw [show ((dd + 1 : Nat) : Int) = (dd : Int) + 1 by omega] at h9
        exact h9))
theorem catchR_panic (p q : Addr) (x y : Value) (t : TypeId) (pv : Value) (older : List PanicEntry) (w : World) (hc : w.cell? p = some x) (hz : w.frozen? p = false) (hd : (w.setCell p (.slice none 0 0)).cell? q = some y) (hy : (w.setCell p (.slice none 0 0)).frozen? q = false) :
    CallsD Try.prog 48 #[.pointer (some p), .pointer (some q)] (.panicking ({ v := .iface t pv, recovered := false } :: older)) w fun e u' w' =>
      e = .returned (.tuple #[]) ∧ u' = .panicking ({ v := .iface t pv, recovered := true } :: older) ∧ w' = (w.setCell p (.slice none 0 0)).setCell q (.bool false) := by
  refine callsD_of_wpS Try.func48 rfl fun c₀ cs hu => ?_
  apply wpS_seq
  apply wpS_region
  simp [wpOpsS, go_sem, recoverD, hu, Try.ntmps48, Exit.thenS]
  refine wpS_cond (t := true) (by simp [Act.eval, Array.replicate]) ?_
  simp only [if_true]
  apply wpS_region
  simp [wpOpsS, go_sem, hc, hz, hd, hy, bodyPostS, results, Try.results48]
theorem catchR_idle (p q : Addr) (w : World) :
    CallsD Try.prog 48 #[.pointer (some p), .pointer (some q)] .returning w fun e u' w' => e = .returned (.tuple #[]) ∧ u' = .returning ∧ w' = w := by
  refine callsD_of_wpS Try.func48 rfl fun c₀ cs hu => ?_
  apply wpS_seq
  apply wpS_region
  simp [wpOpsS, go_sem, recoverD, hu, Try.ntmps48, Exit.thenS]
  refine wpS_cond (t := false) (by simp [Act.eval, Array.replicate]) ?_
  simp only [Bool.false_eq_true, if_false]
  refine wpS_of_wp (wp_skip ?_)
  cases c₀
  simp_all [bodyPostS, results, Try.results48]
/-- No right model stands there. -/
def NoR (s : ByteArray) : Prop := ∀ t, rdP t s.data.toList [] → pkB (fl t emP) = false
theorem noR_T {s : ByteArray} (h : NoT s.data.toList emP 0) : NoR s := fun t ht => by
  cases hp : pkB (fl t emP)
  · rfl
  · obtain ⟨h1, h2, h3⟩ := fl_pk hp
    exact (h t [] ht h1 h2 (by omega)).elim
theorem noR_rest {s u : ByteArray} {t : Tr} (h : rdP t s.data.toList u.data.toList) (hu : u.data.toList ≠ []) : NoR s := fun t' ht => absurd (rd_one t t' _ _ _ h ht).2 hu
/-- What the whole text gives. -/
def RwAns (s : ByteArray) (w : World) (e : Ending) (w' : World) : Prop :=
  (∃ t ad m c, rdP t s.data.toList [] ∧ e = .returned (.tuple #[.slice ad m c, .bool true]) ∧ POZ 1048576 w.heap.size (fun j => w.heap.size ≤ j) w' ad m c (fl t emP) ∧ (m = (fl t emP).n ∧ m ≤ 49) ∧ Below w.heap.size w w') ∨
  (NoR s ∧ e = .returned (.tuple #[.slice none 0 0, .bool false]) ∧ Below w.heap.size w w')
/-- A box of one cell. -/
def BX (w : World) (L : Nat) (v : Value) (t : TypeId) : Prop := w.heap[L]? = some (.cells #[v] t (0, 0))
section
variable {w w' : World} {L : Nat} {v : Value} {t : TypeId}
theorem bx_cell (h : BX w L v t) : w.cell? ⟨L, 0, none⟩ = some v := by
  rw [cell_of_row w L 0 _ _ (0, 0) h]; rfl
theorem bx_frozen (h : BX w L v t) : w.frozen? ⟨L, 0, none⟩ = false := frozen_of_row w L 0 _ _ h
theorem bx_set (h : BX w L v t) (v' : Value) : BX (w.setCell ⟨L, 0, none⟩ v') L v' t := heap_setCell_same w L 0 _ _ v' h
theorem bx_kp {S : Nat → Prop} (h : BX w L v t) (k : Kp S w w') (hS : ¬ S L) : BX w' L v t := (k.block L (Array.getElem?_eq_some_iff.1 h).1 hS).trans h
end
/-- The two boxes are set: the answer. -/
theorem bx_two {w : World} {L : Nat} {v1 v2 a b : Value} {t1 t2 : TypeId} (h1 : BX w L v1 t1) (h2 : BX w (L + 1) v2 t2) : BX ((w.setCell ⟨L, 0, none⟩ a).setCell ⟨L + 1, 0, none⟩ b) L a t1 ∧ BX ((w.setCell ⟨L, 0, none⟩ a).setCell ⟨L + 1, 0, none⟩ b) (L + 1) b t2 ∧ Kp (fun j => j = L ∨ j = L + 1) w ((w.setCell ⟨L, 0, none⟩ a).setCell ⟨L + 1, 0, none⟩ b) ∧ BX (w.setCell ⟨L, 0, none⟩ a) (L + 1) v2 t2 := by
  have a1 := bx_set h1 a
  have k1 : Kp (fun j => j = L) w (w.setCell ⟨L, 0, none⟩ a) := kp_set (S := fun j => j = L) _ _ _ rfl
  have a2 := bx_kp h2 k1 (by omega)
  have k2 : Kp (fun j => j = L + 1) (w.setCell ⟨L, 0, none⟩ a) ((w.setCell ⟨L, 0, none⟩ a).setCell ⟨L + 1, 0, none⟩ b) := kp_set (S := fun j => j = L + 1) _ _ _ rfl
  exact ⟨bx_kp a1 k2 (by omega), bx_set a2 b, ((Kp.refl (fun j => j = L ∨ j = L + 1) w).trans k1 (fun j _ hj => .inl hj)).trans k2 (fun j _ hj => .inr hj), a2⟩
theorem ba_empty {u : ByteArray} : u.toList.isEmpty = true ↔ u.data.toList = [] := by
  rw [ByteArray.toList_eq, List.isEmpty_iff]
set_option maxRecDepth 100000 in
set_option maxHeartbeats 4000000 in
theorem i_parts (s : ByteArray) (w : World) (hs : s.size ≤ 1048576) : Calls Try.prog 25 #[.string s] w (RwAns s w) := by
  have hmf : ∀ (fn : Fn) (first cap : Array Value) (w : World), (Instr.makeFunc fn first cap).run Try.prog w = .ok (.func fn first cap) w := fun _ _ _ _ => rfl
  have hwaD : ∃ wa, wa = (((w.alloc (.cells #[.slice none 0 0] 24)).alloc (.cells #[.bool false] 4)).alloc (.cells #[.string s, .slice none 0 0] 78)) := ⟨_, rfl⟩
  obtain ⟨wa, hwa⟩ := hwaD
  have hsz : wa.heap.size = w.heap.size + 3 := by rw [hwa]; simp
  have HA : Hid (MR wa (w.heap.size + 1 + 1) s none 0 0) := hide (by
    rw [hwa]
    have := heap_alloc_new ((w.alloc (.cells #[.slice none 0 0] 24)).alloc (.cells #[.bool false] 4)) (.cells #[.string s, .slice none 0 0] 78)
    rw [show ((w.alloc (.cells #[.slice none 0 0] 24)).alloc (.cells #[.bool false] 4)).heap.size = w.heap.size + 1 + 1 by simp] at this
    exact this)
  have HB1 : Hid (BX wa w.heap.size (.slice none 0 0) 24) := hide (by
    rw [hwa]
    exact bx_kp (bx_kp (w := w.alloc _) (heap_alloc_new w _) (kp_alloc (S := fun _ => False) _ _) (fun x => x)) (kp_alloc (S := fun _ => False) _ _) (fun x => x))
  have HB2 : Hid (BX wa (w.heap.size + 1) (.bool false) 4) := hide (by
    rw [hwa]
    have := heap_alloc_new (w.alloc (.cells #[.slice none 0 0] 24)) (.cells #[.bool false] 4)
    rw [show (w.alloc (.cells #[.slice none 0 0] 24)).heap.size = w.heap.size + 1 by simp] at this
    exact bx_kp this (kp_alloc (S := fun _ => False) _ _) (fun x => x))
  have HKA : Hid (Kp (fun _ => False) w wa) := hide (by
    rw [hwa]
    exact ((kp_alloc w _).trans (kp_alloc (S := fun _ => False) _ _) (fun _ _ x => x)).trans (kp_alloc (S := fun _ => False) _ _) (fun _ _ x => x))
  go_enter_defers Try.func25, Try.ntmps25
  go_wp2_with fail
  rw [← hwa]
  clear hwa
  refine (i_part (w.heap.size + 1 + 1) w.heap.size 10 0 rfl s 0 none 0 emP (fun _ => False) wa hs (by omega) (by omega) HA.out (po_nil _ _ _)).mono ?_
  rintro e w1 (⟨t, u, ad, m, c, rfl, h1, hrd, hu, hm, hpo, hk, hnew⟩ | ⟨⟨⟨tv, v, rfl⟩, hk⟩, hno⟩)
  · have b1 := bx_kp HB1.out hk (by rintro (e | e); omega; cases e)
    have b2 := bx_kp HB2.out hk (by rintro (e | e); omega; cases e)
    have H1 := hide h1
    have HRD := hide hrd
    have HP := hide (po_imp (T := fun j => w.heap.size ≤ j) hpo (fun j _ hj => by rcases hj with hj | hj; exact hj.elim; omega))
    have HK := hide (kp_below (B := w.heap.size) (HKA.out.trans hk (fun j h9 hj => by rcases hj with e | e; omega; cases e)) (Nat.le_refl _) (fun j hj => hj.elim))
    have HKK := hide (HKA.out.trans hk (fun j h9 hj => by rcases hj with e | e; omega; cases e))
    have HM := hide hm
    obtain ⟨r0, r1⟩ := mr_cells h1
    have c1 := bx_cell b1
    have c2 := bx_cell b2
    have f1 := bx_frozen b1
    have f2 := bx_frozen b2
    have BB1 := hide b1
    have BB2 := hide b2
    clear h1 hrd hpo hk hnew hm b1 b2
    cases he : u.toList.isEmpty
    · have HE : Hid (NoR s) := hide (noR_rest HRD.out (fun e => by rw [ba_empty.2 e] at he; cases he))
      go_wp2_with fail
      refine (i_want_no _ (fun _ => False) _).mono ?_
      rintro e w2 ⟨⟨tv, v, rfl⟩, k2⟩
      have K2 := hide k2
      clear k2 c1 c2 f1 f2 r0 r1
      go_wp2
      refine leaves_cons (f := 48) (args := #[.pointer (some ⟨w.heap.size, 0, none⟩), .pointer (some ⟨w.heap.size + 1, 0, none⟩)]) (by simp) (by simp [go_sem]) ?_
      have g1 := bx_kp BB1.out K2.out (fun x => x)
      have g2 := bx_kp BB2.out K2.out (fun x => x)
      obtain ⟨q1, q2, q3, q4⟩ := bx_two (a := .slice none 0 0) (b := .bool false) g1 g2
      refine (catchR_panic ⟨w.heap.size, 0, none⟩ ⟨w.heap.size + 1, 0, none⟩ _ _ tv v [] w2 (bx_cell g1) (bx_frozen g1) (bx_cell q4) (bx_frozen q4)).mono ?_
      rintro e u9 w9 ⟨rfl, rfl, hw9⟩
      rw [← hw9] at q1 q2 q3
      clear hw9
      have d1 := bx_cell q1
      have d2 := bx_cell q2
      have HQ : Hid (RwAns s w (.returned (.tuple #[.slice none 0 0, .bool false])) w9) := hide (.inr ⟨HE.out, rfl, kp_below (S := fun j => j = w.heap.size ∨ j = w.heap.size + 1) (((Kp.refl (fun j => j = w.heap.size ∨ j = w.heap.size + 1) w).trans (HKK.out.trans K2.out (fun _ _ hj => hj.elim)) (fun _ _ hj => hj.elim)).trans q3 (fun _ _ hj => hj)) (Nat.le_refl _) (fun j hj => by omega)⟩)
      simp [Leaves, settle, results, Try.results25, go_sem, d1, d2]
      exact HQ.out
    · have HE : Hid (u.data.toList = []) := hide (ba_empty.1 he)
      go_wp2_with fail
      refine (i_want_yes _ _).mono ?_
      rintro e w2 ⟨rfl, hw2⟩
      rw [hw2]
      clear hw2 w2
      go_wp2
      obtain ⟨q1, q2, q3, -⟩ := bx_two (a := .slice ad m c) (b := .bool true) BB1.out BB2.out
      obtain ⟨wf, hwf⟩ : ∃ wf, (w1.setCell ⟨w.heap.size, 0, none⟩ (.slice ad m c)).setCell ⟨w.heap.size + 1, 0, none⟩ (.bool true) = wf := ⟨_, rfl⟩
      rw [hwf] at q1 q2 q3
      rw [hwf]
      clear hwf
      have d1 := bx_cell q1
      have d2 := bx_cell q2
      have HQ : Hid (RwAns s w (.returned (.tuple #[.slice ad m c, .bool true])) wf) := hide (.inl ⟨t, ad, m, c, by rw [← HE.out]; exact HRD.out, rfl, po_kp HP.out q3 (fun j hj => by obtain ⟨xs, hx, -⟩ := HP.out; rintro (e | e); exact type_ne hx hj BB1.out (by decide) e; exact type_ne hx hj BB2.out (by decide) e) (fun B' z n v ys j hv hj _ => by rintro (e | e); exact type_ne hv hj BB1.out (by decide) e; exact type_ne hv hj BB2.out (by decide) e), ⟨HM.out.1, by have := HM.out.2; omega⟩, HK.out.trans (kp_below (B := w.heap.size) q3 HK.out.size (fun j hj => by omega))⟩)
      refine leaves_cons (f := 48) (args := #[.pointer (some ⟨w.heap.size, 0, none⟩), .pointer (some ⟨w.heap.size + 1, 0, none⟩)]) (by simp) (by simp [go_sem]) ?_
      refine (catchR_idle ⟨w.heap.size, 0, none⟩ ⟨w.heap.size + 1, 0, none⟩ _).mono ?_
      rintro e u9 w9 ⟨rfl, rfl, rfl⟩
      simp [Leaves, settle, results, Try.results25, go_sem, d1, d2]
      exact HQ.out
  · have HK := hide (HKA.out.trans hk (fun j h9 hj => by rcases hj with e | e; omega; cases e))
    have HE := hide (noR_T hno)
    have b1 := bx_kp HB1.out hk (by rintro (e | e); omega; cases e)
    have b2 := bx_kp HB2.out hk (by rintro (e | e); omega; cases e)
    have BB1 := hide b1
    have BB2 := hide b2
    clear hk hno b1 b2
    go_wp2
    refine leaves_cons (f := 48) (args := #[.pointer (some ⟨w.heap.size, 0, none⟩), .pointer (some ⟨w.heap.size + 1, 0, none⟩)]) (by simp) (by simp [go_sem]) ?_
    have g1 := BB1.out
    have g2 := BB2.out
    obtain ⟨q1, q2, q3, q4⟩ := bx_two (a := .slice none 0 0) (b := .bool false) g1 g2
    refine (catchR_panic ⟨w.heap.size, 0, none⟩ ⟨w.heap.size + 1, 0, none⟩ _ _ tv v [] w1 (bx_cell g1) (bx_frozen g1) (bx_cell q4) (bx_frozen q4)).mono ?_
    rintro e u9 w9 ⟨rfl, rfl, hw9⟩
    rw [← hw9] at q1 q2 q3
    clear hw9
    have d1 := bx_cell q1
    have d2 := bx_cell q2
    have HQ : Hid (RwAns s w (.returned (.tuple #[.slice none 0 0, .bool false])) w9) := hide (.inr ⟨HE.out, rfl, kp_below (S := fun j => j = w.heap.size ∨ j = w.heap.size + 1) (((Kp.refl (fun j => j = w.heap.size ∨ j = w.heap.size + 1) w).trans HK.out (fun _ _ hj => hj.elim)).trans q3 (fun _ _ hj => hj)) (Nat.le_refl _) (fun j hj => by omega)⟩)
    simp [Leaves, settle, results, Try.results25, go_sem, d1, d2]
    exact HQ.out
end Go.Proofs.Ytfohfljdgmlibaa

/-
  Contract: what the program reads as a model: just what stands there, or nothing.
-/
namespace Go.Proofs.Ytfohfljdgmlibaa
open Go.RowKit Go.Joins
set_option linter.unusedVariables false
set_option linter.unusedSimpArgs false
theorem pk_names {D : Pn} (h : pkB D = true) : ∀ j, j < D.n → (D.NM j).size ≤ 40 := by
  obtain ⟨h1, h2, -⟩ := pk_facts h
  intro j hj
  rcases ndB_kind (h2 j hj) with ⟨-, h3, -⟩ | ⟨-, h3, -⟩ | ⟨-, h3⟩ | ⟨-, h3, -⟩
  · have := name_size h3
    simpa using this
  all_goals
    rw [h3]
    show 0 ≤ 40
    omega
/-- What is read as a model. -/
def MdAns (s : ByteArray) (w : World) (e : Ending) (w' : World) : Prop :=
  (∃ t ad m c, rdP t s.data.toList [] ∧ pkB (fl t emP) = true ∧ e = .returned (.tuple #[.slice ad m c, .bool true]) ∧ PO w.heap.size (fun j => w.heap.size ≤ j) w' ad m c (fl t emP) ∧ m = (fl t emP).n ∧ Below w.heap.size w w') ∨
  (NoR s ∧ e = .returned (.tuple #[.slice none 0 0, .bool false]) ∧ Below w.heap.size w w')
theorem noR_one {s : ByteArray} {t : Tr} (h : rdP t s.data.toList []) (hp : pkB (fl t emP) = false) : NoR s := fun t' ht => by
  obtain ⟨rfl, -⟩ := rd_one t t' _ _ _ h ht
  exact hp
set_option maxHeartbeats 4000000 in
theorem i_model (s : ByteArray) (w : World) (hs : s.size ≤ 1048576) : Calls Try.prog 9 #[.string s] w (MdAns s w) := by
  go_enter Try.func9, Try.ntmps9
  go_wp2_with fail
  refine (i_parts s w hs).mono ?_
  rintro e w1 (⟨t, ad, m, c, hrd, rfl, hpo, hm, hb⟩ | ⟨hno, rfl, hb⟩)
  · have HRD := hide hrd
    have HP := hide hpo
    have HM := hide hm
    have HB := hide hb
    have CP := hide (i_particle9 (fl t emP) m ad c w1 hm.1.symm ⟨by have := hm.1; have := hm.2; omega, fun j hj => by have h9 := po_sizes hpo j (by have := hm.1; omega); exact ⟨h9.1, by omega⟩⟩ (po_at hpo).2)
    clear hrd hpo hm hb
    cases hpk : pkB (fl t emP)
    · rw [hpk] at CP
      go_wp2_with (first | (go_at_call 11; refine CP.out.mono ?_; rintro e w3 ⟨rfl, hb3⟩; have HB3 := hide (HB.out.trans (hb3.mono HB.out.size)); clear hb3))
      go_ret2
      exact .inr ⟨noR_one HRD.out hpk, rfl, HB3.out⟩
    · rw [hpk] at CP
      have HPK := hide hpk
      have HN := hide (pk_names hpk)
      clear hpk
      go_wp2_with (first | (go_at_call 11; refine CP.out.mono ?_; rintro e w3 ⟨rfl, hb3⟩; have HB3 := hide (HB.out.trans (hb3.mono HB.out.size)); have HP3 := hide (po_kp (T := fun _ => False) HP.out ⟨hb3.os, hb3.tape, hb3.output, hb3.size, fun k hk _ => hb3.block k hk⟩ (fun _ _ x => x) (fun _ _ _ _ _ _ _ _ _ x => x)); clear hb3))
      go_ret2
      exact .inl ⟨t, ad, m, c, HRD.out, HPK.out, rfl, po_small HP3.out (fun j hj => by have := HN.out j (by have := HM.out.1; omega); omega), HM.out.1, HB3.out⟩
  · have HN := hide hno
    have HB := hide hb
    clear hno hb
    go_wp2
    go_ret2
    exact .inr ⟨HN.out, rfl, HB.out⟩
end Go.Proofs.Ytfohfljdgmlibaa
