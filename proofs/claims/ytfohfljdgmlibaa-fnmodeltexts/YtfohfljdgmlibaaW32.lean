/-
  Texts put together: TnW, TrE, RtO.
-/
import Derived.Test.YtfohfljdgmlibaaW31
import Derived.Test.YtfohfljdgmlibaaW8
import Derived.Test.YtfohfljdgmlibaaW22
import Derived.Deep.WholeRow
import Derived.Great.Walk
import Derived.Test.YtfohfljdgmlibaaW27
/-
  Contracts: Turned, by the specification and by the program.
-/
namespace Go.Proofs.Ytfohfljdgmlibaa
open Go.RowKit Go.Joins
set_option linter.unusedVariables false
set_option linter.unusedSimpArgs false
def emP : Pn := ⟨0, fun _ => 0, fun _ => ⟨#[]⟩, fun _ => [], fun _ => 0⟩
/-- A model turned round; nothing, where it is none. -/
def tuV (D : Pn) : Pn := if pkB D = true then tn D (D.n - 1) emP else emP
theorem tuV_no {D : Pn} (h : pkB D = false) : tuV D = emP := by unfold tuV; rw [h]; rfl
theorem tuV_yes {D : Pn} (h : pkB D = true) : tuV D = tn D (D.n - 1) emP := by unfold tuV; rw [h]; rfl
theorem tuV_n {D : Pn} {n : Nat} (hD : D.n = n) (hz : pnTot D ≤ 1048576) : (tuV D).n ≤ 40 := by
  cases h : pkB D
  · rw [tuV_no h]; exact Nat.zero_le _
  · have hRN := rn_of hD h hz
    have h1 := (pk_facts h).1
    have := (rn_tn hRN (i := D.n - 1) (by omega) emP).1
    rw [tuV_yes h]
    have e : emP.n = 0 := rfl
    omega
def TuA (D : Pn) (w : World) (r : Ending) (w' : World) : Prop := ∃ ad c, r = .returned (.tuple #[.slice ad (tuV D).n c, .bool (pkB D)]) ∧ PO w.heap.size (fun j => w.heap.size ≤ j) w' ad (tuV D).n c (tuV D) ∧ Below w.heap.size w w'
theorem tu_none {D : Pn} {w w' : World} (h : pkB D = false) (hb : Below w.heap.size w w') : TuA D w (.returned (.tuple #[.slice none 0 0, .bool false])) w' := by
  refine ⟨none, 0, ?_, ?_, hb⟩
  · rw [tuV_no h, h]; rfl
  · rw [tuV_no h]; exact po_nil _ _ _
theorem po_low9 {B B' : Nat} {S : Nat → Prop} {w : World} {ad : Option Addr} {m c : Nat} {D : Pn} (h : PO B S w ad m c D) (hB : B' ≤ B) : PO B' S w ad m c D := by
  obtain ⟨xs, h1, h2⟩ := h
  exact ⟨xs, gOwn_lower h1 hB, h2⟩
set_option maxHeartbeats 4000000 in
theorem s_turned (D : Pn) (n : Nat) (a : Option Addr) (cap : Nat) (w : World) (hD : D.n = n) (hz : pnTot D ≤ 1048576) (hr : PnAt w a D w.heap.size) :
    Calls Try.prog 19 #[.slice a n cap] w (TuA D w) := by
  have CD := hide (s_particle D n a cap w hD hz hr)
  cases hd : pkB D
  · have HD := hide hd
    rw [hd] at CD
    clear hr hD hz hd
    go_enter Try.func19, Try.ntmps19
    go_wp2_with (first | (go_at_call 26; refine CD.out.mono ?_; rintro e w1 ⟨rfl, hb1⟩; have HB := hide hb1; clear hb1))
    go_ret2
    exact tu_none HD.out HB.out
  · have HD := hide hd
    have hRN := rn_of hD hd hz
    have HV := hide (tuV_yes hd)
    have hVn := tuV_n hD hz
    obtain ⟨h1, -⟩ := pk_facts hd
    rw [hD] at h1
    rw [hd] at CD
    obtain ⟨b0, off, rfl, hbs, hrow⟩ := hr (by omega)
    have CT := hide (fun (W : World) (hW : Below w.heap.size w W) => s_turn D n b0 off cap hRN w.heap.size hbs (n - 1 + 1) (n - 1) (by omega) (by omega) (fun _ => False) none 0 0 emP W (pnRow_go hrow hbs hW) hW.size (po_nil _ _ _) (by rw [← hD, ← HV.out]; omega))
    rw [hD] at HV
    rw [← HV.out] at CT
    have hni : ((n - 1 : Nat) : Int) = (n : Int) - 1 := by omega
    rw [hni] at CT
    have hn1 : (1 : Int) ≤ (n : Int) := by omega
    have hn4 : (n : Int) ≤ 40 := by omega
    clear hr hD hz hd hrow hRN hni
    go_enter Try.func19, Try.ntmps19
    go_wp2_with fail
    refine CD.out.mono ?_
    rintro e w1 ⟨rfl, hb1⟩
    have HB := hide hb1
    clear hb1
    go_wp2_with fail
    refine (CT.out _ HB.out).mono ?_
    rintro e w2 ⟨ad2, c2, rfl, hpo, hk, -, -⟩
    have HPO := hide (po_imp (T := fun j => w.heap.size ≤ j) hpo (fun j _ hj => by rcases hj with hj | hj; exact hj.elim; have := HB.out.size; omega))
    have HB2 := hide (HB.out.trans (kp_below (B := w.heap.size) hk HB.out.size (fun j hj => by rcases hj with e | e; exact e.elim; cases e)))
    clear hpo hk
    go_wp2
    go_ret2
    exact ⟨ad2, c2, by rw [HD.out]; rfl, HPO.out, HB2.out⟩
set_option maxRecDepth 100000 in
set_option maxHeartbeats 4000000 in
theorem i_turned (D : Pn) (n : Nat) (a : Option Addr) (cap : Nat) (w : World) (hD : D.n = n) (hz : pnTot D ≤ 1048576) (hr : PnAt w a D w.heap.size) (hzk : ∀ b0 off, a = some ⟨b0, off, none⟩ → ∀ j, j < n → ∀ ad l cp, w.cell? ⟨b0, off + j * 4 + 2, none⟩ = some (.slice ad l cp) → ∀ x, ad = some x → x.spot = none) :
    Calls Try.prog 21 #[.slice a n cap] w (TuA D w) := by
  have CD := hide (fun (W : World) (h : PnAt W a D W.heap.size) => i_particle D n a cap W hD hz h)
  have HR := hide hr
  have HAX := hide (fun (o : Obj) => (Below.refl w.heap.size w).alloc (Nat.le_refl _) o)
  cases hd : pkB D
  · have HD := hide hd
    rw [hd] at CD
    clear hr hD hz hd
    go_enter Try.func21, Try.ntmps21
    go_wp2_with (first | (go_at_call 11; refine (CD.out _ (pnAt_up (pnAt_go HR.out (HAX.out _)) (HAX.out _).size)).mono ?_; rintro e w1 ⟨rfl, hb1⟩; have HB := hide (gBox_below hb1); clear hb1))
    go_ret2
    exact tu_none HD.out HB.out
  · have HD := hide hd
    have hRN := rn_of hD hd hz
    have HV := hide (tuV_yes hd)
    have hVn := tuV_n hD hz
    obtain ⟨h1, -⟩ := pk_facts hd
    rw [hD] at h1
    rw [hd] at CD
    obtain ⟨b0, off, rfl, hbs, hrow⟩ := hr (by omega)
    have HZK := hide (hzk b0 off rfl)
    have HROW := hide hrow
    clear hr hzk hrow hd
    go_enter Try.func21, Try.ntmps21
    go_wp2_with fail
    refine (CD.out _ (pnAt_up (pnAt_go HR.out (HAX.out _)) (HAX.out _).size)).mono ?_
    rintro e w1 ⟨rfl, hb1⟩
    have HP1 := hide (cellsAt_go (cellsAt_new w #[.slice (some ⟨b0, off, none⟩) n cap] 24) hb1 (by simp))
    have HB1 := hide (gBox_below hb1)
    have cp := cellsAt_cell HP1.out 0
    simp only [List.getElem?_toArray, List.getElem?_cons_zero] at cp
    have hlt1 : w.heap.size < w1.heap.size := cellsAt_lt HP1.out
    have hn1 : (1 : Int) ≤ (n : Int) := by omega
    have hn4 : (n : Int) ≤ 40 := by omega
    clear hb1
    have HTB : Hid (∀ (o : Obj), ((w1.alloc o).alloc (.cells #[.nilFunc] 67)).heap[w1.heap.size + 1]? = some (.cells #[.nilFunc] 67 (0, 0))) := hide (fun o => by have := heap_alloc_new (w1.alloc o) (.cells #[.nilFunc] 67); simpa using this)
    have HTS : Hid (∀ (o : Obj) (v : Value), ((w1.alloc o).alloc (.cells #[.nilFunc] 67)).setRow (w1.heap.size + 1) #[v] = (w1.alloc o).alloc (.cells #[v] 67)) := hide (fun o v => by have := World.setRow_alloc_new (w1.alloc o) #[.nilFunc] #[v] 67; simpa using this)
    have HS4 : Hid ((Try.prog.info? 67).map (·.size) = some 1) := hide (by kernel_rfl)
    have cp2 : ∀ o1 o2, ((w1.alloc o1).alloc o2).cell? ⟨w.heap.size, 0, none⟩ = some (.slice (some ⟨b0, off, none⟩) n cap) := fun o1 o2 => by
      have k9 : Below w1.heap.size w1 ((w1.alloc o1).alloc o2) := ((Below.refl _ _).alloc (Nat.le_refl _) _).alloc (by simp) _
      exact (k9.cell (p := ⟨w.heap.size, 0, none⟩) hlt1).trans cp
    have ct2 : ∀ o1 v, ((w1.alloc o1).alloc (.cells #[v] 67)).cell? ⟨w1.heap.size + 1, 0, none⟩ = some v := fun o1 v => by
      have h9 := heap_alloc_new (w1.alloc o1) (.cells #[v] 67)
      have e9 : (w1.alloc o1).heap.size = w1.heap.size + 1 := by simp
      rw [e9] at h9
      rw [cell_of_row _ _ 0 _ _ (0, 0) h9]; rfl
    go_wp2_with (first
      | (refine wpList_store_one rfl 67 _ _ rfl (w1.heap.size + 1) rfl rfl 67 .nilFunc (HTB.out _) HS4.out ?_; rw [HTS.out]))
    have HWW : Hid (TuW ((w1.alloc (.cells #[.slice none 0 0] 24)).alloc (.cells #[turnV w.heap.size (w1.heap.size + 1) w1.heap.size] 67)) D n b0 off cap w.heap.size (w1.heap.size + 1) w1.heap.size w.heap.size (w1.heap.size + 2)) := hide (by
      have k9 : Below w1.heap.size w1 ((w1.alloc (.cells #[.slice none 0 0] 24)).alloc (.cells #[turnV w.heap.size (w1.heap.size + 1) w1.heap.size] 67)) := ((Below.refl _ _).alloc (Nat.le_refl _) _).alloc (by simp) _
      have k8 := HB1.out.trans (k9.mono HB1.out.size)
      refine ⟨cellsAt_go HP1.out k9 hlt1, ?_, pnRow_go HROW.out hbs k8, fun j hj ad l cp hcell => ?_, hbs, Nat.le_of_lt hlt1, by omega, by omega, by omega, by omega, by omega, by simp⟩
      · have h9 := cellsAt_new (w1.alloc (.cells #[.slice none 0 0] 24)) #[turnV w.heap.size (w1.heap.size + 1) w1.heap.size] 67
        have e9 : (w1.alloc (.cells #[.slice none 0 0] 24)).heap.size = w1.heap.size + 1 := by simp
        rw [e9] at h9
        exact h9
      · rw [k8.cell (p := ⟨b0, off + j * 4 + 2, none⟩) hbs] at hcell
        exact HZK.out j hj ad l cp hcell)
    have HLB : Hid (LB ((w1.alloc (.cells #[.slice none 0 0] 24)).alloc (.cells #[turnV w.heap.size (w1.heap.size + 1) w1.heap.size] 67)) w1.heap.size none 0 0) := hide (by
      have k9 : Below (w1.alloc (.cells #[.slice none 0 0] 24)).heap.size (w1.alloc (.cells #[.slice none 0 0] 24)) ((w1.alloc (.cells #[.slice none 0 0] 24)).alloc (.cells #[turnV w.heap.size (w1.heap.size + 1) w1.heap.size] 67)) := (Below.refl _ _).alloc (Nat.le_refl _) _
      exact (k9.block w1.heap.size (by simp)).trans (heap_alloc_new w1 _))
    have HBW : Hid (Below w.heap.size w ((w1.alloc (.cells #[.slice none 0 0] 24)).alloc (.cells #[turnV w.heap.size (w1.heap.size + 1) w1.heap.size] 67))) := hide ((HB1.out.alloc HB1.out.size _).alloc (by have := HB1.out.size; simp; omega) _)
    have hsz : ((w1.alloc (.cells #[.slice none 0 0] 24)).alloc (.cells #[turnV w.heap.size (w1.heap.size + 1) w1.heap.size] 67)).heap.size = w1.heap.size + 2 := by simp
    unfold turnV at HWW HLB HBW hsz
    obtain ⟨wr, hwr⟩ : ∃ wr, ((w1.alloc (.cells #[.slice none 0 0] 24)).alloc (.cells #[.func (.func 41) #[] #[.pointer (some ⟨w.heap.size, 0, none⟩), .pointer (some ⟨w1.heap.size + 1, 0, none⟩), .pointer (some ⟨w1.heap.size, 0, none⟩)]] 67)) = wr := ⟨_, rfl⟩
    rw [hwr] at HWW HLB HBW hsz
    rw [hwr]
    clear hwr cp2 ct2 cp HTB HTS HS4
    have hni : (n : Int) - 1 = ((n - 1 : Nat) : Int) := by omega
    rw [hni]
    refine (i_turn D n b0 off cap w.heap.size (w1.heap.size + 1) w1.heap.size w.heap.size (w1.heap.size + 2) hRN (n - 1 + 1) (n - 1) (by omega) (by omega) (fun _ => False) none 0 0 emP wr HWW.out HLB.out (po_nil _ _ _) (by rw [← hD, ← HV.out]; omega)).mono ?_
    rintro e w2 ⟨ad2, c2, rfl, hL2, hpo, hk, -, -⟩
    have c9 := lb_cell hL2
    have hVe : tn D (n - 1) emP = tuV D := by rw [HV.out, hD]
    rw [hVe] at c9 hpo
    have HPO : Hid (PO w.heap.size (fun j => w.heap.size ≤ j) w2 ad2 (tuV D).n c2 (tuV D)) := hide (po_low9 (po_imp hpo (fun j _ hj => by rcases hj with hj | hj; exact hj.elim; omega)) (by omega))
    have HB2 := hide (HBW.out.trans (kp_below (B := w.heap.size) hk (by omega) (fun j hj => by rcases hj with e | e; have e9 : j = w1.heap.size := e; omega; cases e)))
    clear hL2 hpo hk hVe hni
    go_wp2
    go_ret2
    exact ⟨ad2, c2, by rw [HD.out]; rfl, HPO.out, HB2.out⟩
end Go.Proofs.Ytfohfljdgmlibaa

/-
  Plain facts on a right model turned round.
-/
namespace Go.Proofs.Ytfohfljdgmlibaa
set_option linter.unusedVariables false
set_option linter.unusedSimpArgs false
theorem lo_emP : LoN emP := fun j hj => absurd hj (Nat.not_lt_zero _)
theorem ext_emP (D : Pn) : Ext emP D := ⟨Nat.zero_le _, fun j hj => absurd hj (Nat.not_lt_zero _)⟩
theorem tuV_fl {D : Pn} (h : pkB D = true) : tuV D = fl (mir (tre D (D.n - 1))) emP := by
  have h1 := (pk_facts h).1
  rw [tuV_yes h, tn_fl D.n (D.n - 1) (by omega) (fun j hj => ((pk_lo h) j (by omega)).2)]
theorem pk_loN {D : Pn} (h : pkB D = true) : LoN D := fun j hj => ((pk_lo h) j hj).2
theorem tu_n {D : Pn} (h : pkB D = true) : (tuV D).n = D.n := by
  obtain ⟨h1, -, h3, -⟩ := pk_facts h
  have h2 := tn_n D.n (D.n - 1) 0 (by omega) (fun j hj => ((pk_lo h) j (by omega)).2) h3 (fun j hj => ((pk_lo h) j (by omega)).1) emP
  rw [tuV_yes h, h2]
  show 0 + _ = _
  omega
theorem tu_lo {D : Pn} (h : pkB D = true) : LoN (tuV D) := by rw [tuV_fl h]; exact lo_fl _ _ lo_emP
theorem tu_tre {D : Pn} (h : pkB D = true) : tre (tuV D) ((tuV D).n - 1) = mir (tre D (D.n - 1)) := by
  have h1 := tu_lo h
  rw [tuV_fl h] at h1 ⊢
  exact fl_tre _ emP _ (Ext.refl _) h1
theorem tu_pk {D : Pn} (h : pkB D = true) : pkB (tuV D) = true := by
  obtain ⟨h1, h2, h3, h4, h5⟩ := pk_facts h
  have hn := tu_n h
  have hlo := tu_lo h
  have hl1 : Lo D (D.n - 1) := (pk_loN h).lo (by omega)
  have hl2 : Lo (tuV D) ((tuV D).n - 1) := hlo.lo (by omega)
  have ht := tu_tre h
  rw [pk_all (by omega)]
  · have e1 : tr (tuV D) ((tuV D).n - 1) = some 0 := by
      rw [tuV_fl h]
      exact fl_tr _ emP _ (Ext.refl _)
    have e2 : groupB (tuV D) ((tuV D).n - 1) = true := by
      rw [tre_eq hl2, mir_tre hl1] at ht
      injection ht with ha
      unfold groupB at h4 ⊢
      rw [ha]
      exact h4
    have e3 : dq (tuV D) ((tuV D).n - 1) ≤ 10 := by
      rw [dq_tre _ _ (Nat.lt_succ_self _) hl2, ht, dT_mir, ← dq_tre _ _ (Nat.lt_succ_self _) hl1]
      exact h5
    rw [e1, e2, decide_eq_true e3]
    rfl
  · intro j hj
    have hok := ok_mir _ (tre_ok _ _ (Nat.lt_succ_self _) hl1 (fun j hj => h2 j (by omega)))
    rw [tuV_fl h] at hj ⊢
    exact fl_ok _ emP _ hok (Ext.refl _) j (Nat.zero_le _) hj
/-- Turned twice it is as it was. -/
theorem tu_back {D : Pn} (h : pkB D = true) : (tuV (tuV D)).n = D.n ∧ Ext (tuV (tuV D)) D := by
  obtain ⟨h1, h2, h3, h4, h5⟩ := pk_facts h
  rw [tuV_fl (tu_pk h), tu_tre h, mir_mir]
  obtain ⟨h6, h7⟩ := fl_back D.n (D.n - 1) 0 (by omega) (by omega) (pk_loN h) h3 emP rfl (ext_emP D)
  exact ⟨by rw [h7]; omega, h6⟩
end Go.Proofs.Ytfohfljdgmlibaa

/-
  Plain facts: the text of a right model is read as that model, and a right model that was read has that text.
-/
namespace Go.Proofs.Ytfohfljdgmlibaa
set_option linter.unusedVariables false
set_option linter.unusedSimpArgs false
theorem txTs_map : ∀ ts : List Tr, txTs ts = ts.map txT
  | [] => by rw [txTs]; rfl
  | t :: ts => by rw [txTs, txTs_map ts]; rfl
theorem mt_tre {D : Pn} : ∀ (m i : Nat), i < m → Lo D i → mt D i = txT (tre D i)
  | 0, i, hm, hl => by omega
  | m + 1, i, hm, hl => by
    rw [mt_eq hl, tre_eq hl, txT, txTs_map, List.map_map]
    congr 2
    refine List.map_congr_left fun k hk => ?_
    have := hl i (Nat.le_refl _) k hk
    exact mt_tre m k.toNat (by omega) (lo_less hl (by omega))
/-- A tree's rows are a right model. -/
theorem pk_fl {t : Tr} (h1 : okT t) (h2 : (fl t emP).n ≤ 40) (h3 : dT t ≤ 10) (h4 : groupB (fl t emP) ((fl t emP).n - 1) = true) : pkB (fl t emP) = true := by
  have hn := (ext_fl t emP).2
  have e0 : emP.n = 0 := rfl
  have hlo := lo_fl t emP lo_emP
  have hl2 : Lo (fl t emP) ((fl t emP).n - 1) := hlo.lo (by omega)
  rw [pk_all (by omega) (fun j hj => fl_ok t emP _ h1 (Ext.refl _) j (Nat.zero_le _) hj)]
  have e1 : tr (fl t emP) ((fl t emP).n - 1) = some 0 := fl_tr t emP _ (Ext.refl _)
  have e3 : dq (fl t emP) ((fl t emP).n - 1) ≤ 10 := by
    rw [dq_tre _ _ (Nat.lt_succ_self _) hl2, fl_tre t emP _ (Ext.refl _) hlo]
    exact h3
  rw [e1, h4, decide_eq_true e3]
  rfl
/-- What a right model's rows tell of its tree. -/
theorem fl_pk {t : Tr} (h : pkB (fl t emP) = true) : okT t ∧ (fl t emP).n ≤ 40 ∧ dT t ≤ 10 := by
  obtain ⟨h1, h2, h3, h4, h5⟩ := pk_facts h
  have hlo := lo_fl t emP lo_emP
  have hl2 : Lo (fl t emP) ((fl t emP).n - 1) := hlo.lo (by omega)
  have ht := fl_tre t emP _ (Ext.refl _) hlo
  refine ⟨?_, h1.2, ?_⟩
  · have := tre_ok _ _ (Nat.lt_succ_self _) hl2 (fun j hj => h2 j (by omega))
    rw [ht] at this
    exact this
  · rw [dq_tre _ _ (Nat.lt_succ_self _) hl2, ht] at h5
    exact h5
/-- The text of a right model is read as that model. -/
theorem rm_text {D : Pn} (h : pkB D = true) : rdP (tre D (D.n - 1)) (mt D (D.n - 1)) [] ∧ Ext (fl (tre D (D.n - 1)) emP) D ∧ (fl (tre D (D.n - 1)) emP).n = D.n ∧ pkB (fl (tre D (D.n - 1)) emP) = true := by
  obtain ⟨h1, h2, h3, h4, h5⟩ := pk_facts h
  have hl1 : Lo D (D.n - 1) := (pk_loN h).lo (by omega)
  have hok := tre_ok _ _ (Nat.lt_succ_self _) hl1 (fun j hj => h2 j (by omega))
  obtain ⟨h6, h7⟩ := fl_back D.n (D.n - 1) 0 (by omega) (by omega) (pk_loN h) h3 emP rfl (ext_emP D)
  have hn : (fl (tre D (D.n - 1)) emP).n = D.n := by rw [h7]; omega
  refine ⟨?_, h6, hn, pk_fl hok (by omega) ?_ ?_⟩
  · have := rd_tx (tre D (D.n - 1)) [] hok stop_nil
    rw [List.append_nil, ← mt_tre _ _ (Nat.lt_succ_self _) hl1] at this
    exact this
  · rw [← dq_tre _ _ (Nat.lt_succ_self _) hl1]; exact h5
  · unfold groupB at h4 ⊢
    rw [hn, ← (h6.2 (D.n - 1) (by omega)).1]
    exact h4
/-- A right model that was read has the text that it was read from. -/
theorem rm_back {t : Tr} {u : List UInt8} (h : rdP t u []) (hp : pkB (fl t emP) = true) : mt (fl t emP) ((fl t emP).n - 1) = u := by
  have hlo := lo_fl t emP lo_emP
  have h1 := (pk_facts hp).1
  rw [mt_tre _ _ (Nat.lt_succ_self _) (hlo.lo (by omega)), fl_tre t emP _ (Ext.refl _) hlo, tx_rd t u [] h, List.append_nil]
end Go.Proofs.Ytfohfljdgmlibaa
