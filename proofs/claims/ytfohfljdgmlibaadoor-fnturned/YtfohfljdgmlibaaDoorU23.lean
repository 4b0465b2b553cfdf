/-
  Texts put together: TnW, TrE, PnEq, RmI.
-/
import Derived.Test.YtfohfljdgmlibaaDoorU22
import Derived.Test.YtfohfljdgmlibaaDoorU5
import Derived.Test.YtfohfljdgmlibaaDoorU11
import Derived.Deep.WholeRow
import Derived.Great.Walk
import Derived.Test.YtfohfljdgmlibaaDoorU19
import Derived.Test.YtfohfljdgmlibaaDoorU2
import Derived.Test.YtfohfljdgmlibaaDoorU17
/-
  Contracts: Turned, by the specification and by the program.
-/
namespace Go.Proofs.YtfohfljdgmlibaaDoor
open Go.RowKit Go.Joins
set_option linter.unusedVariables false
set_option linter.unusedSimpArgs false
def emP : Pn := ⟨0, fun _ => 0, fun _ => ⟨#[]⟩, fun _ => [], fun _ => 0⟩
/-- A model turned round; nothing, where it is none. -/
def tuV (D : Pn) : Pn := if pkB D = true then tn D (D.n - 1) emP else emP
theorem tuV_no {D : Pn} (h : pkB D = false) : tuV D = emP := by unfold tuV; rw [h]; rfl
theorem tuV_yes {D : Pn} (h : pkB D = true) : tuV D = tn D (D.n - 1) emP := by unfold tuV; rw [h]; rfl
theorem tuV_n {D : Pn} {n : Nat} (hD : D.n = n) (hz : pnTot D ≤ 1048576) : (tuV D).n ≤ 40 := by
  cases h : pkB D
  · rw [tuV_no h]; exact Nat.zero_le _
  · have hRN := rn_of hD h hz
    have h1 := (pk_facts h).1
    have := (rn_tn hRN (i := D.n - 1) (by omega) emP).1
    rw [tuV_yes h]
    have e : emP.n = 0 := rfl
    omega
def TuA (D : Pn) (w : World) (r : Ending) (w' : World) : Prop := ∃ ad c, r = .returned (.tuple #[.slice ad (tuV D).n c, .bool (pkB D)]) ∧ PO w.heap.size (fun j => w.heap.size ≤ j) w' ad (tuV D).n c (tuV D) ∧ Below w.heap.size w w'
theorem tu_none {D : Pn} {w w' : World} (h : pkB D = false) (hb : Below w.heap.size w w') : TuA D w (.returned (.tuple #[.slice none 0 0, .bool false])) w' := by
  refine ⟨none, 0, ?_, ?_, hb⟩
  · rw [tuV_no h, h]; rfl
  · rw [tuV_no h]; exact po_nil _ _ _
theorem po_low9 {B B' : Nat} {S : Nat → Prop} {w : World} {ad : Option Addr} {m c : Nat} {D : Pn} (h : PO B S w ad m c D) (hB : B' ≤ B) : PO B' S w ad m c D := by
  obtain ⟨xs, h1, h2⟩ := h
  exact ⟨xs, gOwn_lower h1 hB, h2⟩
set_option maxHeartbeats 4000000 in
theorem s_turned (D : Pn) (n : Nat) (a : Option Addr) (cap : Nat) (w : World) (hD : D.n = n) (hz : pnTot D ≤ 1048576) (hr : PnAt w a D w.heap.size) :
    Calls Tryd.prog 29 #[.slice a n cap] w (TuA D w) := by
  have CD := hide (s_particle D n a cap w hD hz hr)
  cases hd : pkB D
  · have HD := hide hd
    rw [hd] at CD
    clear hr hD hz hd
    go_enter Tryd.func29, Tryd.ntmps29
    go_wp2_with (first | (go_at_call 11; refine CD.out.mono ?_; rintro e w1 ⟨rfl, hb1⟩; have HB := hide hb1; clear hb1))
    go_ret2
    exact tu_none HD.out HB.out
  · have HD := hide hd
    have hRN := rn_of hD hd hz
    have HV := hide (tuV_yes hd)
    have hVn := tuV_n hD hz
    obtain ⟨h1, -⟩ := pk_facts hd
    rw [hD] at h1
    rw [hd] at CD
    obtain ⟨b0, off, rfl, hbs, hrow⟩ := hr (by omega)
    have CT := hide (fun (W : World) (hW : Below w.heap.size w W) => s_turn D n b0 off cap hRN w.heap.size hbs (n - 1 + 1) (n - 1) (by omega) (by omega) (fun _ => False) none 0 0 emP W (pnRow_go hrow hbs hW) hW.size (po_nil _ _ _) (by rw [← hD, ← HV.out]; omega))
    rw [hD] at HV
    rw [← HV.out] at CT
    have hni : ((n - 1 : Nat) : Int) = (n : Int) - 1 := by omega
    rw [hni] at CT
    have hn1 : (1 : Int) ≤ (n : Int) := by omega
    have hn4 : (n : Int) ≤ 40 := by omega
    clear hr hD hz hd hrow hRN hni
    go_enter Tryd.func29, Tryd.ntmps29
    go_wp2_with fail
    refine CD.out.mono ?_
    rintro e w1 ⟨rfl, hb1⟩
    have HB := hide hb1
    clear hb1
    go_wp2_with fail
    refine (CT.out _ HB.out).mono ?_
    rintro e w2 ⟨ad2, c2, rfl, hpo, hk, -, -⟩
    have HPO := hide (po_imp (T := fun j => w.heap.size ≤ j) hpo (fun j _ hj => by rcases hj with hj | hj; exact hj.elim; have := HB.out.size; omega))
    have HB2 := hide (HB.out.trans (kp_below (B := w.heap.size) hk HB.out.size (fun j hj => by rcases hj with e | e; exact e.elim; cases e)))
    clear hpo hk
    go_wp2
    go_ret2
    exact ⟨ad2, c2, by rw [HD.out]; rfl, HPO.out, HB2.out⟩
set_option maxRecDepth 100000 in
set_option maxHeartbeats 4000000 in
theorem i_turned (D : Pn) (n : Nat) (a : Option Addr) (cap : Nat) (w : World) (hD : D.n = n) (hz : pnTot D ≤ 1048576) (hr : PnAt w a D w.heap.size) (hzk : ∀ b0 off, a = some ⟨b0, off, none⟩ → ∀ j, j < n → ∀ ad l cp, w.cell? ⟨b0, off + j * 4 + 2, none⟩ = some (.slice ad l cp) → ∀ x, ad = some x → x.spot = none) :
    Calls Tryd.prog 28 #[.slice a n cap] w (TuA D w) := by
  have CD := hide (fun (W : World) (h : PnAt W a D W.heap.size) => i_particle D n a cap W hD hz h)
  have HR := hide hr
  have HAX := hide (fun (o : Obj) => (Below.refl w.heap.size w).alloc (Nat.le_refl _) o)
  cases hd : pkB D
  · have HD := hide hd
    rw [hd] at CD
    clear hr hD hz hd
    go_enter Tryd.func28, Tryd.ntmps28
    go_wp2_with (first | (go_at_call 53; refine (CD.out _ (pnAt_up (pnAt_go HR.out (HAX.out _)) (HAX.out _).size)).mono ?_; rintro e w1 ⟨rfl, hb1⟩; have HB := hide (gBox_below hb1); clear hb1))
    go_ret2
    exact tu_none HD.out HB.out
  · have HD := hide hd
    have hRN := rn_of hD hd hz
    have HV := hide (tuV_yes hd)
    have hVn := tuV_n hD hz
    obtain ⟨h1, -⟩ := pk_facts hd
    rw [hD] at h1
    rw [hd] at CD
    obtain ⟨b0, off, rfl, hbs, hrow⟩ := hr (by omega)
    have HZK := hide (hzk b0 off rfl)
    have HROW := hide hrow
    clear hr hzk hrow hd
    go_enter Tryd.func28, Tryd.ntmps28
    go_wp2_with fail
    refine (CD.out _ (pnAt_up (pnAt_go HR.out (HAX.out _)) (HAX.out _).size)).mono ?_
    rintro e w1 ⟨rfl, hb1⟩
    have HP1 := hide (cellsAt_go (cellsAt_new w #[.slice (some ⟨b0, off, none⟩) n cap] 24) hb1 (by simp))
    have HB1 := hide (gBox_below hb1)
    have cp := cellsAt_cell HP1.out 0
    simp only [List.getElem?_toArray, List.getElem?_cons_zero] at cp
    have hlt1 : w.heap.size < w1.heap.size := cellsAt_lt HP1.out
    have hn1 : (1 : Int) ≤ (n : Int) := by omega
    have hn4 : (n : Int) ≤ 40 := by omega
    clear hb1
    have HTB : Hid (∀ (o : Obj), ((w1.alloc o).alloc (.cells #[.nilFunc] 69)).heap[w1.heap.size + 1]? = some (.cells #[.nilFunc] 69 (0, 0))) := hide (fun o => by have := heap_alloc_new (w1.alloc o) (.cells #[.nilFunc] 69); simpa using this)
    have HTS : Hid (∀ (o : Obj) (v : Value), ((w1.alloc o).alloc (.cells #[.nilFunc] 69)).setRow (w1.heap.size + 1) #[v] = (w1.alloc o).alloc (.cells #[v] 69)) := hide (fun o v => by have := World.setRow_alloc_new (w1.alloc o) #[.nilFunc] #[v] 69; simpa using this)
    have HS4 : Hid ((Tryd.prog.info? 69).map (·.size) = some 1) := hide (by kernel_rfl)
    have cp2 : ∀ o1 o2, ((w1.alloc o1).alloc o2).cell? ⟨w.heap.size, 0, none⟩ = some (.slice (some ⟨b0, off, none⟩) n cap) := fun o1 o2 => by
      have k9 : Below w1.heap.size w1 ((w1.alloc o1).alloc o2) := ((Below.refl _ _).alloc (Nat.le_refl _) _).alloc (by simp) _
      exact (k9.cell (p := ⟨w.heap.size, 0, none⟩) hlt1).trans cp
    have ct2 : ∀ o1 v, ((w1.alloc o1).alloc (.cells #[v] 69)).cell? ⟨w1.heap.size + 1, 0, none⟩ = some v := fun o1 v => by
      have h9 := heap_alloc_new (w1.alloc o1) (.cells #[v] 69)
      have e9 : (w1.alloc o1).heap.size = w1.heap.size + 1 := by simp
      rw [e9] at h9
      rw [cell_of_row _ _ 0 _ _ (0, 0) h9]; rfl
    go_wp2_with (first
      | (refine wpList_store_one rfl 69 _ _ rfl (w1.heap.size + 1) rfl rfl 69 .nilFunc (HTB.out _) HS4.out ?_; rw [HTS.out]))
    have HWW : Hid (TuW ((w1.alloc (.cells #[.slice none 0 0] 24)).alloc (.cells #[turnV w.heap.size (w1.heap.size + 1) w1.heap.size] 69)) D n b0 off cap w.heap.size (w1.heap.size + 1) w1.heap.size w.heap.size (w1.heap.size + 2)) := hide (by
      have k9 : Below w1.heap.size w1 ((w1.alloc (.cells #[.slice none 0 0] 24)).alloc (.cells #[turnV w.heap.size (w1.heap.size + 1) w1.heap.size] 69)) := ((Below.refl _ _).alloc (Nat.le_refl _) _).alloc (by simp) _
      have k8 := HB1.out.trans (k9.mono HB1.out.size)
      refine ⟨cellsAt_go HP1.out k9 hlt1, ?_, pnRow_go HROW.out hbs k8, fun j hj ad l cp hcell => ?_, hbs, Nat.le_of_lt hlt1, by omega, by omega, by omega, by omega, by omega, by simp⟩
      · have h9 := cellsAt_new (w1.alloc (.cells #[.slice none 0 0] 24)) #[turnV w.heap.size (w1.heap.size + 1) w1.heap.size] 69
        have e9 : (w1.alloc (.cells #[.slice none 0 0] 24)).heap.size = w1.heap.size + 1 := by simp
        rw [e9] at h9
        exact h9
      · rw [k8.cell (p := ⟨b0, off + j * 4 + 2, none⟩) hbs] at hcell
        exact HZK.out j hj ad l cp hcell)
    have HLB : Hid (LB ((w1.alloc (.cells #[.slice none 0 0] 24)).alloc (.cells #[turnV w.heap.size (w1.heap.size + 1) w1.heap.size] 69)) w1.heap.size none 0 0) := hide (by
      have k9 : Below (w1.alloc (.cells #[.slice none 0 0] 24)).heap.size (w1.alloc (.cells #[.slice none 0 0] 24)) ((w1.alloc (.cells #[.slice none 0 0] 24)).alloc (.cells #[turnV w.heap.size (w1.heap.size + 1) w1.heap.size] 69)) := (Below.refl _ _).alloc (Nat.le_refl _) _
      exact (k9.block w1.heap.size (by simp)).trans (heap_alloc_new w1 _))
    have HBW : Hid (Below w.heap.size w ((w1.alloc (.cells #[.slice none 0 0] 24)).alloc (.cells #[turnV w.heap.size (w1.heap.size + 1) w1.heap.size] 69))) := hide ((HB1.out.alloc HB1.out.size _).alloc (by have := HB1.out.size; simp; omega) _)
    have hsz : ((w1.alloc (.cells #[.slice none 0 0] 24)).alloc (.cells #[turnV w.heap.size (w1.heap.size + 1) w1.heap.size] 69)).heap.size = w1.heap.size + 2 := by simp
    unfold turnV at HWW HLB HBW hsz
    obtain ⟨wr, hwr⟩ : ∃ wr, ((w1.alloc (.cells #[.slice none 0 0] 24)).alloc (.cells #[.func (.func 56) #[] #[.pointer (some ⟨w.heap.size, 0, none⟩), .pointer (some ⟨w1.heap.size + 1, 0, none⟩), .pointer (some ⟨w1.heap.size, 0, none⟩)]] 69)) = wr := ⟨_, rfl⟩
    rw [hwr] at HWW HLB HBW hsz
    rw [hwr]
    clear hwr cp2 ct2 cp HTB HTS HS4
    have hni : (n : Int) - 1 = ((n - 1 : Nat) : Int) := by omega
    rw [hni]
    refine (i_turn D n b0 off cap w.heap.size (w1.heap.size + 1) w1.heap.size w.heap.size (w1.heap.size + 2) hRN (n - 1 + 1) (n - 1) (by omega) (by omega) (fun _ => False) none 0 0 emP wr HWW.out HLB.out (po_nil _ _ _) (by rw [← hD, ← HV.out]; omega)).mono ?_
    rintro e w2 ⟨ad2, c2, rfl, hL2, hpo, hk, -, -⟩
    have c9 := lb_cell hL2
    have hVe : tn D (n - 1) emP = tuV D := by rw [HV.out, hD]
    rw [hVe] at c9 hpo
    have HPO : Hid (PO w.heap.size (fun j => w.heap.size ≤ j) w2 ad2 (tuV D).n c2 (tuV D)) := hide (po_low9 (po_imp hpo (fun j _ hj => by rcases hj with hj | hj; exact hj.elim; omega)) (by omega))
    have HB2 := hide (HBW.out.trans (kp_below (B := w.heap.size) hk (by omega) (fun j hj => by rcases hj with e | e; have e9 : j = w1.heap.size := e; omega; cases e)))
    clear hL2 hpo hk hVe hni
    go_wp2
    go_ret2
    exact ⟨ad2, c2, by rw [HD.out]; rfl, HPO.out, HB2.out⟩
end Go.Proofs.YtfohfljdgmlibaaDoor

/-
  Plain facts on a right model turned round.
-/
namespace Go.Proofs.YtfohfljdgmlibaaDoor
set_option linter.unusedVariables false
set_option linter.unusedSimpArgs false
theorem lo_emP : LoN emP := fun j hj => absurd hj (Nat.not_lt_zero _)
theorem ext_emP (D : Pn) : Ext emP D := ⟨Nat.zero_le _, fun j hj => absurd hj (Nat.not_lt_zero _)⟩
theorem tuV_fl {D : Pn} (h : pkB D = true) : tuV D = fl (mir (tre D (D.n - 1))) emP := by
  have h1 := (pk_facts h).1
  rw [tuV_yes h, tn_fl D.n (D.n - 1) (by omega) (fun j hj => ((pk_lo h) j (by omega)).2)]
theorem pk_loN {D : Pn} (h : pkB D = true) : LoN D := fun j hj => ((pk_lo h) j hj).2
theorem tu_n {D : Pn} (h : pkB D = true) : (tuV D).n = D.n := by
  obtain ⟨h1, -, h3, -⟩ := pk_facts h
  have h2 := tn_n D.n (D.n - 1) 0 (by omega) (fun j hj => ((pk_lo h) j (by omega)).2) h3 (fun j hj => ((pk_lo h) j (by omega)).1) emP
  rw [tuV_yes h, h2]
  show 0 + _ = _
  omega
theorem tu_lo {D : Pn} (h : pkB D = true) : LoN (tuV D) := by rw [tuV_fl h]; exact lo_fl _ _ lo_emP
theorem tu_tre {D : Pn} (h : pkB D = true) : tre (tuV D) ((tuV D).n - 1) = mir (tre D (D.n - 1)) := by
  have h1 := tu_lo h
  rw [tuV_fl h] at h1 ⊢
  exact fl_tre _ emP _ (Ext.refl _) h1
theorem tu_pk {D : Pn} (h : pkB D = true) : pkB (tuV D) = true := by
  obtain ⟨h1, h2, h3, h4, h5⟩ := pk_facts h
  have hn := tu_n h
  have hlo := tu_lo h
  have hl1 : Lo D (D.n - 1) := (pk_loN h).lo (by omega)
  have hl2 : Lo (tuV D) ((tuV D).n - 1) := hlo.lo (by omega)
  have ht := tu_tre h
  rw [pk_all (by omega)]
  · have e1 : tr (tuV D) ((tuV D).n - 1) = some 0 := by
      rw [tuV_fl h]
      exact fl_tr _ emP _ (Ext.refl _)
    have e2 : groupB (tuV D) ((tuV D).n - 1) = true := by
      rw [tre_eq hl2, mir_tre hl1] at ht
      injection ht with ha
      unfold groupB at h4 ⊢
      rw [ha]
      exact h4
    have e3 : dq (tuV D) ((tuV D).n - 1) ≤ 10 := by
      rw [dq_tre _ _ (Nat.lt_succ_self _) hl2, ht, dT_mir, ← dq_tre _ _ (Nat.lt_succ_self _) hl1]
      exact h5
    rw [e1, e2, decide_eq_true e3]
    rfl
  · intro j hj
    have hok := ok_mir _ (tre_ok _ _ (Nat.lt_succ_self _) hl1 (fun j hj => h2 j (by omega)))
    rw [tuV_fl h] at hj ⊢
    exact fl_ok _ emP _ hok (Ext.refl _) j (Nat.zero_le _) hj
/-- Turned twice it is as it was. -/
theorem tu_back {D : Pn} (h : pkB D = true) : (tuV (tuV D)).n = D.n ∧ Ext (tuV (tuV D)) D := by
  obtain ⟨h1, h2, h3, h4, h5⟩ := pk_facts h
  rw [tuV_fl (tu_pk h), tu_tre h, mir_mir]
  obtain ⟨h6, h7⟩ := fl_back D.n (D.n - 1) 0 (by omega) (by omega) (pk_loN h) h3 emP rfl (ext_emP D)
  exact ⟨by rw [h7]; omega, h6⟩
theorem tu_en {D : Pn} (h : pkB D = true) (W : List ByteArray) : en (tuV D) W.reverse ((tuV D).n - 1) 0 W.length ↔ en D W (D.n - 1) 0 W.length := by
  have h1 := (pk_facts h).1
  have hn := tu_n h
  rw [en_tre _ _ (Nat.lt_succ_self _) ((tu_lo h).lo (by omega)) (by omega), tu_tre h, enT_mir, en_tre _ _ (Nat.lt_succ_self _) ((pk_loN h).lo (by omega)) (by omega)]
theorem tu_ac {D : Pn} (h : pkB D = true) (W : List ByteArray) : AcP (tuV D) W.reverse ↔ AcP D W := by
  unfold AcP
  rw [List.length_reverse, tu_en h, tu_pk h, h]
theorem nl_en {D : Pn} (h : pkB D = true) : en D [] (D.n - 1) 0 0 ↔ nl D (D.n - 1) = true := by
  have h1 := ac_iff (W := []) h
  constructor
  · intro h2
    rcases h1.1 h2 with ⟨-, h3⟩ | ⟨q, h3, -⟩
    · exact h3
    · exact h3.elim
  · intro h2
    exact h1.2 (.inl ⟨rfl, h2⟩)
theorem tu_nl {D : Pn} (h : pkB D = true) : nl (tuV D) ((tuV D).n - 1) = nl D (D.n - 1) := by
  have h1 := tu_en h []
  have h2 := nl_en h
  have h3 := nl_en (tu_pk h)
  have h4 : nl (tuV D) ((tuV D).n - 1) = true ↔ nl D (D.n - 1) = true := h3.symm.trans (h1.trans h2)
  cases e1 : nl (tuV D) ((tuV D).n - 1) <;> cases e2 : nl D (D.n - 1)
  · rfl
  · rw [h4.2 e2] at e1; cases e1
  · rw [h4.1 e1] at e2; cases e2
  · rfl
end Go.Proofs.YtfohfljdgmlibaaDoor

/-
  Contracts of the laws' helpers on rows of model nodes: a copy in new memory, and that two rows that are alike are told so.
-/
namespace Go.Proofs.YtfohfljdgmlibaaDoor
open Go.RowKit Go.Joins
set_option linter.unusedVariables false
set_option linter.unusedSimpArgs false
theorem three_nodes {w w2 : World} {k : Int} {nm : ByteArray} {a : Option Addr} {n c : Nat} {oc : Int} {T U V : TypeId}
    (hb : Below (((w.alloc (.cells #[.int .i64 k, .string nm, .slice a n c, .int .i64 oc] T)).alloc (.cells #[.int .i64 0, .string ⟨#[]⟩, .slice none 0 0, .int .i64 0] U)).alloc (.cells #[.int .i64 k, .string nm, .slice none 0 0, .int .i64 0] V)).heap.size
      (((w.alloc (.cells #[.int .i64 k, .string nm, .slice a n c, .int .i64 oc] T)).alloc (.cells #[.int .i64 0, .string ⟨#[]⟩, .slice none 0 0, .int .i64 0] U)).alloc (.cells #[.int .i64 k, .string nm, .slice none 0 0, .int .i64 0] V)) w2) :
    NdAt w2 w.heap.size k nm a n c oc ∧ NdAt w2 (w.heap.size + 1) 0 ⟨#[]⟩ none 0 0 0 ∧ NdAt w2 (w.heap.size + 1 + 1) k nm none 0 0 0 ∧ Below w.heap.size w w2 := by
  have h1 := ndAt_new w k nm a n c oc T
  have h2 := ndAt_new (w.alloc (.cells #[.int .i64 k, .string nm, .slice a n c, .int .i64 oc] T)) 0 ⟨#[]⟩ none 0 0 0 U
  have h3 := ndAt_new ((w.alloc (.cells #[.int .i64 k, .string nm, .slice a n c, .int .i64 oc] T)).alloc (.cells #[.int .i64 0, .string ⟨#[]⟩, .slice none 0 0, .int .i64 0] U)) k nm none 0 0 0 V
  have st : ∀ (x : World) (o : Obj), Below x.heap.size x (x.alloc o) := fun x o => (Below.refl _ _).alloc (Nat.le_refl _) _
  refine ⟨ndAt_go (ndAt_go (ndAt_go h1 (st _ _)) (st _ _)) hb, ?_, ?_, ?_⟩
  · have := ndAt_go (ndAt_go h2 (st _ _)) hb
    simpa using this
  · have := ndAt_go h3 hb
    simpa using this
  · refine ((((Below.refl w.heap.size w).alloc (Nat.le_refl _) _).alloc (by simp) _).alloc (by simp; omega) _).trans (hb.mono (by simp; omega))
/-- Of a row of cells the first k nodes are those of D, each with its kids in a block of its own above g. -/
def QuadN (w : World) (g : Nat) (xs : List Value) (k : Nat) (D : Pn) : Prop := ∀ j, j < k → ∃ G, g < G ∧ (xs[j * 4]? = some (.int .i64 (D.K j)) ∧ xs[j * 4 + 1]? = some (.string (D.NM j)) ∧ xs[j * 4 + 2]? = some (.slice (some ⟨G, 0, none⟩) (D.KL j).length (D.KL j).length) ∧ xs[j * 4 + 3]? = some (.int .i64 (D.OC j))) ∧ RowAt .i64 w (some ⟨G, 0, none⟩) (D.KL j) w.heap.size
theorem quadN_go {w w' : World} {g k : Nat} {xs : List Value} {D : Pn} (h : QuadN w g xs k D) (hb : Below w.heap.size w w') : QuadN w' g xs k D := fun j hj => by
  obtain ⟨G, hG, hc, hr⟩ := h j hj
  exact ⟨G, hG, hc, rwAt_up (rwAt_go hr hb) hb.size⟩
theorem quadN_set {w : World} {g k o : Nat} {xs : List Value} {D : Pn} (h : QuadN w g xs k D) (v : Value) : QuadN (w.setCell ⟨g, o, none⟩ v) g xs k D := fun j hj => by
  obtain ⟨G, hG, hc, hr⟩ := h j hj
  refine ⟨G, hG, hc, ?_⟩
  rw [heap_setCell_size]
  exact rwAt_set hr _ _ (by show g ≠ G; omega)
theorem quadN_step {w : World} {g k n G : Nat} {xs : List Value} {D : Pn} (h : QuadN w g xs k D) (hk : k < n) (hl : xs.length = n * 4) (hG : g < G) (hr : RowAt .i64 w (some ⟨G, 0, none⟩) (D.KL k) w.heap.size) :
    QuadN w g ((((xs.set (k * 4) (.int .i64 (D.K k))).set (k * 4 + 1) (.string (D.NM k))).set (k * 4 + 2) (.slice (some ⟨G, 0, none⟩) (D.KL k).length (D.KL k).length)).set (k * 4 + 3) (.int .i64 (D.OC k))) (k + 1) D := by
  intro j hj
  simp only [List.getElem?_set, List.length_set]
  by_cases e : j = k
  · subst e
    refine ⟨G, hG, ⟨?_, ?_, ?_, ?_⟩, hr⟩
    all_goals
      repeat (first | rw [if_pos rfl, if_pos (by omega)] | rw [if_neg (by omega)])
  · obtain ⟨G', hG', ⟨h0, h1, h2, h3⟩, hr'⟩ := h j (by omega)
    refine ⟨G', hG', ⟨?_, ?_, ?_, ?_⟩, hr'⟩
    all_goals
      repeat rw [if_neg (by omega)]
      assumption
theorem own_pn {w : World} {B g n t : Nat} {xs : List Value} {D : Pn} (hn : D.n = n) (h : w.ownsRow B t 4 (.slice (some ⟨g, 0, none⟩) n n) n xs) (hp : QuadN w g xs n D) : PnAt w (some ⟨g, 0, none⟩) D w.heap.size := fun h0 => by
  have hg : g < w.heap.size := (h.lt g rfl).2
  refine ⟨g, 0, rfl, hg, fun j hj => ?_⟩
  obtain ⟨G, hG, ⟨h0, h1, h2, h3⟩, hr⟩ := hp j (by omega)
  refine ⟨some ⟨G, 0, none⟩, (D.KL j).length, ⟨?_, ?_, ?_, ?_⟩, hr, Nat.le_refl _⟩
  · rw [Nat.zero_add, h.cellAt (j * 4) (by omega)]; exact h0
  · rw [Nat.zero_add, h.cellAt (j * 4 + 1) (by omega)]; exact h1
  · rw [Nat.zero_add, h.cellAt (j * 4 + 2) (by omega)]; exact h2
  · rw [Nat.zero_add, h.cellAt (j * 4 + 3) (by omega)]; exact h3
theorem two_nodes {w w2 : World} {k : Int} {nm : ByteArray} {a a' : Option Addr} {n c c' : Nat} {oc : Int} {T U : TypeId}
    (hb : Below ((w.alloc (.cells #[.int .i64 k, .string nm, .slice a n c, .int .i64 oc] T)).alloc (.cells #[.int .i64 k, .string nm, .slice a' n c', .int .i64 oc] U)).heap.size ((w.alloc (.cells #[.int .i64 k, .string nm, .slice a n c, .int .i64 oc] T)).alloc (.cells #[.int .i64 k, .string nm, .slice a' n c', .int .i64 oc] U)) w2) :
    NdAt w2 w.heap.size k nm a n c oc ∧ NdAt w2 (w.heap.size + 1) k nm a' n c' oc ∧ Below w.heap.size w w2 := by
  have h1 := ndAt_new w k nm a n c oc T
  have h2 := ndAt_new (w.alloc (.cells #[.int .i64 k, .string nm, .slice a n c, .int .i64 oc] T)) k nm a' n c' oc U
  have st : ∀ (x : World) (o : Obj), Below x.heap.size x (x.alloc o) := fun x o => (Below.refl _ _).alloc (Nat.le_refl _) _
  refine ⟨ndAt_go (ndAt_go h1 (st _ _)) hb, ?_, ?_⟩
  · have := ndAt_go h2 hb
    simpa using this
  · exact (((Below.refl w.heap.size w).alloc (Nat.le_refl _) _).alloc (by simp) _).trans (hb.mono (by simp; omega))
theorem drewN_below9 (w : World) (q : Nat) : Below w.heap.size w (w.drewN q) := by
  induction q with
  | zero => exact Below.refl _ _
  | succ q ih => exact ih.trans ⟨rfl, rfl, rfl, Nat.le_refl _, fun _ _ => rfl⟩
def EQP (w w' : World) (b o b' o' : Nat) (D : Pn) (k : Nat) (ad : Option Addr) (cp : Nat) (ad' : Option Addr) (cp' : Nat) : Prop := Below w.heap.size w w' ∧ (b < w.heap.size ∧ b' < w.heap.size) ∧
  PnCells w' b o D k ad cp ∧ PnCells w' b' o' D k ad' cp' ∧ RowAt .i64 w' ad (D.KL k) w.heap.size ∧ RowAt .i64 w' ad' (D.KL k) w.heap.size
section
variable {w w1 w2 : World} {b o b' o' : Nat} {D : Pn} {k : Nat} {ad : Option Addr} {cp : Nat} {ad' : Option Addr} {cp' : Nat}
theorem eqp_go (x : EQP w w1 b o b' o' D k ad cp ad' cp') (h : Below w1.heap.size w1 w2) : EQP w w2 b o b' o' D k ad cp ad' cp' := by
  obtain ⟨hb, ⟨h1, h2⟩, c1, c2, r1, r2⟩ := x
  have hh := h.mono hb.size
  exact ⟨hb.trans hh, ⟨h1, h2⟩, pnCells_go c1 h1 hh, pnCells_go c2 h2 hh, rwAt_go r1 hh, rwAt_go r2 hh⟩
theorem eqp_drew (x : EQP w w1 b o b' o' D k ad cp ad' cp') : EQP w w1.drew b o b' o' D k ad cp ad' cp' := eqp_go x ⟨rfl, rfl, rfl, Nat.le_refl _, fun _ _ => rfl⟩
theorem eqp_all (x : EQP w w1 b o b' o' D k ad cp ad' cp') : EQP w w1 b o b' o' D k ad cp ad' cp' ∧ (w1.cell? ⟨b, o, none⟩ = some (.int .i64 (D.K k)) ∧ w1.cell? ⟨b, o + 1, none⟩ = some (.string (D.NM k)) ∧ w1.cell? ⟨b, o + 2, none⟩ = some (.slice ad (D.KL k).length cp) ∧ w1.cell? ⟨b, o + 3, none⟩ = some (.int .i64 (D.OC k))) ∧ w1.cell? ⟨b', o', none⟩ = some (.int .i64 (D.K k)) ∧ w1.cell? ⟨b', o' + 1, none⟩ = some (.string (D.NM k)) ∧ w1.cell? ⟨b', o' + 2, none⟩ = some (.slice ad' (D.KL k).length cp') ∧ w1.cell? ⟨b', o' + 3, none⟩ = some (.int .i64 (D.OC k)) := ⟨x, x.2.2.1, x.2.2.2.1⟩
theorem eqp_r1 (x : EQP w w1 b o b' o' D k ad cp ad' cp') : RowAt .i64 w1 ad (D.KL k) w1.heap.size := rwAt_up x.2.2.2.2.1 x.1.size
theorem eqp_r2 (x : EQP w w1 b o b' o' D k ad cp ad' cp') : RowAt .i64 w1 ad' (D.KL k) w1.heap.size := rwAt_up x.2.2.2.2.2 x.1.size
end
end Go.Proofs.YtfohfljdgmlibaaDoor

/-
  Contracts of the reader of models: one sign, how often.
-/
namespace Go.Proofs.YtfohfljdgmlibaaDoor
open Go.RowKit Go.Joins
set_option linter.unusedVariables false
set_option linter.unusedSimpArgs false
/-- What one look at a sign leaves. -/
def IsAns (R : Nat) (s : ByteArray) (p : Nat) (bd : Bool) (ad : Option Addr) (m c : Nat) (w : World) (e : Ending) (w' : World) : Prop :=
  ∃ (b : Bool) (p' : Nat), e = .returned (.bool b) ∧ L8 w' R s p' bd ad m c ∧ Kp (fun k => k = R) w w' ∧ ((b = true ∧ bd = false ∧ p' = p + 1 ∧ p + 1 ≤ s.size) ∨ (b = false ∧ p' = p))
set_option maxHeartbeats 2000000 in
theorem r_is (R : Nat) (s : ByteArray) (p : Nat) (bd : Bool) (ad : Option Addr) (m c : Nat) (ch : Int) (w : World) (h : L8 w R s p bd ad m c) (hp : p ≤ s.size) (hs : s.size ≤ 20000) :
    Calls Tryd.prog 92 #[.pointer (some ⟨R, 0, none⟩), .int .u8 ch] w (IsAns R s p bd ad m c w) := by
  have HH := hide h
  obtain ⟨c0, c1, c2, c3⟩ := l8_cells h
  have f1 := l8_frozen h 1
  clear h
  cases bd
  · by_cases hlt : p < s.size
    · have hd : decide ((p : Int) ≥ (s.size : Int)) = false := decide_eq_false (by omega)
      have hi0 : (0 : Int) ≤ (p : Int) := by omega
      have hi1 : (p : Int) < (s.size : Int) := by omega
      have hi2 : ¬ (s.size : Int) ≤ (p : Int) := by omega
      cases hb : (((s[p].toNat : Int)) != ch)
      · go_enter Tryd.func92, Tryd.ntmps92
        go_wp2
        go_quiet (fail)
        go_wp2
        go_ret
        exact ⟨true, p + 1, rfl, l8_p HH.out (p + 1), (kp_drewN w _).trans (kp_set (S := fun k => k = R) _ _ _ rfl) (fun j _ hj => hj), .inl ⟨rfl, rfl, rfl, by omega⟩⟩
      · go_enter Tryd.func92, Tryd.ntmps92
        go_wp2
        go_quiet (fail)
        go_wp2
        go_ret
        exact ⟨false, p, rfl, HH.out, kp_drewN w _, .inr ⟨rfl, rfl⟩⟩
    · have hd : decide ((p : Int) ≥ (s.size : Int)) = true := decide_eq_true (by omega)
      have hi2 : (s.size : Int) ≤ (p : Int) := by omega
      go_enter Tryd.func92, Tryd.ntmps92
      go_wp2
      go_quiet (fail)
      go_wp2
      go_ret
      exact ⟨false, p, rfl, HH.out, kp_drewN w _, .inr ⟨rfl, rfl⟩⟩
  · go_enter Tryd.func92, Tryd.ntmps92
    go_wp2
    go_quiet (fail)
    go_wp2
    go_ret
    exact ⟨false, p, rfl, HH.out, kp_drewN w _, .inr ⟨rfl, rfl⟩⟩
def OccAns (R : Nat) (s : ByteArray) (p : Nat) (bd : Bool) (ad : Option Addr) (m c : Nat) (w : World) (e : Ending) (w' : World) : Prop :=
  ∃ (x : Int) (p' : Nat), e = .returned (.int .i64 x) ∧ L8 w' R s p' bd ad m c ∧ Kp (fun k => k = R) w w' ∧ p ≤ p' ∧ p' ≤ s.size
theorem occ_of {R : Nat} {s : ByteArray} {p p' : Nat} {bd : Bool} {ad : Option Addr} {m c : Nat} {w w' : World} (x : Int) (h : L8 w' R s p' bd ad m c) (k : Kp (fun k => k = R) w w') (h1 : p ≤ p') (h2 : p' ≤ s.size) : OccAns R s p bd ad m c w (.returned (.int .i64 x)) w' := ⟨x, p', rfl, h, k, h1, h2⟩
set_option maxHeartbeats 2000000 in
theorem r_occur (R : Nat) (s : ByteArray) (p : Nat) (bd : Bool) (ad : Option Addr) (m c : Nat) (w : World) (h : L8 w R s p bd ad m c) (hp : p ≤ s.size) (hs : s.size ≤ 20000) :
    Calls Tryd.prog 93 #[.pointer (some ⟨R, 0, none⟩)] w (OccAns R s p bd ad m c w) := by
  have HH := hide h
  clear h
  go_enter Tryd.func93, Tryd.ntmps93
  go_wp2_with fail
  refine (r_is R s p bd ad m c 63 w HH.out hp hs).mono ?_
  rintro e w1 ⟨b1, p1, rfl, h1, k1, o1⟩
  have H1 := hide h1
  have K1 := hide k1
  have hp1 : p ≤ p1 ∧ p1 ≤ s.size := by omega
  clear h1 k1 o1
  cases b1
  case true =>
    go_wp2
    go_ret
    exact occ_of _ H1.out K1.out hp1.1 hp1.2
  case false =>
    go_wp2_with fail
    refine (r_is R s p1 bd ad m c 42 w1 H1.out hp1.2 hs).mono ?_
    rintro e w2 ⟨b2, p2, rfl, h2, k2, o2⟩
    have H2 := hide h2
    have K2 := hide (K1.out.trans k2 (fun j _ hj => hj))
    have hp2 : p ≤ p2 ∧ p2 ≤ s.size := by omega
    clear h2 k2 o2
    cases b2
    case true =>
      go_wp2
      go_ret
      exact occ_of _ H2.out K2.out hp2.1 hp2.2
    case false =>
      go_wp2_with fail
      refine (r_is R s p2 bd ad m c 43 w2 H2.out hp2.2 hs).mono ?_
      rintro e w3 ⟨b3, p3, rfl, h3, k3, o3⟩
      have H3 := hide h3
      have K3 := hide (K2.out.trans k3 (fun j _ hj => hj))
      have hp3 : p ≤ p3 ∧ p3 ≤ s.size := by omega
      clear h3 k3 o3
      cases b3
      all_goals
        go_wp2
        go_ret
        exact occ_of _ H3.out K3.out hp3.1 hp3.2
end Go.Proofs.YtfohfljdgmlibaaDoor
