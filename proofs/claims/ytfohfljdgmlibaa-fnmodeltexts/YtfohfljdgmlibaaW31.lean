/-
  Contract: the program's turning of a node and all below it: a closure that calls itself through its box.
-/
import Derived.Test.YtfohfljdgmlibaaW29
import Derived.Test.YtfohfljdgmlibaaW30
import Derived.Deep.RegionLaw
import Derived.Deep.DeepCutAuto
import Derived.Deep.CutBlock
namespace Go.Proofs.Ytfohfljdgmlibaa
open Go.RowKit Go.Joins
set_option linter.unusedVariables false
set_option linter.unusedSimpArgs false
def turnV (PB TB R : Nat) : Value := .func (.func 41) #[] #[.pointer (some ⟨PB, 0, none⟩), .pointer (some ⟨TB, 0, none⟩), .pointer (some ⟨R, 0, none⟩)]
/-- The box of the row of nodes. -/
def LB (w : World) (R : Nat) (ad : Option Addr) (m c : Nat) : Prop := w.heap[R]? = some (.cells #[.slice ad m c] 24 (0, 0))
theorem lb_lt {w : World} {R : Nat} {ad : Option Addr} {m c : Nat} (h : LB w R ad m c) : R < w.heap.size := (Array.getElem?_eq_some_iff.1 h).1
theorem lb_cell {w : World} {R : Nat} {ad : Option Addr} {m c : Nat} (h : LB w R ad m c) : w.cell? ⟨R, 0, none⟩ = some (.slice ad m c) := by rw [cell_of_row w R 0 _ _ (0, 0) h]; rfl
theorem lb_frozen {w : World} {R : Nat} {ad : Option Addr} {m c : Nat} (h : LB w R ad m c) : w.frozen? ⟨R, 0, none⟩ = false := frozen_of_row w R 0 _ _ h
theorem lb_ot {w : World} {R : Nat} {ad : Option Addr} {m c : Nat} (h : LB w R ad m c) : OtT w R := ⟨_, _, h, by decide, by decide⟩
theorem lb_set {w : World} {R : Nat} {ad : Option Addr} {m c : Nat} (h : LB w R ad m c) (ad' : Option Addr) (m' c' : Nat) : LB (w.setCell ⟨R, 0, none⟩ (.slice ad' m' c')) R ad' m' c' := heap_setCell_same w R 0 _ _ (.slice ad' m' c') h
/-- What stands while a model is turned round: the boxes, the model. -/
structure TuW (w : World) (D : Pn) (n b0 off cap PB TB R Bp B : Nat) : Prop where
  pb : CellsAt w PB #[.slice (some ⟨b0, off, none⟩) n cap]
  tb : CellsAt w TB #[turnV PB TB R]
  row : PnRow w b0 off D Bp
  zk : ∀ j, j < n → ∀ ad l cp, w.cell? ⟨b0, off + j * 4 + 2, none⟩ = some (.slice ad l cp) → ∀ x, ad = some x → x.spot = none
  h1 : b0 < Bp
  h2 : Bp ≤ R
  h3 : R < B
  h4 : PB < B
  h5 : TB < B
  h6 : PB ≠ R
  h7 : TB ≠ R
  sz : B ≤ w.heap.size
theorem tuW_kp {w w' : World} {D : Pn} {n b0 off cap PB TB R Bp B : Nat} (h : TuW w D n b0 off cap PB TB R Bp B) (k : Kp (fun j => j = R ∨ B ≤ j) w w') : TuW w' D n b0 off cap PB TB R Bp B := by
  have hsz := h.sz
  have h2 := h.h2
  have h3 := h.h3
  have hb : Below Bp w w' := ⟨k.os, k.tape, k.output, k.size, fun j hj => k.block j (by omega) (by omega)⟩
  have hc : ∀ {j : Nat} {cs : Array Value}, CellsAt w j cs → j < B → j ≠ R → CellsAt w' j cs := fun {j cs} h9 a b => by
    obtain ⟨T, hT⟩ := h9
    exact ⟨T, (k.block j (by omega) (by omega)).trans hT⟩
  refine ⟨hc h.pb h.h4 h.h6, hc h.tb h.h5 h.h7, pnRow_go h.row h.h1 hb, fun j hj ad l cp hcell => ?_, h.h1, h.h2, h.h3, h.h4, h.h5, h.h6, h.h7, Nat.le_trans h.sz k.size⟩
  rw [hb.cell (p := ⟨b0, off + j * 4 + 2, none⟩) h.h1] at hcell
  exact h.zk j hj ad l cp hcell
theorem tuW_row {w : World} {D : Pn} {n b0 off cap PB TB R Bp B : Nat} (h : TuW w D n b0 off cap PB TB R Bp B) : Bp ≤ w.heap.size := by have := h.sz; have := h.h2; have := h.h3; omega
theorem rev_nil (a : Option Addr) (c : Nat) (w : World) : Calls Try.prog 43 #[.slice a 0 c] w fun e w' => e = .returned (.tuple #[]) ∧ w' = w := by
  go_enter Try.func43, Try.ntmps43
  go_wp2
  go_loop [2, 3] (fun i j => i = .int .i64 0 ∧ j = .int .i64 (-1)) (fun _ _ => 0)
  case atStart => exact ⟨rfl, rfl⟩
  case round =>
    obtain ⟨rfl, rfl⟩ := hrel
    go_wp2
    go_end0
    exact ⟨rfl, rfl⟩
theorem i_reverseA (B : Nat) (ad : Option Addr) (n c : Nat) (L : List Int) (w : World) (hL : L.length = n) (hn : n ≤ 1000) (hown : w.ownsRow B 2 1 (.slice ad n c) n (L.map (Value.int .i64))) :
    Calls Try.prog 43 #[.slice ad n c] w fun e w' => e = .returned (.tuple #[]) ∧ w'.ownsRow B 2 1 (.slice ad n c) n (L.reverse.map (Value.int .i64)) ∧ Below B w w' := by
  rcases Nat.eq_zero_or_pos n with h0 | h0
  · subst h0
    have : L = [] := List.length_eq_zero_iff.1 hL
    subst this
    refine (rev_nil ad c w).mono ?_
    rintro e w' ⟨rfl, rfl⟩
    exact ⟨rfl, hown, Below.refl _ _⟩
  · rcases hown.2 with ⟨-, hz⟩ | ⟨g, cap, cur, hv, hB, -⟩
    · omega
    · simp only [Value.slice.injEq] at hv
      obtain ⟨rfl, -, rfl⟩ := hv
      exact i_reverse B g n c L w hL hn hB hown
section
variable {Rp : Nat → Prop} {B : Nat} {w0 w w9 : World} {S0 : Nat → Prop} {ro : Option Nat} {ad : Option Addr} {m c : Nat} {O : Pn} {k : Int} {nm : ByteArray} {na : Option Addr} {nn nc : Nat} {oc : Int} {kad : Option Addr} {L : List Int} {kc : Nat} {q : Value} {M : List Value} {l : Nat}
theorem trn_apart {j : Nat} (h : TnS Rp B w0 S0 ro w ad m c O k nm na nn nc oc kad L kc) (ho : w.ownsRow 0 2 1 q l M) (hj : q.ownBlock = some j) (e : Rp j ∨ (Value.slice ad m c).ownBlock = some j) : False := by
  obtain ⟨xs, hown, -⟩ := h.po
  rcases e with e | e
  · exact ot_ne1 (h.rp j e).2 ho hj rfl
  · exact own_ne ho hj hown e (by decide) rfl
theorem trn_kid {gg : Nat} {o : Obj} (ho : w.ownsRow 0 2 1 q l M) (hne : ∀ j, (Value.slice kad L.length kc).ownBlock = some j → q.ownBlock ≠ some j) (hg : (w.alloc o).grownBy w9 (Value.slice kad L.length kc).ownBlock) (hat : (Value.slice kad L.length kc).ownBlock = some gg ∨ gg = w.heap.size + 1) :
    w9.ownsRow 0 2 1 q l M ∧ ∀ j, gg = j → q.ownBlock ≠ some j := by
  have hk : Kp (fun j => (Value.slice kad L.length kc).ownBlock = some j) w w9 := (kp_alloc w o).trans (kp_grown (S := fun j => (Value.slice kad L.length kc).ownBlock = some j) hg (fun j hj => hj)) (fun j _ hj => hj)
  refine ⟨own_kp ho hk (fun j hj e => hne j e hj), fun j hj e => ?_⟩
  subst hj
  rcases hat with e9 | e9
  · exact hne gg e9 e
  · have := (ho.lt gg e).2
    omega
theorem trn_lb {R : Nat} {o : Obj} {ad8 : Option Addr} {m8 c8 : Nat} (h : TnS (fun j => j = R) B w0 S0 ro w ad m c O k nm na nn nc oc kad L kc) (hl : LB w R ad8 m8 c8) (hg : (w.alloc o).grownBy w9 (Value.slice kad L.length kc).ownBlock) : LB w9 R ad8 m8 c8 := by
  have hk : Kp (fun j => (Value.slice kad L.length kc).ownBlock = some j) w w9 := (kp_alloc w o).trans (kp_grown (S := fun j => (Value.slice kad L.length kc).ownBlock = some j) hg (fun j hj => hj)) (fun j _ hj => hj)
  exact (hk.block R (lb_lt hl) (fun e => ot_ne1 (h.rp R rfl).2 h.kd e rfl)).trans hl
end
set_option maxRecDepth 100000 in
set_option maxHeartbeats 8000000 in
theorem i_turnF (D : Pn) (n b0 off cap PB TB R Bp B : Nat) (hRN : RN D n) (i : Nat) (hi : i < n) (S0 : Nat → Prop) (oa : Option Addr) (om ocp : Nat) (O : Pn) (w : World) (hW : TuW w D n b0 off cap PB TB R Bp B) (hR : LB w R oa om ocp) (hO : PO B S0 w oa om ocp O) (hlim : (tn D i O).n ≤ 100)
    (hI : ∀ q, q < i → ∀ (S0 : Nat → Prop) (oa : Option Addr) (om ocp : Nat) (O : Pn) (w : World), TuW w D n b0 off cap PB TB R Bp B → LB w R oa om ocp → PO B S0 w oa om ocp O → (tn D q O).n ≤ 100 →
      Calls Try.prog 41 #[.int .i64 q, .pointer (some ⟨PB, 0, none⟩), .pointer (some ⟨TB, 0, none⟩), .pointer (some ⟨R, 0, none⟩)] w fun r w' => ∃ ad c, r = .returned (.int .i64 (((tn D q O).n : Int) - 1)) ∧ LB w' R ad (tn D q O).n c ∧ TrnA (fun j => j = R) B (tn D q O) (.slice oa om ocp) S0 w w' ad (tn D q O).n c) :
    Calls Try.prog 41 #[.int .i64 i, .pointer (some ⟨PB, 0, none⟩), .pointer (some ⟨TB, 0, none⟩), .pointer (some ⟨R, 0, none⟩)] w fun r w' => ∃ ad c, r = .returned (.int .i64 (((tn D i O).n : Int) - 1)) ∧ LB w' R ad (tn D i O).n c ∧ TrnA (fun j => j = R) B (tn D i O) (.slice oa om ocp) S0 w w' ad (tn D i O).n c := by
  obtain ⟨i0, hi0, hz0, hz1, hz2⟩ := info_parts info64
  obtain ⟨i1, hi1, hy0, hy1, hy2⟩ := info_parts infoPN9
  have hOn : O.n = om := (po_at hO).1
  have hDn := hRN.1
  have hl : Lo D i := fun j hj k hk => hRN.2.2.2.1 j (by omega) k hk
  have HTN := hide (tn_fT hl O)
  have hnm : (D.NM i).size ≤ 40 := nd_short (hRN.2.2.1 i hi)
  have hkl : (D.KL i).length ≤ 40 := by
    obtain ⟨c, hc⟩ := hRN.2.2.2.2.1 i hi
    rw [tr_eq] at hc
    have := fd_klen _ i c (fun j c _ hc => tr_le hc) hc
    rw [List.length_reverse] at this
    have := hRN.2.1
    omega
  have hkT : (kdsT D i).length = (D.KL i).length := kdsT_len
  have HFN := hide (fun t (ht : t ≤ (D.KL i).length) => fT_n hRN hi O t (by rw [hkT]; exact ht))
  rw [hkT] at HTN HFN
  have HKI := hide (fun t (ht : t < (D.KL i).length) => kids_in hRN hi ht)
  have HNX := hide (fun t (ht : t < (D.KL i).length) => fT_next (D := D) (i := i) (O := O) (m := t) (by rw [hkT]; exact ht))
  have HFL := hide (fun t (ht : t ≤ (D.KL i).length) => fT_len (D := D) (i := i) (O := O) (m := t) (by rw [hkT]; exact ht))
  obtain ⟨kad, kcp, ⟨c0, c1, c2, c3⟩, hkat, -⟩ := hW.row i (by omega)
  have hspot := hW.zk i hi kad _ _ c2
  have HI := hide hI
  have HW := hide hW
  have HKAT := hide (rwAt_up hkat (tuW_row hW))
  have HOB : Hid (∀ j, (Value.slice oa om ocp).ownBlock = some j → B ≤ j) := hide (fun j hj => by obtain ⟨xs, h1, -⟩ := hO; exact (h1.lt j hj).1)
  have H0 := hide (tns_new (Rp := fun j => j = R) hO (fun j hj => hj) (fun j hj => by have e : j = R := hj; subst e; exact ⟨lb_lt hR, lb_ot hR⟩) (D.K i) (D.NM i) kad (D.KL i).length kcp (D.OC i))
  have HLB := hide hR
  have hpb := cellsAt_cell hW.pb 0
  simp only [List.getElem?_toArray, List.getElem?_cons_zero] at hpb
  have hin : (i : Int) < (n : Int) := by omega
  have hi00 : (0 : Int) ≤ (i : Int) := by omega
  have hkindsb := hide (rn_kinds hRN hi)
  have hn40 := hRN.2.1
  clear hI hO hkat hl hRN hW hR
  go_enter Try.func41, Try.ntmps41
  go_wp2_with fail
  obtain ⟨wX, hwX⟩ : ∃ wX, w.alloc (.cells #[.int .i64 (D.K i), .string (D.NM i), .slice kad (D.KL i).length kcp, .int .i64 (D.OC i)] 46) = wX := ⟨_, rfl⟩
  have hXs : wX.heap.size = w.heap.size + 1 := by rw [← hwX]; simp
  have HAX : Hid (Below w.heap.size w wX) := hide (by rw [← hwX]; exact (Below.refl _ _).alloc (Nat.le_refl _) _)
  rw [hwX] at H0
  rw [hwX]
  clear hwX hpb c0 c1 c2 c3
  refine (i_clone kad _ kcp (D.KL i) _ rfl (by omega) (rwAt_up (rwAt_go HKAT.out HAX.out) HAX.out.size) hspot).mono ?_
  rintro e w1 ⟨qad, qc, rfl, hq, hb1⟩
  have HQ := hide hq
  have HB1 := hide hb1
  have H1 := hide (tns_kp H0.out (kp_of_below hb1))
  clear hq hb1
  obtain ⟨x0, x1, x2, x3⟩ := xn_cells H1.out.nd
  go_upto_if 19 with fail
  clear x0 x1 x2 x3
  go_cut [] (fun wx => Hid (Below wX.heap.size wX wx) ∧ Hid (wx.ownsRow wX.heap.size 2 1 (.slice qad (D.KL i).length qc) (D.KL i).length ((kdsT D i).map (Value.int .i64))))
  case first =>
    by_cases hK2 : D.K i = 2
    · have hK2b : (D.K i == 2) = true := by rw [hK2]; rfl
      have HKE : Hid (kdsT D i = (D.KL i).reverse) := hide (by unfold kdsT; rw [if_pos hK2])
      go_wp2_with fail
      refine (i_reverseA wX.heap.size qad _ qc (D.KL i) _ rfl (by omega) HQ.out).mono ?_
      rintro e w2 ⟨rfl, ho2, hb2⟩
      have HO2 := hide ho2
      have HB2 := hide (HB1.out.trans hb2)
      clear ho2 hb2
      go_wp2
      go_meet
      exact ⟨HB2, by rw [HKE.out]; exact HO2⟩
    · have hK2b : (D.K i == 2) = false := by simp [hK2]
      have HKE : Hid (kdsT D i = D.KL i) := hide (by unfold kdsT; rw [if_neg hK2])
      go_wp2
      go_meet
      exact ⟨HB1, by rw [HKE.out]; exact HQ⟩
  case rest =>
    obtain ⟨HB2, HQ2⟩ := hcut
    have H2 := hide (tns_kp H0.out (kp_of_below HB2.out))
    have HLB2 : Hid (LB wc R oa om ocp) := hide ((HB2.out.block R (by have := lb_lt HLB.out; omega)).trans ((HAX.out.block R (lb_lt HLB.out)).trans HLB.out))
    clear H0 H1 HQ HB1
    obtain ⟨x0, x1, x2, x3⟩ := xn_cells H2.out.nd
    have f2 := xn_frozen H2.out.nd 2
    have hRX : R < w.heap.size := lb_lt HLB.out
    go_upto_block 0 with fail
    have H3 := hide (tns_x H2.out none 0 0)
    have HQ3 : Hid ((wc.setCell ⟨w.heap.size, 2, none⟩ (.slice none 0 0)).ownsRow 0 2 1 (.slice qad (D.KL i).length qc) (D.KL i).length ((kdsT D i).map (Value.int .i64))) := hide (gOwn_set (gOwn_lower HQ2.out (Nat.zero_le _)) _ _ (fun e => by have h9 : wX.heap.size ≤ w.heap.size := (HQ2.out.lt _ e).1; omega))
    have HLB3 : Hid (LB (wc.setCell ⟨w.heap.size, 2, none⟩ (.slice none 0 0)) R oa om ocp) := hide ((heap_setCell_far _ _ _ _ (by show w.heap.size ≠ R; omega)).trans HLB2.out)
    obtain ⟨wy, hwy⟩ : ∃ wy, wc.setCell ⟨w.heap.size, 2, none⟩ (.slice none 0 0) = wy := ⟨_, rfl⟩
    rw [hwy] at H3 HQ3 HLB3
    rw [hwy]
    clear hwy x0 x1 x2 x3 f2 H2 HLB2 HQ2 HB2
    go_wp2_with fail
    go_loopw [9, 25] (fun v9 v25 wr => ∃ (ad : Option Addr) (c : Nat) (kd : Option Addr) (kc t : Nat), v25 = .int .i64 t ∧ t ≤ (D.KL i).length ∧ Hid (TnS (fun j => j = R) B w S0 (Value.slice oa om ocp).ownBlock wr ad (fT D i O t).1.n c (fT D i O t).1 (D.K i) (D.NM i) kd (fT D i O t).2.length kc (D.OC i) kd (fT D i O t).2 kc) ∧ Hid (LB wr R ad (fT D i O t).1.n c) ∧ Hid (wr.ownsRow 0 2 1 (.slice qad (D.KL i).length qc) (D.KL i).length ((kdsT D i).map (Value.int .i64))) ∧ Hid (∀ j, (Value.slice kd (fT D i O t).2.length kc).ownBlock = some j → (Value.slice qad (D.KL i).length qc).ownBlock ≠ some j)) (fun _ v25 _ => (D.KL i).length - (intOf v25).toNat)
    case atStart =>
      refine ⟨oa, ocp, none, 0, 0, rfl, Nat.zero_le _, ?_, ?_, HQ3, hide (fun j hj => by cases hj)⟩
      · rw [fT_zero]; show Hid (TnS _ _ _ _ _ _ _ O.n _ _ _ _ _ _ _ _ _ [] _); rw [hOn]; exact H3
      · rw [fT_zero]; show Hid (LB _ _ _ O.n _); rw [hOn]; exact HLB3
    case round =>
      clear H3 HQ3 HLB3
      obtain ⟨ad, c, kd, kc, t, rfl, ht, HS, HLR, HQR, HNE⟩ := hrel
      have HWR := hide (tuW_kp HW.out ⟨HS.out.kp.os, HS.out.kp.tape, HS.out.kp.output, HS.out.kp.size, fun j hj hn9 => HS.out.kp.block j hj (fun h9 => hn9 (h9.imp (fun e => e) (fun e => HOB.out j e)))⟩)
      obtain ⟨hf1, hf2, hf3⟩ := HFN.out t ht
      have HFL1 := hide (HFL.out t ht)
      have hfl : (fT D i O t).2.length ≤ 40 := by rw [HFL1.out]; omega
      by_cases hlt : t < (D.KL i).length
      · have hf4 := hf3 hlt
        have hti : (t : Int) < ((D.KL i).length : Int) := by omega
        have ht0 : (0 : Int) ≤ (t : Int) := by omega
        have HNX1 := hide (HNX.out t hlt)
        obtain ⟨hz1', hz2'⟩ := HKI.out t hlt
        have hcq : ∃ g, qad = some ⟨g, 0, none⟩ ∧ wr.cell? ⟨g, t, none⟩ = some (.int .i64 ((kdsT D i)[t]?.getD 0)) := by
          rcases HQR.out.2 with ⟨-, hz⟩ | ⟨g, cap9, cur, hv, -⟩
          · omega
          · simp only [Value.slice.injEq] at hv
            obtain ⟨rfl, -, rfl⟩ := hv
            refine ⟨g, rfl, ?_⟩
            rw [HQR.out.cellAt t (by omega), List.getElem?_map, List.getElem?_eq_getElem (by rw [hkT]; exact hlt)]
            rfl
        obtain ⟨qg, hqa, cq⟩ := hcq
        subst hqa
        obtain ⟨z, hz⟩ : ∃ z, (kdsT D i)[t]?.getD 0 = z := ⟨_, rfl⟩
        rw [hz] at hz1' hz2' hf4 HNX1 cq
        obtain ⟨P1, hP1⟩ : ∃ P1, (fT D i O t).1 = P1 := ⟨_, rfl⟩
        obtain ⟨P2, hP2⟩ : ∃ P2, (fT D i O t).2 = P2 := ⟨_, rfl⟩
        rw [hP1] at hf1 hf2 hf4 HNX1 HS HLR
        rw [hP2] at hfl HS HNX1 HNE
        obtain ⟨q, rfl⟩ : ∃ q : Nat, z = q := ⟨z.toNat, by omega⟩
        rw [show (((q : Nat) : Int)).toNat = q by omega] at hf4 HNX1
        have HD := hide (tns_kp HS.out (kp_drew wr))
        have HWD : Hid (TuW wr.drew D n b0 off cap PB TB R Bp B) := hide (tuW_kp HWR.out (kp_drew wr))
        have HLD : Hid (LB wr.drew R ad P1.n c) := hide HLR.out
        have hc2d := (xn_cells HD.out.nd).2.2.1
        have htb := cellsAt_cell HWD.out.tb 0
        simp only [List.getElem?_toArray, List.getElem?_cons_zero] at htb
        unfold turnV at htb
        clear hz hP1 hP2 hf3
        go_wp2_with fail
        go_region_law (first
          | (go_simp; go_at_call 41; refine (HI.out q (by omega) _ ad P1.n c P1 wr.drew HWD.out HLD.out HD.out.po (by omega)).mono ?_; rintro e w8 ⟨ad8, c8, rfl, hL8, hA8⟩; have HL8 := hide hL8; have H8 := hide (tns_rec HD.out hA8); have HQ8 := hide (own_kp (show wr.drew.ownsRow _ _ _ _ _ _ from HQR.out) hA8.2.1 (fun j hj e9 => trn_apart HD.out HQR.out hj e9)); have hc8 := (xn_cells H8.out.nd).2.2.1; have hc8a : ∀ o, (w8.alloc o).cell? ⟨w.heap.size, 2, none⟩ = some (.slice kd P2.length kc) := (fun o => (xn_cells (tns_kp H8.out (kp_alloc w8 o)).nd).2.2.1); clear hL8 hA8)
          | (refine step_append_lies _ (by rfl) _ _ _ (by rfl) 0 2 i0 _ 1 8 Try.underlying44 hi0 hz0 hz1 hz2 rfl (by omega) (.slice kd P2.length kc) P2.length (P2.map (Value.int .i64)) (by rfl) (World.ownsRow.alloc H8.out.kd _) ⟨w8.heap.size, 0, none⟩ 1 1 [.int .i64 (((tn D q P1).n : Int) - 1)] (by rfl) (by rfl) (World.news_of_block (cs := #[.int .i64 (((tn D q P1).n : Int) - 1)]) (t := 2) (fr := (0, 0)) (heap_alloc_new w8 _)) (by simp [Value.oneCell']) (by omega) (by unfold maxLen; omega) (by omega) (Nat.zero_le _) (w8.heap.size + 1) (by simp) ?_; intro gg cap' w9 hown9 hgrow9 hat9 hlt9; have H9 := hide (tns_kid (x := ((tn D q P1).n : Int) - 1) H8.out hown9 hgrow9 hat9); have HQ9 := hide (trn_kid HQ8.out HNE.out hgrow9 hat9); have HL9 : Hid (LB w9 R ad8 (tn D q P1).n c8) := hide (trn_lb H8.out HL8.out hgrow9); have hf9 := xn_frozen H9.out.nd 2; have hc9 := (xn_cells H9.out.nd).2.2.1; clear hown9 hgrow9 hat9)
          | (fail))
        all_goals
          go_wp2
          go_roundw
          case rel =>
            refine ⟨ad8, c8, some ⟨gg, 0, none⟩, cap', t + 1, by go_num, by omega, ?_, ?_, ?_, ?_⟩
            · rw [HNX1.out]
              have h9 := tns_x H9.out (some ⟨gg, 0, none⟩) (P2.length + 1) cap'
              show Hid (TnS _ _ _ _ _ _ _ _ _ _ _ _ _ (P2 ++ [_]).length _ _ _ _ _)
              rw [show (P2 ++ [((tn D q P1).n : Int) - 1]).length = P2.length + 1 by simp]
              exact hide h9
            · rw [HNX1.out]
              exact hide ((heap_setCell_far _ _ _ _ (by show w.heap.size ≠ R; omega)).trans HL9.out)
            · exact hide (gOwn_set HQ9.out.1 _ _ (fun e => by have := type_ne HQ9.out.1 e H9.out.nd (by decide); exact this rfl))
            · rw [HNX1.out]
              exact hide (fun j hj => HQ9.out.2 j (by simpa [Value.ownBlock] using hj))
          case measure => simp [intOf]; omega
      · have hti : ¬ (t : Int) < ((D.KL i).length : Int) := by omega
        have htl : t = (D.KL i).length := by omega
        subst htl
        obtain ⟨P1, hP1⟩ : ∃ P1, (fT D i O (D.KL i).length).1 = P1 := ⟨_, rfl⟩
        obtain ⟨P2, hP2⟩ : ∃ P2, (fT D i O (D.KL i).length).2 = P2 := ⟨_, rfl⟩
        rw [hP1] at hf1 hf2 HTN HS HLR
        rw [hP2] at hfl HS HTN
        obtain ⟨xs, hxo, hxs, hdj⟩ := HS.out.po
        have HXO := hide hxo
        have HXS := hide hxs
        have HDJ := hide hdj
        have cR := lb_cell HLR.out
        obtain ⟨x0, x1, x2, x3⟩ := xn_cells HS.out.nd
        have hBw : B ≤ wr.heap.size := HWR.out.sz
        clear hP1 hP2 hf3 hxo hxs hdj
        go_wp2_with (at_builtin; refine wpList_append_lies _ (by rfl) (.tmp 38) (.tmp 40) 24 (by rfl) B 46 i1 _ 4 56 Try.underlying24 hi1 hy0 hy1 hy2 rfl (by omega) (.slice ad P1.n c) P1.n xs (by rfl) (World.ownsRow.alloc HXO.out _) ⟨wr.heap.size, 0, none⟩ 1 1 [.int .i64 (D.K i), .string (D.NM i), .slice kd P2.length kc, .int .i64 (D.OC i)] (by rfl) (by rfl) (World.news_of_block (cs := #[.int .i64 (D.K i), .string (D.NM i), .slice kd P2.length kc, .int .i64 (D.OC i)]) (t := 46) (fr := (0, 0)) (heap_alloc_new wr _)) (by simp [Value.oneCell']) (by omega) (by unfold maxLen; omega) (by omega) (by simp; omega) (wr.heap.size + 1) (by simp) ?_; intro gg cc8 w8 hown8 hgrow8 hat8 hlt8; have HS3 := hide (tns_push HS.out HXS.out HXO.out HDJ.out (by omega) (by omega) hown8 hgrow8 hat8); have HL8 : Hid (LB w8 R ad P1.n c) := hide (((HS3.out.2.2.2 R rfl).2).trans HLR.out); have c8 := lb_cell HL8.out; have f8 := lb_frozen HL8.out; clear hown8 hgrow8 hat8)
        go_ret
        have hTn : (tn D i O).n = P1.n + 1 := by rw [HTN.out]; rfl
        obtain ⟨k1, k2, k3, k4⟩ := HS3.out
        have ks : Kp (fun j => j = R) w8 (w8.setCell ⟨R, 0, none⟩ (.slice (some ⟨gg, 0, none⟩) (P1.n + 1) cc8)) := kp_set (S := fun j => j = R) _ _ _ rfl
        have hL9 := lb_set HL8.out (some ⟨gg, 0, none⟩) (P1.n + 1) cc8
        refine ⟨?_, some ⟨gg, 0, none⟩, cc8, ?_, ?_, k2.trans ks (fun j _ hj => .inl hj), ?_, fun j hj => ?_⟩
        · have e9 : ((P1.n + 1 : Nat) : Int) - 1 = (P1.n : Int) := by omega
          rw [hTn, e9]
          rfl
        · rw [hTn]; exact hL9
        · rw [hTn, HTN.out]
          exact po_kp k1 ks (fun j hj e => by obtain ⟨ys, hy, -⟩ := k1; have e9 : j = R := e; subst e9; exact ot_ne2 (lb_ot HL8.out) hy hj rfl) (fun B' z n v ys j hv hj _ e => by have e9 : j = R := e; subst e9; exact ot_ne1 (lb_ot HL8.out) hv hj rfl)
        · rw [hTn]
          intro j hj
          have e : gg = j := by simpa [Value.ownBlock] using hj
          subst e
          exact k3
        · have e : j = R := hj
          subst e
          exact lb_ot hL9
theorem i_turn (D : Pn) (n b0 off cap PB TB R Bp B : Nat) (hRN : RN D n) : ∀ (f i : Nat), i < f → i < n → ∀ (S0 : Nat → Prop) (oa : Option Addr) (om ocp : Nat) (O : Pn) (w : World), TuW w D n b0 off cap PB TB R Bp B → LB w R oa om ocp → PO B S0 w oa om ocp O → (tn D i O).n ≤ 100 →
    Calls Try.prog 41 #[.int .i64 i, .pointer (some ⟨PB, 0, none⟩), .pointer (some ⟨TB, 0, none⟩), .pointer (some ⟨R, 0, none⟩)] w fun r w' => ∃ ad c, r = .returned (.int .i64 (((tn D i O).n : Int) - 1)) ∧ LB w' R ad (tn D i O).n c ∧ TrnA (fun j => j = R) B (tn D i O) (.slice oa om ocp) S0 w w' ad (tn D i O).n c
  | 0, i, hf, hi, S0, oa, om, ocp, O, w, hW, hR, hO, hlim => by omega
  | f + 1, i, hf, hi, S0, oa, om, ocp, O, w, hW, hR, hO, hlim => i_turnF D n b0 off cap PB TB R Bp B hRN i hi S0 oa om ocp O w hW hR hO hlim (fun q hq => i_turn D n b0 off cap PB TB R Bp B hRN f q (by omega) (by omega))
end Go.Proofs.Ytfohfljdgmlibaa
