/-
  Texts put together: TrW, TabOf, TzTab.
-/
import Derived.Test.YtfohfljdgmlibaaDoorU23
import Derived.Test.YtfohfljdgmlibaaDoorU30
import Derived.Test.YtfohfljdgmlibaaDoorU31
import Derived.Test.YtfohfljdgmlibaaDoorU12
import Derived.WalkKit
import Derived.ProofKit
import Derived.Below
import Derived.Lib.SmallJoins
import Derived.Lib.LaidIn
import Derived.Lib.LaidU8T
import Derived.Test.YtfohfljdgmlibaaDoorU1
import Derived.Lib.LaidTab
/-
  The walk of FnTurned: whatever the code is, the drawn model turned round is the specification's, turned again it is as it was, takes names from behind, and is as nullable.
-/
namespace Go.Proofs.YtfohfljdgmlibaaDoor
open Go.RowKit Go.Joins
set_option linter.unusedVariables false
set_option linter.unusedSimpArgs false
theorem poT_below {B : Nat} {S : Nat → Prop} {w w' : World} {ad : Option Addr} {m c : Nat} {D : Pn} (h : PO B S w ad m c D) (hb : Below w.heap.size w w') : PO B S w' ad m c D := po_kp (T := fun _ => False) h ⟨hb.os, hb.tape, hb.output, hb.size, fun k hk _ => hb.block k hk⟩ (fun _ _ x => x) (fun _ _ _ _ _ _ _ _ _ x => x)
theorem own_spot {w : World} {B e z n : Nat} {ad : Option Addr} {l c : Nat} {xs : List Value} (h : w.ownsRow B e z (.slice ad l c) n xs) : ∀ x, ad = some x → x.spot = none := by
  intro x hx
  subst hx
  rcases h.2 with ⟨hv, hz⟩ | ⟨g, cap, cur, hv, hB, hh, -⟩
  · cases hv
  · simp only [Value.slice.injEq] at hv
    rw [Option.some.inj hv.1]
theorem po_spots {B : Nat} {S : Nat → Prop} {w : World} {a : Option Addr} {m c : Nat} {D : Pn} (h : PO B S w a m c D) : ∀ b0 off, a = some ⟨b0, off, none⟩ → ∀ j, j < m → ∀ ad l cp, w.cell? ⟨b0, off + j * 4 + 2, none⟩ = some (.slice ad l cp) → ∀ x, ad = some x → x.spot = none := by
  intro b0 off ha j hj ad l cp hc
  subst ha
  obtain ⟨xs, h1, h2, -⟩ := h
  obtain ⟨ad', cp', ⟨-, -, h3, -⟩, h4, -⟩ := h2.2 j hj
  have hl := h1.1
  rcases h1.2 with ⟨hv, hz⟩ | ⟨g, cap, cur, hv, hB, hh, -⟩
  · cases hv
  · simp only [Value.slice.injEq] at hv
    have hv1 := Option.some.inj hv.1
    simp only [Addr.mk.injEq] at hv1
    obtain ⟨rfl, rfl, -⟩ := hv1
    have h5 := h1.cellAt (j * 4 + 2) (by omega)
    rw [Nat.zero_add] at hc
    have h6 := hc.symm.trans (h5.trans h3)
    simp only [Option.some.injEq, Value.slice.injEq] at h6
    rw [h6.1]
    exact own_spot h4
theorem pnAt_like {w : World} {a : Option Addr} {D D' : Pn} {B : Nat} (h : PnAt w a D B) (hn : D'.n = D.n) (hE : Ext D' D) : PnAt w a D' B := by
  intro h0
  obtain ⟨b, off, ha, hb, hr⟩ := h (by omega)
  refine ⟨b, off, ha, hb, fun j hj => ?_⟩
  obtain ⟨e1, e2, e3, e4⟩ := hE.2 j hj
  obtain ⟨ad, cp, ⟨c0, c1, c2, c3⟩, h2, h3⟩ := hr j (by omega)
  rw [e1] at c0
  rw [e2] at c1
  rw [e3] at c2 h2 h3
  rw [e4] at c3
  exact ⟨ad, cp, ⟨c0, c1, c2, c3⟩, h2, h3⟩
set_option maxHeartbeats 2000000 in
theorem d_acceptsT (a : Option Addr) (n cap : Nat) (zs : List Int) (w : World) (hl : zs.length = n) (hz : ∀ x ∈ zs, 0 ≤ x ∧ x ≤ 255) (hn : n ≤ 1048576) (hs : SrcAt w a zs w.heap.size) :
    Calls Tryd.prog 8 #[.slice a n cap] w fun e w' => ∃ ad m c D sa sc T, e = .returned (.tuple #[.slice ad m c, .slice sa T.length sc]) ∧ PO (w.heap.size + 1) (fun j => w.heap.size < j) w' ad m c D ∧ m ≤ 40 ∧ T.length ≤ 6 ∧ TxAt w' sa T w'.heap.size ∧ Below w.heap.size w w' := by
  have HS := hide hs
  have HL := hide hl
  have HZ := hide hz
  clear hs hl hz
  go_enter Tryd.func8, Tryd.ntmps8
  go_wp2_with fail
  refine (d_open a n cap zs _ HL.out HZ.out hn HS.out).mono ?_
  rintro e w1 ⟨rfl, hrd, hb1⟩
  have HRD := hide hrd
  have HB1 := hide hb1
  clear hrd hb1
  go_wp2_with fail
  refine (d_model w.heap.size a n cap zs _ HRD.out).mono ?_
  rintro e w2 ⟨ad, m, c, D, rfl, hM⟩
  have HM := hide hM
  clear hM
  go_wp2_with fail
  refine (d_row w.heap.size a n cap zs _ _ ad m c D HM.out).mono ?_
  rintro e w3 ⟨sa, sc, T, rfl, hT6, hR⟩
  have HR := hide hR
  clear hR
  go_wp2
  go_ret2
  exact ⟨ad, m, c, D, sa, sc, T, rfl, HR.out.md.2.1, HR.out.md.2.2, hT6, tx_own HR.out.tx, HB1.out.trans HR.out.md.1.2⟩
/-- The drawn model, the names, and the model turned round. -/
structure TrR (w wr : World) (ad : Option Addr) (m c : Nat) (D : Pn) (sa : Option Addr) (W : List ByteArray) : Prop where
  po : PO (w.heap.size + 1) (fun j => w.heap.size < j) wr ad m c D
  m40 : m ≤ 40
  tx : TxAt wr sa W wr.heap.size
  be : Below w.heap.size w wr
/-- A model turned round lies there. -/
def QuR (wr : World) (qa : Option Addr) (qn qc : Nat) (Q : Pn) : Prop := qn ≤ 40 ∧ ∃ B S, PO B S wr qa qn qc Q
theorem trr_go {w wr w1 : World} {ad : Option Addr} {m c : Nat} {D : Pn} {sa : Option Addr} {W : List ByteArray} (h : TrR w wr ad m c D sa W) (hb : Below wr.heap.size wr w1) : TrR w w1 ad m c D sa W := ⟨poT_below h.po hb, h.m40, tx_up (tx_go h.tx hb) hb.size, h.be.trans (hb.mono h.be.size)⟩
theorem qur_go {wr w1 : World} {qa : Option Addr} {qn qc : Nat} {Q : Pn} (h : QuR wr qa qn qc Q) (hb : Below wr.heap.size wr w1) : QuR w1 qa qn qc Q := by
  obtain ⟨h0, B, S, h⟩ := h
  exact ⟨h0, B, S, poT_below h hb⟩
theorem QuR.n {wr : World} {qa : Option Addr} {qn qc : Nat} {Q : Pn} (h : QuR wr qa qn qc Q) : Q.n = qn := by
  obtain ⟨h0, B, S, h⟩ := h
  exact (po_at h).1
theorem QuR.tot {wr : World} {qa : Option Addr} {qn qc : Nat} {Q : Pn} (h : QuR wr qa qn qc Q) : pnTot Q ≤ 1048576 := by
  obtain ⟨h0, B, S, h⟩ := h
  exact po_tot h (by omega)
theorem QuR.at {wr : World} {qa : Option Addr} {qn qc : Nat} {Q : Pn} (h : QuR wr qa qn qc Q) : PnAt wr qa Q wr.heap.size := by
  obtain ⟨h0, B, S, h⟩ := h
  exact (po_at h).2
theorem QuR.spot {wr : World} {qa : Option Addr} {qn qc : Nat} {Q : Pn} (h : QuR wr qa qn qc Q) : ∀ b0 off, qa = some ⟨b0, off, none⟩ → ∀ j, j < qn → ∀ ad l cp, wr.cell? ⟨b0, off + j * 4 + 2, none⟩ = some (.slice ad l cp) → ∀ x, ad = some x → x.spot = none := by
  obtain ⟨h0, B, S, h⟩ := h
  exact po_spots h
theorem QuR.len {wr : World} {qa : Option Addr} {qn qc : Nat} {Q : Pn} (h : QuR wr qa qn qc Q) : ∀ j, j < qn → (Q.KL j).length ≤ 1048576 := by
  obtain ⟨h0, B, S, xs, -, h2, -⟩ := h
  intro j hj
  obtain ⟨_, _, -, -, -, -, h3⟩ := h2.2 j hj
  omega
theorem TrR.q {w wr : World} {ad : Option Addr} {m c : Nat} {D : Pn} {sa : Option Addr} {W : List ByteArray} (h : TrR w wr ad m c D sa W) : QuR wr ad m c D := ⟨h.m40, _, _, h.po⟩
theorem qu_of {D : Pn} {w w' : World} {ad : Option Addr} {c n : Nat} (hD : D.n = n) (hz : pnTot D ≤ 1048576) (h : PO w.heap.size (fun j => w.heap.size ≤ j) w' ad (tuV D).n c (tuV D)) : QuR w' ad (tuV D).n c (tuV D) := ⟨tuV_n hD hz, _, _, h⟩
theorem rev_take {W : List ByteArray} {k j : Nat} (h : j + 1 + k = W.length) : W.reverse.take (k + 1) = W.reverse.take k ++ [W[j]?.getD ⟨#[]⟩] := by
  have hk : k < W.reverse.length := by rw [List.length_reverse]; omega
  rw [List.take_succ_eq_append_getElem hk, List.getElem_reverse, List.getElem?_eq_getElem (by omega), Option.getD_some]
  congr 3
  omega
set_option maxRecDepth 100000 in
set_option maxHeartbeats 16000000 in
theorem turn_walk (a : Option Addr) (n cap : Nat) (zs : List Int) (w : World) (hl : zs.length = n) (hz : ∀ x ∈ zs, 0 ≤ x ∧ x ≤ 255) (hn : n ≤ 1048576) (hs : SrcAt w a zs w.heap.size) (hT : TzT w) :
    Calls Tryd.prog 6 #[.slice a n cap] w fun e w' => e = .returned (.bool true) ∧ Below w.heap.size w w' := by
  obtain ⟨i0, hi0, hz0, hz1, hz2⟩ := info_parts infoStr9
  have HS := hide hs
  have HL := hide hl
  have HZ := hide hz
  have HT := hide hT
  have hn' : ¬ (1048576 : Int) < (n : Int) := by omega
  clear hs hl hz hT
  go_enter Tryd.func6, Tryd.ntmps6
  go_wp2_with (go_at_call 7; go_in)
  refine (d_acceptsT a n cap zs _ HL.out HZ.out hn HS.out).mono ?_
  rintro e w1 ⟨ad, m, c, D, sa, sc, W, rfl, hPO, hm40, hW6, hTx, hb1⟩
  have HR1 : Hid (TrR w w1 ad m c D sa W) := hide ⟨hPO, hm40, hTx, hb1⟩
  have HDn := hide (po_at hPO).1
  have HTOT := hide HR1.out.q.tot
  clear hPO hTx hb1
  go_wp2_with fail
  refine (i_turned D m ad c _ HDn.out HTOT.out HR1.out.q.at HR1.out.q.spot).mono ?_
  rintro e w2 ⟨qa, qc, rfl, hq, hb2⟩
  have HQ2 := hide (qu_of HDn.out HTOT.out hq)
  have HR2 := hide (trr_go HR1.out hb2)
  clear hq hb2 HR1
  go_wp2_with fail
  refine (s_turned D m ad c _ HDn.out HTOT.out HR2.out.q.at).mono ?_
  rintro e w3 ⟨ka, kc, rfl, hk, hb3⟩
  have HK3 := hide (qu_of HDn.out HTOT.out hk)
  have HQ3 := hide (qur_go HQ2.out hb3)
  have HR3 := hide (trr_go HR2.out hb3)
  clear hk hb3 HR2 HQ2
  have HPB : Hid (pkB D = true → pkB (tuV D) = true ∧ ((tuV (tuV D)).n = D.n ∧ Ext (tuV (tuV D)) D) ∧ (∀ W, AcP (tuV D) W.reverse ↔ AcP D W) ∧ nl (tuV D) ((tuV D).n - 1) = nl D (D.n - 1)) := hide (fun h => ⟨tu_pk h, tu_back h, tu_ac h, tu_nl h⟩)
  obtain ⟨Q, hQ⟩ : ∃ Q, tuV D = Q := ⟨_, rfl⟩
  obtain ⟨ok, hok⟩ : ∃ ok, pkB D = ok := ⟨_, rfl⟩
  have HOK := hide hok
  rw [hQ] at HQ3 HK3 HPB
  rw [hQ, hok]
  obtain ⟨N, hN⟩ : ∃ N, Q.n = N := ⟨_, rfl⟩
  have HN := hide hN
  rw [hN] at HQ3 HK3
  rw [hN]
  clear hQ hok hN
  have hN40 : N ≤ 40 := HQ3.out.1
  have hoo : (ok != ok) = false := by simp
  have hoe : (ok == ok) = true := by simp
  go_wp2_with fail
  refine (l_sameParts Q N qa ka qc kc _ HN.out (by omega) HQ3.out.len HQ3.out.at HK3.out.at).mono ?_
  rintro e w4 ⟨rfl, hb4⟩
  have HK4 := hide (qur_go HK3.out hb4)
  have HQ4 := hide (qur_go HQ3.out hb4)
  have HR4 := hide (trr_go HR3.out hb4)
  clear hb4 HR3 HQ3 HK3
  cases ok
  · go_wp2_with fail
    refine (l_sameParts Q N qa ka qc kc _ HN.out (by omega) HQ4.out.len HQ4.out.at HK4.out.at).mono ?_
    rintro e w5 ⟨rfl, hb5⟩
    have HR5 := hide (trr_go HR4.out hb5)
    clear hb5 HR4
    go_wp2
    go_ret
    exact ⟨rfl, HR5.out.be⟩
  · obtain ⟨hpkQ, hbk, hac, hnl⟩ := HPB.out HOK.out
    have HPQ := hide hpkQ
    have HBK := hide hbk
    have HAC := hide (hac W)
    have HNL := hide hnl
    clear hpkQ hbk hac hnl HPB HK4
    have HO0 : Hid ((w4.alloc (.cells #[] 9)).ownsRow w4.heap.size 9 1 (.slice (some ⟨w4.heap.size, 0, none⟩) 0 0) 0 ([] : List Value)) := hide (World.ownsRow_lit w4 #[] 0 (Nat.le_refl _) (Nat.zero_le _) rfl)
    go_wp2_with fail
    go_loopw [9, 10] (fun v9 v10 wr => ∃ (i k : Nat) (ba : Option Addr) (bc : Nat), v9 = .slice ba k bc ∧ v10 = .int .i64 ((i : Int) - 1) ∧ i + k = W.length ∧ Hid (wr.ownsRow w4.heap.size 9 1 (.slice ba k bc) k ((W.reverse.take k).map Value.string)) ∧ Hid (Below w4.heap.size w4 wr)) (fun _ v10 _ => (intOf v10 + 1).toNat)
    case atStart => exact ⟨W.length, 0, some ⟨w4.heap.size, 0, none⟩, 0, rfl, rfl, Nat.add_zero _, HO0, hide ((Below.refl _ _).alloc (Nat.le_refl _) _)⟩
    case round =>
      obtain ⟨i, k, ba, bc, rfl, rfl, hik, HO, HB⟩ := hrel
      cases i with
      | succ j =>
        have hjW : j < W.length := by omega
        obtain ⟨tb, toff, hta, htb, htc⟩ := tx_cell HR4.out.tx j hjW
        have n1 := (HB.out.cell (p := ⟨tb, toff + j, none⟩) htb).trans (htc j hjW)
        have HTK := hide (rev_take (W := W) (k := k) (j := j) hik)
        obtain ⟨s, hs9⟩ : ∃ s, W[j]?.getD ⟨#[]⟩ = s := ⟨_, rfl⟩
        rw [hs9] at n1 HTK
        have ej : (((j + 1 : Nat) : Int) - 1) = (j : Int) := by omega
        rw [ej]
        subst hta
        have hj0 : (0 : Int) ≤ (j : Int) := by omega
        have hji : (j : Int) < (W.length : Int) := by omega
        have hs2 : w4.heap.size ≤ wr.heap.size := HB.out.size
        have hk6 : k ≤ 6 := by omega
        have HIK := hide hik
        clear htc hs9 ej hik
        go_wp2_with (first | (at_builtin; refine wpList_append_own _ rfl (.tmp 59) (.tmp 64) 25 rfl w4.heap.size 9 i0 (.string ByteArray.empty) 1 16 Tryd.underlying25 hi0 hz0 hz1 hz2 rfl (by decide) _ _ _ rfl (HO.out.alloc _) ⟨wr.heap.size, 0, none⟩ 1 1 [.string s] rfl rfl (fun j u hj => gOne_new wr _ _ j u hj) (gStr_list _) (by unfold maxLen; omega) (by omega) (by simp; omega) ?_; intro v2 w6 hown2 hgrow2 _; obtain ⟨ad2, c2', hv2⟩ := gOwn_shape hown2; rw [hv2] at hown2 ⊢; clear hv2; have HB6 := hide (gBelow_one HB.out HO.out hgrow2); have HO6 := hide hown2; clear hown2 hgrow2))
        go_roundw
        case rel =>
          refine ⟨j, k + 1, ad2, c2', rfl, by go_num, by have := HIK.out; omega, hide ?_, HB6⟩
          rw [HTK.out, List.map_append]
          exact HO6.out
        case measure =>
          simp [intOf]
          try omega
      | zero =>
        have hkW : k = W.length := by omega
        have HWR : Hid (W.reverse.take k = W.reverse) := hide (List.take_of_length_le (by rw [List.length_reverse, hkW]; exact Nat.le_refl _))
        have HBT : Hid (TxAt wr ba W.reverse wr.heap.size) := hide (by have h := HO.out; rw [HWR.out] at h; exact tx_own h)
        have HQ5 := hide (qur_go HQ4.out HB.out)
        have HR5 := hide (trr_go HR4.out HB.out)
        have HKW := hide hkW
        have e1 : (((0 : Nat) : Int) - 1) = -1 := by omega
        rw [e1]
        have hk6 : k ≤ 6 := by omega
        have HRL : Hid (W.reverse.length = k) := hide (by rw [List.length_reverse, hkW])
        clear HR4 HQ4 HO HB HWR hkW e1 hik
        go_wp2_with fail
        refine (i_turned Q N qa qc _ HN.out HQ5.out.tot HQ5.out.at HQ5.out.spot).mono ?_
        rintro e w6 ⟨ra, rc, rfl, hr, hb6⟩
        have HU6 := hide (qu_of HN.out HQ5.out.tot hr)
        have HQ6 := hide (qur_go HQ5.out hb6)
        have HR6 := hide (trr_go HR5.out hb6)
        have HBT6 := hide (tx_up (tx_go HBT.out hb6) hb6.size)
        have hRn : (tuV Q).n = m := by rw [HBK.out.1, HDn.out]
        have HRn := hide hRn
        rw [hRn] at HU6
        rw [hRn, HPQ.out]
        clear hr hb6 HQ5 HR5 HBT hRn
        go_wp2_with fail
        refine (l_sameParts (tuV Q) m ra ad rc c _ HRn.out (by omega) HU6.out.len HU6.out.at (pnAt_like HR6.out.q.at HBK.out.1 HBK.out.2)).mono ?_
        rintro e w7 ⟨rfl, hb7⟩
        have HQ7 := hide (qur_go HQ6.out hb7)
        have HR7 := hide (trr_go HR6.out hb7)
        have HBT7 := hide (tx_up (tx_go HBT6.out hb7) hb7.size)
        clear hb7 HQ6 HR6 HBT6 HU6
        go_wp2_with fail
        refine (i_accepts Q N qa qc W.reverse k ba bc _ HN.out HQ7.out.tot HQ7.out.at HRL.out (by omega) HBT7.out (tzT_go HT.out HR7.out.be (Nat.le_refl _))).mono ?_
        rintro e w8 ⟨B1, rfl, hB1, hb8⟩
        have HQ8 := hide (qur_go HQ7.out hb8)
        have HR8 := hide (trr_go HR7.out hb8)
        clear hb8 HQ7 HR7 HBT7
        go_wp2_with fail
        refine (i_accepts D m ad c W W.length sa sc _ HDn.out HTOT.out HR8.out.q.at rfl (by omega) HR8.out.tx (tzT_go HT.out HR8.out.be (Nat.le_refl _))).mono ?_
        rintro e w9 ⟨B2, rfl, hB2, hb9⟩
        have HQ9 := hide (qur_go HQ8.out hb9)
        have HR9 := hide (trr_go HR8.out hb9)
        have hBB : B1 = B2 := by
          have h1 := hB1.trans (HAC.out.trans hB2.symm)
          cases B1 <;> cases B2 <;> simp_all
        subst hBB
        have hbb : (B1 == B1) = true := by simp
        clear hb9 HQ8 HR8 hB1 hB2
        go_wp2_with fail
        refine (i_nullable Q N qa qc _ HN.out HQ9.out.tot HQ9.out.at (tzT_go HT.out HR9.out.be (Nat.le_refl _))).mono ?_
        rintro e wA ⟨rfl, hbA⟩
        have HRA := hide (trr_go HR9.out hbA)
        obtain ⟨z, hzz⟩ : ∃ z, nl D (D.n - 1) = z := ⟨_, rfl⟩
        have HZZ := hide hzz
        rw [HPQ.out, HNL.out, hzz, Bool.true_and]
        clear hzz
        clear hbA HQ9 HR9
        go_wp2_with fail
        refine (i_nullable D m ad c _ HDn.out HTOT.out HRA.out.q.at (tzT_go HT.out HRA.out.be (Nat.le_refl _))).mono ?_
        rintro e wB ⟨rfl, hbB⟩
        have HRB := hide (trr_go HRA.out hbB)
        rw [HOK.out, HZZ.out, Bool.true_and]
        have hze : (z == z) = true := by simp
        clear hbB HRA
        go_wp2
        go_ret
        exact ⟨rfl, HRB.out.be⟩
end Go.Proofs.YtfohfljdgmlibaaDoor

/-
  A table of numbers that lies as its initialiser laid it, as a list: of no program.
-/
namespace Go.Proofs.YtfohfljdgmlibaaDoor
open Go.RowKit Go.Joins
theorem tabis_of {P : Program} {W : World} {name : String} {k : IntKind} {zs : List Int} {g : Nat} {t e : TypeId} {n : Nat} (hg : P.globalNamed name = some g) (hty : (P.globals[g]?).map (·.type) = some t) (ht : P.underlying t = some (.array n e)) (he : P.underlying e = some (.int k)) (hce : P.cellsOf e = 1) (hct : P.cellsOf t = n)
    (h : Lib.VarReads P W name (Lib.tabData k zs)) : Lib.TabIs P W name k zs := by
  obtain ⟨g', t', cs, fuel, p, hg', ht', hvar, hd⟩ := h
  obtain rfl := Option.some.inj (hg.symm.trans hg')
  obtain rfl := Option.some.inj (hty.symm.trans ht')
  have e := Lib.cells_of_tab ht he hce hct hd
  unfold Lib.TabIs
  rw [hvar]; congr 1; cases cs; simp at e; rw [e]
end Go.Proofs.YtfohfljdgmlibaaDoor

/-
  The library's table of places of bits, as its initialiser lays it.
-/
namespace Go.Proofs.YtfohfljdgmlibaaDoor
open Go.RowKit Go.Joins
theorem tz_of {w : World} (h : Lib.TabIs Tryd.prog w "math/bits.deBruijn64tab" .u8 (Lib.deBruijn64tab.map Int.ofNat)) : TzT w := fun j hj => by
  have hc := Lib.TabIs.cell h (g := 0) (by kernel_rfl) j (by rw [List.length_map]; exact hj)
  rw [hc]
  congr 2
  rw [List.getD_eq_getElem?_getD, List.getD_eq_getElem?_getD, List.getElem?_map, List.getElem?_eq_getElem hj]
  rfl
end Go.Proofs.YtfohfljdgmlibaaDoor
