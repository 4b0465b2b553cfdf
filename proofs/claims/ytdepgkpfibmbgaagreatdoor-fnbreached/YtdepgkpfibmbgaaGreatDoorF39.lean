/-
  Texts put together: BrP, BrM.
-/
import Derived.Test.YtdepgkpfibmbgaaGreatDoorF38
import Derived.Test.YtdepgkpfibmbgaaGreatDoorF35
/-
  Contract: the plans of a row of keys, by the program, with their rows.
-/
namespace Go.Proofs.YtdepgkpfibmbgaaGreatDoor
open Go.RowKit Go.Joins
set_option linter.unusedVariables false
set_option linter.unusedSimpArgs false
/-- A plan's rows. -/
def PlW (B : Nat) (w : World) (p : Pl) : Prop := KeyOne p.k ∧ p.d = deepL p.k.pa.data.toList ∧ p.n1 = cntN (restL p.k.pa.data.toList) ∧ ∃ F, w.ownsRow B 9 1 (.slice p.a1 p.n1 p.c1) p.n1 (strV (sg [] (restL p.k.pa.data.toList))) ∧
  F.length = p.k.fl.length ∧ (∀ i, i < p.k.fl.length → fld (p.k.fl[i]?.getD ⟨#[]⟩).data.toList = some (fqA F i).q) ∧ w.ownsRow B 69 3 (.slice p.fa p.k.fl.length p.fc) p.k.fl.length (F.flatMap fqV) ∧ FqS B w F
section
variable {B : Nat} {w w' : World} {p : Pl} {Ps : List Pl}
theorem plw_go (h : PlW B w p) (hb : Below w.heap.size w w') : PlW B w' p := by
  obtain ⟨h1, h2, h3, F, h4, h5, h6, h7, h8⟩ := h
  exact ⟨h1, h2, h3, F, gOwn_after h4 hb, h5, h6, gOwn_after h7 hb, fqs_go h8 hb⟩
theorem plw_low {B' : Nat} (h : PlW B w p) (hB : B' ≤ B) : PlW B' w p := by
  obtain ⟨h1, h2, h3, F, h4, h5, h6, h7, h8⟩ := h
  exact ⟨h1, h2, h3, F, gOwn_lower h4 hB, h5, h6, gOwn_lower h7 hB, fqs_low h8 hB⟩
theorem plw_r (h : PlW B w p) (r : Int) : PlW B w { p with r := r } := h
theorem plw_grown {v : Value} {m z : Nat} {xs : List Value} {o : Obj} (h : PlW B w p) (ho : w.ownsRow B 59 z v m xs) (hg : (w.alloc o).grownBy w' v.ownBlock) : PlW B w' p := by
  obtain ⟨h1, h2, h3, F, h4, h5, h6, h7, h8⟩ := h
  exact ⟨h1, h2, h3, F, own_keptB (h4.alloc o) hg (own_apart h4 ho (by decide)), h5, h6, own_keptB (h7.alloc o) hg (own_apart h7 ho (by decide)), fqs_grown h8 ho (by decide) hg⟩
def PlsW (B : Nat) (w : World) (Ps : List Pl) : Prop := ∀ p ∈ Ps, PlW B w p
theorem pls_go (h : PlsW B w Ps) (hb : Below w.heap.size w w') : PlsW B w' Ps := fun p hp => plw_go (h p hp) hb
theorem pls_grown {v : Value} {m z : Nat} {xs : List Value} {o : Obj} (h : PlsW B w Ps) (ho : w.ownsRow B 59 z v m xs) (hg : (w.alloc o).grownBy w' v.ownBlock) : PlsW B w' Ps := fun p hp => plw_grown (h p hp) ho hg
theorem pls_put (h : PlsW B w Ps) (hp : PlW B w p) : PlsW B w (Ps ++ [p]) := fun q hq => by
  rcases List.mem_append.1 hq with hq | hq
  · exact h q hq
  · rw [List.mem_singleton] at hq; subst hq; exact hp
end
/-- Where the plans refer to. -/
def PlRf (Ps : List Pl) (k : Nat) : Prop := ∀ j, j < k → (plA Ps j).k.kd = 3 → ∃ q : Nat, (plA Ps j).r = q ∧ q < j ∧ (plA Ps q).k.nm = (plA Ps j).k.re
theorem plrf_more {Ps : List Pl} {k : Nat} {p : Pl} (hl : Ps.length = k) (h : PlRf Ps k) (hp : p.k.kd = 3 → ∃ j : Nat, p.r = j ∧ j < k ∧ (plA Ps j).k.nm = p.k.re) : PlRf (Ps ++ [p]) (k + 1) := fun j hj h3 => by
  by_cases e : j = k
  · subst e
    have hlast := plA_last Ps p
    rw [hl] at hlast
    rw [hlast] at h3 ⊢
    obtain ⟨q, a, b, c⟩ := hp h3
    exact ⟨q, a, b, by rw [plA_old (by omega)]; exact c⟩
  · rw [plA_old (by omega)] at h3 ⊢
    obtain ⟨q, a, b, c⟩ := h j (by omega) h3
    exact ⟨q, a, b, by rw [plA_old (by omega)]; exact c⟩
theorem i_plan3 (nm : ByteArray) (kd : Int) (on pa : ByteArray) (ad : Option Addr) (fl : List ByteArray) (fm cp : Nat) (re : ByteArray) (w : World) (hfm : fl.length = fm) (z0 : nm.size ≤ 1048576) (z1 : on.size ≤ 1048576) (z2 : pa.size ≤ 1048576) (z4 : fm ≤ 1048576) (z5 : ∀ i, i < fm → (fl[i]?.getD ⟨#[]⟩).size ≤ 1048576) (hat : TxAt w ad fl w.heap.size) (hM : MaxL w) :
    Calls Tryz.prog 24 #[.agg #[.string nm, .int .i64 kd, .string on, .string pa, .slice ad fm cp, .string re]] w (fun e w' => Below w.heap.size w w' ∧
      ((KeyOne ⟨nm, kd, on, pa, fl, re⟩ ∧ ∃ d a1 n1 c1 fa fc, e = .returned (.tuple #[.agg (plV ⟨⟨nm, kd, on, pa, fl, re⟩, ad, cp, d, a1, n1, c1, fa, fc, 0⟩).toArray, .bool true]) ∧ PlW w.heap.size w' ⟨⟨nm, kd, on, pa, fl, re⟩, ad, cp, d, a1, n1, c1, fa, fc, 0⟩) ∨
       (¬ KeyOne ⟨nm, kd, on, pa, fl, re⟩ ∧ e = .returned (.tuple #[.agg (plV pl0).toArray, .bool false])))) := by
  refine (i_plan2 nm kd on pa ad fl fm cp re w hfm z0 z1 z2 z4 z5 hat hM).mono ?_
  rintro e w' ⟨hb, ⟨h1, a1, c1, fa, fc, F, h2, h3, h4, h5, h6, h7⟩ | h⟩
  · exact ⟨hb, .inl ⟨h1, _, a1, _, c1, fa, fc, h2, h1, rfl, rfl, F, h3, h4, h5, h6, h7⟩⟩
  · exact ⟨hb, .inr h⟩
/-- What the plans are told as. -/
def PlsAns2 (L : List Ky) (n : Nat) (w : World) (e : Ending) (w' : World) : Prop := Below w.heap.size w w' ∧
  ((KeysP L ∧ ∃ ad c Ps, e = .returned (.tuple #[.slice ad n c, .bool true]) ∧ PlO w.heap.size w' ad n c Ps ∧ PlK L Ps n ∧ PlsW w.heap.size w' Ps ∧ PlRf Ps n) ∨ (¬ KeysP L ∧ e = .returned (.tuple #[.slice none 0 0, .bool false])))
set_option maxRecDepth 100000 in
set_option maxHeartbeats 8000000 in
theorem i_plans2 (L : List Ky) (n : Nat) (a : Option Addr) (c : Nat) (w : World) (hD : L.length = n) (hf : KyFewI L) (hr : KyAt w a L w.heap.size) (hM : MaxL w) :
    Calls Tryz.prog 34 #[.slice a n c] w (PlsAns2 L n w) := by
  have HD := hide hD
  have HF := hide hf
  have HR := hide hr
  have HM := hide hM
  have hn : n ≤ 1048576 := by rw [← hD]; exact hf.1
  clear hr hf hD hM
  by_cases hb0 : (10 : Int) < (n : Int)
  · go_enter Tryz.func34, Tryz.ntmps34
    go_wp2
    go_ret2
    exact ⟨Below.refl _ _, .inr ⟨fun H => by have := H.1; rw [HD.out] at this; omega, rfl⟩⟩
  · obtain ⟨i0, hi, hz9, hz8, hz7⟩ := info_parts infoPlan
    go_enter Tryz.func34, Tryz.ntmps34
    go_wp2
    go_loopw [4, 14] (fun v i wr => ∃ (k cc : Nat) (ad : Option Addr) (Ps : List Pl), k ≤ n ∧ i = .int .i64 k ∧ v = .slice ad k cc ∧ Hid (PlO w.heap.size wr ad k cc Ps) ∧ Hid (PlK L Ps k) ∧ Hid (Below w.heap.size w wr) ∧ Hid (∀ q, q < k → KeyAt L q) ∧ Hid (PlsW w.heap.size wr Ps) ∧ Hid (PlRf Ps k)) (fun _ i _ => n - (intOf i).toNat)
    case atStart => exact ⟨0, 0, none, [], Nat.zero_le _, rfl, rfl, hide ⟨rfl, rfl, .inl ⟨rfl, rfl⟩⟩, hide (fun j h => by omega), Below.refl _ _, fun q h => by omega, hide (fun p hp => by cases hp), hide (fun j h => by omega)⟩
    case round =>
      obtain ⟨k, cc, ad, Ps, hk, rfl, rfl, HP, HKK, HB, HA, HPS, HPF⟩ := hrel
      by_cases hlt : k < n
      · obtain ⟨b, off, rfl, hbs, hrow⟩ := HR.out (fun e => by have := HD.out; rw [e] at this; simp at this; omega)
        have hkL : k < L.length := by rw [HD.out]; exact hlt
        obtain ⟨aF, cp, hc, hat, hcp⟩ := hrow k hkL
        obtain ⟨z0, z1, z2, z3, z4, z5⟩ := HF.out.2 k hkL
        obtain ⟨x, hx⟩ : ∃ x, kyA L k = x := ⟨_, rfl⟩
        have HX := hide hx
        rw [hx] at hc hat z0 z1 z2 z3 z4 z5 hcp
        obtain ⟨nm, kd, on, pa, fl, re⟩ := x
        simp only at hat z0 z1 z2 z3 z4 z5 hcp
        obtain ⟨c0, c1, c2, c3, c4, c5⟩ := kyC_go hc hbs HB.out
        simp only at c0 c1 c2 c3 c4 c5
        have hki : (k : Int) < n := by omega
        obtain ⟨fm, hm⟩ : ∃ fm, fl.length = fm := ⟨_, rfl⟩
        have HFM := hide hm
        rw [hm] at c4 z4 hcp z5
        have HKL := hide hkL
        have hbW1 : Below wr.heap.size wr (wr.alloc (.cells #[.string nm, .int .i64 kd, .string on, .string pa, .slice aF fm cp, .string re] 27)) := (Below.refl _ _).alloc (Nat.le_refl _) _
        have hB1 : Below w.heap.size w (wr.alloc (.cells #[.string nm, .int .i64 kd, .string on, .string pa, .slice aF fm cp, .string re] 27)) := HB.out.trans (hbW1.mono HB.out.size)
        have CP := hide (i_plan3 nm kd on pa aF fl fm cp re (wr.alloc (.cells #[.string nm, .int .i64 kd, .string on, .string pa, .slice aF fm cp, .string re] 27)) hm z0 z1 z2 z4 z5 (tx_up (tx_go hat hB1) hB1.size) (maxL_go HM.out hB1 (Nat.le_refl _)))
        have HB1 := hide hB1
        have HP1 := hide (plO_go HP.out hbW1)
        have HPS1 := hide (pls_go HPS.out hbW1)
        have HK1 := hide (kd_new wr #[.string nm, .int .i64 kd, .string on, .string pa, .slice aF fm cp, .string re] 27)
        clear hx hc hat hrow hm z5 hkL hbW1 hB1
        go_wp2_with fail
        refine CP.out.mono ?_
        rintro e w2 ⟨hb2, h⟩
        have HB2 := hide (HB1.out.trans (hb2.mono HB1.out.size))
        have HP2 := hide (plO_go HP1.out hb2)
        have HPS2 := hide (pls_go HPS1.out hb2)
        have hlow := HB1.out.size
        have HK2 := hide (kd_go HK1.out hb2)
        have hs2 : wr.heap.size < w2.heap.size := kd_lt HK2.out
        have hm2 : w.heap.size ≤ w2.heap.size := HB2.out.size
        have hgN : ∀ g, ad = some ⟨g, 0, none⟩ → g < w2.heap.size := fun g e => by
          have h9 := HP2.out.2.2
          rcases h9 with ⟨e2, -⟩ | ⟨g2, cap, cur, e2, -, hg, -⟩
          · rw [e] at e2; cases e2
          · rw [e] at e2; cases e2; exact (Array.getElem?_eq_some_iff.1 hg).1
        have HGN := hide hgN
        clear hb2 hgN HP1 HK1 HB1 HPS1
        rcases h with ⟨hone, d, a1, n1, c1', fa, fc, rfl, hpw⟩ | ⟨hone, rfl⟩
        · have HPW := hide (plw_low hpw hlow)
          clear hpw hlow
          have HONE : Hid (KeyOne (kyA L k)) := hide (by rw [HX.out]; exact hone)
          have HCN := hide (cellsAt_new w2 (plV ⟨⟨nm, kd, on, pa, fl, re⟩, aF, cp, d, a1, n1, c1', fa, fc, 0⟩).toArray 59)
          have hbW3 : Below w2.heap.size w2 (w2.alloc (.cells (plV ⟨⟨nm, kd, on, pa, fl, re⟩, aF, cp, d, a1, n1, c1', fa, fc, 0⟩).toArray 59)) := (Below.refl _ _).alloc (Nat.le_refl _) _
          unfold plV at hbW3 ⊢
          simp only at hbW3 ⊢
          rw [HFM.out] at hbW3 ⊢
          obtain ⟨W3, hW3⟩ : ∃ W3, w2.alloc (.cells #[.string nm, .int .i64 kd, .string on, .string pa, .slice aF fm cp, .string re, .bool d, .slice a1 n1 c1', .slice fa fm fc, .int .i64 0] 59) = W3 := ⟨_, rfl⟩
          have hW3b : w2.alloc (.cells (plV ⟨⟨nm, kd, on, pa, fl, re⟩, aF, cp, d, a1, n1, c1', fa, fc, 0⟩).toArray 59) = W3 := by
            rw [← hW3]; unfold plV; simp only; rw [HFM.out]
          rw [hW3] at hbW3
          rw [hW3b] at HCN
          have HB3 := hide (HB2.out.trans (hbW3.mono HB2.out.size))
          have HP3 := hide (plO_go HP2.out hbW3)
          have HK3 := hide (kd_go HK2.out hbW3)
          have k0 : w2.cell? ⟨wr.heap.size, 0, none⟩ = some (.string nm) := kd_cell HK2.out 0
          have HW3 := hide hW3
          clear hW3
          have hN3 : w2.heap.size < W3.heap.size := cellsAt_lt HCN.out
          have CPL := hide (i_keyAt w.heap.size ad k cc Ps nm W3 HP3.out (by omega))
          have HB23 := hide hbW3
          clear hbW3 hone hW3b CP
          by_cases hdup : ∃ j, j < k ∧ (plA Ps j).k.nm = nm
          · have HNO : Hid (¬ KeysP L) := hide (plk_dup HKL.out HKK.out (by rw [HX.out]; exact hdup))
            have HDUP := hide hdup
            clear hdup
            go_wp2_with (first | (go_at_call 65; rw [HW3.out]; refine CPL.out.mono ?_; rintro e w4 ⟨⟨r, rfl, hr⟩, hb4⟩; have hr1 : (r != -1) = true := fn_yes hr HDUP.out; have HB4 := hide (HB3.out.trans (hb4.mono HB3.out.size)); clear hr hb4))
            go_ret2
            exact ⟨HB4.out, .inr ⟨HNO.out, rfl⟩⟩
          · have CRF : Hid (∀ w4, Below W3.heap.size W3 w4 → Calls Tryz.prog 66 #[.pointer (some ⟨w2.heap.size, 0, none⟩), .slice ad k cc] w4 (RfAns2 Ps k ⟨⟨nm, kd, on, pa, fl, re⟩, aF, cp, d, a1, n1, c1', fa, fc, 0⟩ w2.heap.size w4)) := hide (fun w4 hb4 => i_refers2 w.heap.size ad k cc Ps _ w2.heap.size w4 (plO_go HP3.out hb4) (by omega) HGN.out (plk_uniq HKK.out HA.out) (cellsAt_go HCN.out hb4 hN3))
            have HDUP := hide hdup
            clear hdup
            by_cases hrf : RfP Ps k ⟨nm, kd, on, pa, fl, re⟩
            · have HA2 : Hid (∀ q, q < k + 1 → KeyAt L q) := hide (fun q hq => by
                by_cases e : q = k
                · subst e; exact plk_key HKK.out HONE.out (by rw [HX.out]; exact HDUP.out) (by rw [HX.out]; exact hrf)
                · exact HA.out q (by omega))
              have HRF := hide hrf
              clear hrf
              go_wp2_with (first | (go_at_call 65; rw [HW3.out]; refine CPL.out.mono ?_; rintro e w4 ⟨⟨r, rfl, hr⟩, hb4⟩; have hr1 : r = -1 := fn_no hr HDUP.out; rw [hr1]; have HB4 := hide hb4; clear hr hr1 hb4) | (go_at_call 66; refine (CRF.out _ HB4.out).mono ?_; rintro e w5 ⟨hb5, hs5, Bv, r5, rfl, hBv, hC5, hRJ⟩; rw [hBv.2 HRF.out]; have HB45 := hide ((HB4.out.mono (Nat.le_of_lt hN3)).trans hb5); have hB25 := (HB23.out.trans HB45.out); have HB5 := hide (HB2.out.trans (hB25.mono hm2)); have hm5 := HB5.out.size; have HP5 := hide (plO_goN HP2.out HGN.out hB25); have HPS5 := hide (pls_go HPS2.out hB25); have HPW5 := hide (plw_r (plw_go HPW.out hB25) r5); have HRJ := hide (fun h3 => hRJ h3 (hBv.2 HRF.out)); clear hRJ; have hC6 := hC5; unfold plV at hC6; simp only at hC6; rw [HFM.out] at hC6; have nv0 := cellsAt_cell hC6 0; have nv1 := cellsAt_cell hC6 1; have nv2 := cellsAt_cell hC6 2; have nv3 := cellsAt_cell hC6 3; have nv4 := cellsAt_cell hC6 4; have nv5 := cellsAt_cell hC6 5; have nv6 := cellsAt_cell hC6 6; have nv7 := cellsAt_cell hC6 7; have nv8 := cellsAt_cell hC6 8; have nv9 := cellsAt_cell hC6 9; simp at nv0 nv1 nv2 nv3 nv4 nv5 nv6 nv7 nv8 nv9; clear hB25 hC6; clear hb5 hBv hC5) | (at_builtin; refine wpList_append_own _ rfl (.tmp 37) (.tmp 39) 74 rfl w.heap.size 59 i0 (.agg #[.string ⟨#[]⟩, .int .i64 0, .string ⟨#[]⟩, .string ⟨#[]⟩, .slice none 0 0, .string ⟨#[]⟩, .bool false, .slice none 0 0, .slice none 0 0, .int .i64 0]) 10 160 Tryz.underlying74 hi hz9 hz8 hz7 rfl (by decide) _ _ _ rfl (HP5.out.2.alloc _) ⟨w5.heap.size, 0, none⟩ 1 1 [.string nm, .int .i64 kd, .string on, .string pa, .slice aF fm cp, .string re, .bool d, .slice a1 n1 c1', .slice fa fm fc, .int .i64 r5] rfl rfl (fun j u hj => gTen_new w5 _ _ _ _ _ _ _ _ _ _ _ j u hj) (by have h9 := plV_one ⟨⟨nm, kd, on, pa, fl, re⟩, aF, cp, d, a1, n1, c1', fa, fc, r5⟩; unfold plV at h9; simp only at h9; rw [HFM.out] at h9; exact h9) (by unfold maxLen; omega) (by omega) (by simp; omega) ?_; intro v2 w7 hown2 hgrow2 _; obtain ⟨ad2, c2', hv2⟩ := gOwn_shape hown2; rw [hv2] at hown2 ⊢; clear hv2; have HB7 := hide (gBelow_one HB5.out HP5.out.2 hgrow2); have HPS7 := hide (pls_grown (pls_put HPS5.out HPW5.out) HP5.out.2 hgrow2); have HO7 := hide hown2; clear hown2 hgrow2))
              go_roundw
              case rel => exact ⟨k + 1, c2', ad2, Ps ++ [⟨⟨nm, kd, on, pa, fl, re⟩, aF, cp, d, a1, n1, c1', fa, fc, r5⟩], by omega, by go_num, rfl, hide (plO_more HP5.out.1 (by unfold plV; simp only; rw [HFM.out]; exact HO7.out)), hide (plk_more HP5.out.1 HKK.out HX.out.symm), HB7, HA2, HPS7, hide (plrf_more HP5.out.1 HPF.out HRJ.out)⟩
              case measure => simp [intOf]; omega
            · have HNO : Hid (¬ KeysP L) := hide (plk_ref HKL.out HKK.out (by rw [HX.out]; exact hrf))
              have HRF := hide hrf
              clear hrf
              go_wp2_with (first | (go_at_call 65; rw [HW3.out]; refine CPL.out.mono ?_; rintro e w4 ⟨⟨r, rfl, hr⟩, hb4⟩; have hr1 : r = -1 := fn_no hr HDUP.out; rw [hr1]; have HB4 := hide hb4; clear hr hr1 hb4) | (go_at_call 66; refine (CRF.out _ HB4.out).mono ?_; rintro e w5 ⟨hb5, hs5, Bv, r5, rfl, hBv, hC5, hRJ⟩; rw [bv_no hBv HRF.out]; have HB5 := hide (HB2.out.trans ((HB23.out.trans (HB4.out.mono (Nat.le_of_lt hN3))).trans hb5 |>.mono hm2)); clear hb5 hBv hC5 hRJ))
              go_ret2
              exact ⟨HB5.out, .inr ⟨HNO.out, rfl⟩⟩
        · have HNO : Hid (¬ KeysP L) := hide (keys_one HKL.out (by rw [HX.out]; exact hone))
          clear hone CP
          unfold plV
          simp only [pl0, ky0]
          go_wp2
          go_ret2
          exact ⟨HB2.out.alloc hm2 _, .inr ⟨HNO.out, rfl⟩⟩
      · have hkm : k = n := by omega
        subst hkm
        go_wp2
        go_ret2
        exact ⟨HB.out, .inl ⟨⟨by rw [HD.out]; omega, fun q hq => HA.out q (by rw [HD.out] at hq; exact hq)⟩, ad, cc, Ps, rfl, HP.out, HKK.out, HPS.out, HPF.out⟩⟩
end Go.Proofs.YtdepgkpfibmbgaaGreatDoor

/-
  Where keys are broken. No step of the program in this text.
-/
namespace Go.Proofs.YtdepgkpfibmbgaaGreatDoor
open Go.RowKit
set_option linter.unusedVariables false
set_option linter.unusedSimpArgs false
/-- A key's table at an element. -/
def tbK (D : Dc) (x : Nat) (k : Ky) : Option (List (List ByteArray)) := tbI D k.kd (kyQ k) k.fl.length (kyP D x k) (kyP D x k).length
section
variable {D : Dc} {kd : Int} {Qs : Nat → List (List UInt8) × List UInt8} {nf : Nat} {L : List Int}
theorem tb_rows : ∀ (i : Nat) (T : List (List ByteArray)), tbI D kd Qs nf L i = some T → T.length ≤ i ∧ ∀ r ∈ T, r.length = nf ∧ ∃ j, j < i ∧ rwI D (L[j]?.getD 0).toNat kd Qs nf = some r
  | 0, T, h => by rw [tbI] at h; cases h; exact ⟨Nat.le_refl _, fun r hr => by cases hr⟩
  | i + 1, T, h => by
    rw [tbI] at h
    split at h
    · cases h
    · rename_i T0 h0
      obtain ⟨l0, r0⟩ := tb_rows i T0 h0
      split at h
      · cases h
      · rename_i r1 h1
        split at h
        · rename_i hl
          cases h
          refine ⟨by rw [List.length_append]; simp; omega, fun r hr => ?_⟩
          rcases List.mem_append.1 hr with hr | hr
          · obtain ⟨a, j, hj, b⟩ := r0 r hr
            exact ⟨a, j, by omega, b⟩
          · rw [List.mem_singleton] at hr
            subst hr
            exact ⟨hl, i, by omega, h1⟩
        · cases h
          refine ⟨by omega, fun r hr => ?_⟩
          obtain ⟨a, j, hj, b⟩ := r0 r hr
          exact ⟨a, j, by omega, b⟩
theorem rw_sizes {p Z : Nat} (hZ : ∀ q, (fvF D p q).1.size ≤ Z) : ∀ (j : Nat) (r : List ByteArray), rwI D p kd Qs j = some r → ∀ v ∈ r, v.size ≤ Z
  | 0, r, h => by rw [rwI] at h; cases h; intro v hv; cases hv
  | j + 1, r, h => by
    rw [rwI] at h
    split at h
    · cases h
    · rename_i r0 h0
      have ih := rw_sizes hZ j r0 h0
      split at h
      · cases h
      · split at h
        · cases h
          intro v hv
          rcases List.mem_append.1 hv with hv | hv
          · exact ih v hv
          · rw [List.mem_singleton] at hv
            subst hv
            exact hZ _
        · cases h
          exact ih
end
theorem jn_size (v : ByteArray) : (whB v 2).size ≤ v.size + 1 := by
  have h1 := join_totW [32] rfl (wdB [] v.data.toList)
  have h2 := tot_wd v.data.toList []
  have h3 : (whB v 2).size = (Lib.join (wdB [] v.data.toList) [32]).length := by
    show (jnB v).size = _
    unfold jnB
    rfl
  have h4 : v.data.toList.length = v.size := by simp
  rw [h3]
  simp only [List.length_nil] at h2
  omega
theorem fv_size {D : Dc} (hdk : docokB D = true) {p : Nat} (hp : p < D.n) (q : List (List UInt8) × List UInt8) : (fvF D p q).1.size ≤ 1048577 := by
  unfold fvF foA
  split
  · rename_i h1
    obtain ⟨v, hv⟩ := List.length_eq_one_iff.1 h1
    rw [hv, lst_one]
    have hst := st_ok (D := D) (x := p) (n := D.n) false rfl hp
    have hsl := sel_ok q.1 _ hst.1 hst.2
    have hm : v ∈ vlL D ⟨q.2.toArray⟩ (srtL (sel D (st D p D.n false) q.1)) := by rw [hv]; exact List.mem_singleton.2 rfl
    unfold vlL at hm
    obtain ⟨y, hy, hvy⟩ := List.mem_flatMap.1 hm
    have hin := hsl.2 y ((srt_mem _ _).1 hy)
    have h9 := val_all hdk (p := y.toNat) (by omega) hvy
    have h8 := jn_size v
    show (whB v 2).size ≤ _
    omega
  · exact Nat.zero_le _
theorem tk_rows {D : Dc} (hdk : docokB D = true) {x : Nat} (hx : x < D.n) {k : Ky} {T : List (List ByteArray)} (h : tbK D x k = some T) : T.length ≤ 200 ∧ ∀ r ∈ T, r.length = k.fl.length ∧ ∀ v ∈ r, v.size ≤ 1048577 := by
  unfold tbK at h
  have hst := st_ok (D := D) (x := x) (n := D.n) (deepL k.pa.data.toList) rfl hx
  have hsl := sel_ok (sg [] (restL k.pa.data.toList)) _ hst.1 hst.2
  have hlen : (kyP D x k).length ≤ 200 := by
    unfold kyP
    rw [srt_len hsl.1]
    have := nodup_len hsl.1 hsl.2
    have := (docok_facts hdk).1.2
    omega
  obtain ⟨h1, h2⟩ := tb_rows _ T h
  refine ⟨by omega, fun r hr => ?_⟩
  obtain ⟨a, j, hj, b⟩ := h2 r hr
  refine ⟨a, rw_sizes (fun q => fv_size hdk ?_ q) _ r b⟩
  rw [List.getElem?_eq_getElem hj]
  have hin := hsl.2 ((kyP D x k)[j]) ((srt_mem _ _).1 (List.getElem_mem hj))
  show ((kyP D x k)[j]).toNat < D.n
  omega
/-- Two rows of a table are alike. -/
def dupT (T : List (List ByteArray)) : Prop := ∃ a b, b < a ∧ a < T.length ∧ T[a]?.getD [] = T[b]?.getD []
/-- Key i is broken at element x. -/
def brk (D : Dc) (L : List Ky) (x i : Nat) : Prop := ∀ T, tbK D x (kyA L i) = some T → ((kyA L i).kd ≠ 3 ∧ dupT T) ∨ ((kyA L i).kd = 3 ∧ ∃ j, j < i ∧ (kyA L j).nm = (kyA L i).re ∧ ∃ r ∈ T, ∀ U, tbK D x (kyA L j) = some U → r ∉ U)
def badK (D : Dc) (L : List Ky) (i : Nat) : Prop := ∃ x, x < D.n ∧ D.NM x = (kyA L i).on ∧ brk D L x i
open Classical in
/-- The broken ones among the first k keys. -/
noncomputable def brL (D : Dc) (L : List Ky) : Nat → List Int
  | 0 => []
  | i + 1 => if badK D L i then brL D L i ++ [(i : Int)] else brL D L i
theorem br_yes {D : Dc} {L : List Ky} {i : Nat} (h : badK D L i) : brL D L (i + 1) = brL D L i ++ [(i : Int)] := by rw [brL, if_pos h]
theorem br_no {D : Dc} {L : List Ky} {i : Nat} (h : ¬ badK D L i) : brL D L (i + 1) = brL D L i := by rw [brL, if_neg h]
theorem br_len (D : Dc) (L : List Ky) : ∀ i, (brL D L i).length ≤ i
  | 0 => Nat.le_refl _
  | i + 1 => by
    have := br_len D L i
    by_cases h : badK D L i
    · rw [br_yes h, List.length_append]; simp; omega
    · rw [br_no h]; omega
open Classical in
noncomputable def brV (D : Dc) (L : List Ky) : List Int := if docokB D = true ∧ KeysP L then brL D L L.length else []
theorem brV_no {D : Dc} {L : List Ky} (h : ¬ (docokB D = true ∧ KeysP L)) : brV D L = [] := by unfold brV; rw [if_neg h]
theorem brV_yes {D : Dc} {L : List Ky} (h1 : docokB D = true) (h2 : KeysP L) : brV D L = brL D L L.length := by unfold brV; rw [if_pos ⟨h1, h2⟩]
theorem brV_len (D : Dc) (L : List Ky) : (brV D L).length ≤ 10 := by
  by_cases h : docokB D = true ∧ KeysP L
  · rw [brV_yes h.1 h.2]
    have := br_len D L L.length
    have := h.2.1
    omega
  · rw [brV_no h]; exact Nat.zero_le _
/-- The key that a key refers to. -/
theorem ref_at {L : List Ky} {i j : Nat} (hK : KeysP L) (hi : i < L.length) (h3 : (kyA L i).kd = 3) (hj : j < i) (hn : (kyA L j).nm = (kyA L i).re) : (kyA L j).fl.length = (kyA L i).fl.length := by
  obtain ⟨q, hq, a, b, c, d⟩ := (hK.2 i hi).2.2.1 h3
  have e : j = q := by
    rcases Nat.lt_trichotomy j q with h | h | h
    · exact absurd (hn.trans a.symm) ((hK.2 q (by omega)).2.1 j h)
    · exact h
    · exact absurd (a.trans hn.symm) ((hK.2 j (by omega)).2.1 q h)
  rw [e]; exact c
theorem ref_one {L : List Ky} {i j q : Nat} (hK : KeysP L) (hi : i < L.length) (hj : j < i) (hn : (kyA L j).nm = (kyA L i).re) (hq : q < i) (hnq : (kyA L q).nm = (kyA L i).re) : j = q := by
  rcases Nat.lt_trichotomy j q with h | h | h
  · exact absurd (hn.trans hnq.symm) ((hK.2 q (by omega)).2.1 j h)
  · exact h
  · exact absurd (hnq.trans hn.symm) ((hK.2 j (by omega)).2.1 q h)
end Go.Proofs.YtdepgkpfibmbgaaGreatDoor
