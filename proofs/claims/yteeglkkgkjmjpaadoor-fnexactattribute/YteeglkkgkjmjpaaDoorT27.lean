/-
  Texts put together: AtL, NuL.
-/
import Derived.Test.YteeglkkgkjmjpaaDoorT24
import Derived.Test.YteeglkkgkjmjpaaDoorT26
import Derived.Test.YteeglkkgkjmjpaaDoorT25
import Derived.Test.YteeglkkgkjmjpaaDoorT13
import Derived.Test.YteeglkkgkjmjpaaDoorT7
/-
  The walk of FnExactAttribute: at every row of nodes and row of names the two answers are the same, and the rows are as they were; the answer owns its memory.
-/
namespace Go.Proofs.YteeglkkgkjmjpaaDoor
open Go.RowKit Go.Joins
set_option linter.unusedVariables false
set_option linter.unusedSimpArgs false
theorem trA_len {D : Pn} {W : List ByteArray} : ∀ (t : Nat) (L : List Int), trA D W t = some L → L.length = t
  | 0, L, h => by
    have h : some [] = some L := h
    cases h
    rfl
  | t + 1, L, h => by
    have h : (match trA D W t with | none => none | some L => if pkA D (W[t]?.getD ⟨#[]⟩) (stp D L.getLast?) < 0 then none else some (L ++ [pkA D (W[t]?.getD ⟨#[]⟩) (stp D L.getLast?)])) = some L := h
    cases ht : trA D W t with
    | none => rw [ht] at h; cases h
    | some L0 =>
      rw [ht] at h
      have h : (if pkA D (W[t]?.getD ⟨#[]⟩) (stp D L0.getLast?) < 0 then none else some (L0 ++ [pkA D (W[t]?.getD ⟨#[]⟩) (stp D L0.getLast?)])) = some L := h
      split at h
      · cases h
      · cases h
        rw [List.length_append, trA_len t L0 ht]
        rfl
theorem ar_len {D : Pn} {W : List ByteArray} : ((arA D W).getD []).length ≤ 200 := by
  unfold arA
  split
  · rename_i hc
    cases ht : trA D W W.length with
    | none => simp
    | some L =>
      have := trA_len _ _ ht
      show ((if finA D L = true then some L else none).getD []).length ≤ 200
      split
      · show L.length ≤ 200; omega
      · simp
  · simp
theorem own_tx9 {w : World} {B n c g : Nat} {t : TypeId} {xs : List ByteArray} (h : w.ownsRow B t 1 (.slice (some ⟨g, 0, none⟩) n c) n (xs.map Value.string)) : TxAt w (some ⟨g, 0, none⟩) xs w.heap.size := tx_own h
set_option maxRecDepth 100000 in
set_option maxHeartbeats 16000000 in
theorem at_walk0 (D : Pn) (n : Nat) (a : Option Addr) (cap : Nat) (Q : List ByteArray) (m : Nat) (b : Option Addr) (cq : Nat) (w : World) (hD : D.n = n) (hz : PnSz D) (hr : PnAt w a D w.heap.size) (hQ : Q.length = m) (hqz : TxSz Q) (hq : TxAt w b Q w.heap.size) (hT : TzT w)
    (hSA : ∀ (a' : Option Addr) (c' : Nat) (b' : Option Addr) (d' : Nat) (w' : World), pnTot D ≤ 1048576 → m ≤ 1048576 → PnAt w' a' D w'.heap.size → TxAt w' b' Q w'.heap.size → Calls Tryd.prog 32 #[.slice a' n c', .slice b' m d'] w' (AtAns D Q w')) :
    Calls Tryd.prog 9 #[.slice a n cap, .slice b m cq] w fun e w' => e = .returned (.bool true) ∧ Below w.heap.size w w' := by
  have HX := hide hD
  have HR := hide hr
  have HQL := hide hQ
  have HQZ := hide hqz
  have HQ := hide hq
  have HT := hide hT
  have HS := hide (l_szPs D n a cap w hD hz hr)
  by_cases hbig : (pnTot D : Int) ≤ 1048576
  · have HL := hide (dn_yes hbig)
    have hb9 : pnTot D ≤ 1048576 := by omega
    have HZ := hide hb9
    have hl2 : n ≤ 1048576 := by rw [← hD]; exact (pn_sz hb9).1
    have HNR : Hid (∀ j, j < n → (D.KL j).length ≤ 1048576) := hide (fun j hj => ((pn_sz hb9).2 j (by omega)).2)
    have HAC : Hid (sumN (fun j => (D.KL j).length) n ≤ 1048576) := hide (by rw [← hD]; exact sumN_kl hb9)
    have hl9 : (0 : Int) ≤ 1048576 - (pnTot D : Int) := by omega
    have hl8 : 1048576 - (pnTot D : Int) ≤ 1048576 := by omega
    obtain ⟨left, hlf⟩ : ∃ left : Int, 1048576 - (pnTot D : Int) = left := ⟨_, rfl⟩
    rw [hlf] at HL hl9 hl8
    by_cases hbig2 : (txTot Q : Int) ≤ left
    · have HL2 := hide (dn_yes hbig2)
      have hl7 : (0 : Int) ≤ left - (txTot Q : Int) := by omega
      have hm2 : m ≤ 1048576 := by
        have : Q.length ≤ txTot Q := by unfold txTot; omega
        omega
      have hkl := ar_len (D := D) (W := Q)
      have CS := hide (fun (a' : Option Addr) (c' : Nat) (b' : Option Addr) (d' : Nat) (w' : World) (h : PnAt w' a' D w'.heap.size) (h2 : TxAt w' b' Q w'.heap.size) => hSA a' c' b' d' w' hb9 hm2 h h2)
      have CI := hide (fun (a' : Option Addr) (c' : Nat) (b' : Option Addr) (d' : Nat) (w' : World) (h : PnAt w' a' D w'.heap.size) (h2 : TxAt w' b' Q w'.heap.size) (hT' : TzT w') => i_attr D n a' c' Q m b' d' w' hD hb9 h hQ hm2 h2 hT')
      unfold AtAns IntR at CS CI
      obtain ⟨V, hV⟩ : ∃ V, (arA D Q).isSome = V := ⟨_, rfl⟩
      obtain ⟨L, hL⟩ : ∃ L, (arA D Q).getD [] = L := ⟨_, rfl⟩
      rw [hL, hV] at CS CI
      rw [hL] at hkl
      have hn : L.length ≤ 1048576 := by omega
      have hc1 : ¬ (1 + (L.length : Int)) < 0 := by omega
      clear hr hD hz hT hb9 hkl hL hV hQ hqz hq hlf hSA
      go_enter Tryd.func9, Tryd.ntmps9
      go_wp2_with fail
      refine HS.out.mono ?_
      rintro e w1 ⟨rfl, hb1⟩
      rw [HL.out]
      have HA1 := hide (pnAt_up (pnAt_go HR.out hb1) hb1.size)
      have HQ1 := hide (tx_up (tx_go HQ.out hb1) hb1.size)
      have HB1 := hide hb1
      clear hb1
      go_wp2_with fail
      refine (sz_strs b m cq Q left _ HQL.out HQZ.out hl9 hl8 HQ1.out).mono ?_
      rintro e w1' ⟨rfl, rfl⟩
      rw [HL2.out]
      go_wp2_with fail
      refine (l_toPs D n a cap _ HX.out hl2 HNR.out HA1.out).mono ?_
      rintro e w2 ⟨g2, rfl, hg2, hr2, hb2⟩
      have HB2 := hide (HB1.out.trans (hb2.mono HB1.out.size))
      have HR2 := hide hr2
      have HQ2 := hide (tx_up (tx_go HQ.out HB2.out) HB2.out.size)
      clear hr2 hb2
      go_wp2_with fail
      refine (to_strs b m cq Q _ HQL.out hm2 HQ2.out).mono ?_
      rintro e w2q ⟨rfl, ho2, hb2⟩
      have HB2q := hide (HB2.out.trans (hb2.mono HB2.out.size))
      have HR2q := hide (pnAt_up (pnAt_go HR2.out hb2) hb2.size)
      have HT2 := hide (own_tx9 ho2)
      clear ho2 hb2
      go_wp2_with fail
      refine (CS.out _ _ _ _ _ HR2q.out HT2.out).mono ?_
      rintro e w3 ⟨adA, cA, rfl, hoA, hb3⟩
      have OA := hide hoA
      have HB3 := hide (HB2q.out.trans (hb3.mono HB2q.out.size))
      have HA3 := hide (pnAt_up (pnAt_go HR.out HB3.out) HB3.out.size)
      clear hoA hb3
      go_wp2_with fail
      refine (l_toPs2 D n a cap _ HX.out hl2 HNR.out HA3.out).mono ?_
      rintro e w4 ⟨g4, rfl, hg4, hr4, hsh4, hb4⟩
      have HB4 := hide (HB3.out.trans (hb4.mono HB3.out.size))
      have HB34 := hide hb4
      have HR4 := hide hr4
      have HSH4 := hide hsh4
      have OA4 := hide (own_below' OA.out hb4)
      have HQ4 := hide (tx_up (tx_go HQ.out HB4.out) HB4.out.size)
      clear hr4 hsh4 hb4
      go_wp2_with fail
      refine (to_strs b m cq Q _ HQL.out hm2 HQ4.out).mono ?_
      rintro e w4q ⟨rfl, ho4, hb4⟩
      have HB4q := hide (HB4.out.trans (hb4.mono HB4.out.size))
      have HB44 := hide hb4
      have HR4q := hide (pnAt_up (pnAt_go HR4.out hb4) hb4.size)
      have OT4 := hide ho4
      have OA4q := hide (own_below' OA4.out hb4)
      clear ho4 hb4
      go_wp2_with fail
      refine (CI.out _ _ _ _ _ HR4q.out (own_tx9 OT4.out) (tzT_go HT.out HB4q.out (Nat.le_refl _))).mono ?_
      rintro e w5 ⟨adB, cB, rfl, hoB, hb5⟩
      have OB := hide hoB
      have HB45 := hide (HB44.out.trans (hb5.mono HB44.out.size))
      have HB5 := hide (HB4q.out.trans (hb5.mono HB4q.out.size))
      have OA5 := hide (own_below' OA4q.out hb5)
      have OT5 := hide (own_below' OT4.out hb5)
      have HR5 := hide (pnAt_up (pnAt_go HR4q.out hb5) hb5.size)
      clear hoB hb5
      go_wp2_with fail
      refine (eq_same adB adA L.length cB cA L _ rfl hn (own_rowAt' rfl OB.out) (own_rowAt' rfl OA5.out)).mono ?_
      rintro e w6 ⟨rfl, q6, rfl⟩
      have HB6 := hide (drew_go HB5.out q6)
      have HA6 := hide (pnAt_up (pnAt_go HR.out HB6.out) HB6.out.size)
      go_wp2_with fail
      refine (l_toPs D n a cap (w5.drewN q6) HX.out hl2 HNR.out HA6.out).mono ?_
      rintro e w7 ⟨g7, rfl, hg7, hr7, hb7⟩
      have hb7' : Below w5.heap.size w5 w7 := ⟨hb7.os, hb7.tape, hb7.output, hb7.size, hb7.block⟩
      have HB7 := hide (HB5.out.trans (hb7'.mono HB5.out.size))
      have HB47 := hide (HB45.out.trans (hb7'.mono HB45.out.size))
      have HR7 := hide hr7
      have HR57 := hide (pnAt_up (pnAt_go HR5.out hb7') hb7'.size)
      have OA7 := hide (own_below' OA5.out hb7')
      have OB7 := hide (own_below' OB.out hb7')
      have OT7 := hide (own_below' OT5.out hb7')
      clear hr7 hb7 hb7'
      go_wp2_with fail
      refine (l_eqPs D n _ _ _ _ _ HX.out hl2 HNR.out HR57.out HR7.out).mono ?_
      rintro e w8 ⟨rfl, hb8⟩
      have HB8 := hide (HB7.out.trans (hb8.mono HB7.out.size))
      have HB48 := hide (HB47.out.trans (hb8.mono HB47.out.size))
      have OA8 := hide (own_below' OA7.out hb8)
      have OB8 := hide (own_below' OB7.out hb8)
      have OT8 := hide (own_below' OT7.out hb8)
      have HQ8 := hide (tx_up (tx_go HQ.out HB8.out) HB8.out.size)
      clear hb8
      go_wp2_with fail
      refine (to_strs b m cq Q _ HQL.out hm2 HQ8.out).mono ?_
      rintro e w8q ⟨rfl, ho8, hb8⟩
      have HB8q := hide (HB8.out.trans (hb8.mono HB8.out.size))
      have HB48q := hide (HB48.out.trans (hb8.mono HB48.out.size))
      have OA8q := hide (own_below' OA8.out hb8)
      have OB8q := hide (own_below' OB8.out hb8)
      have OT8q := hide (own_below' OT8.out hb8)
      have HO8 := hide (own_tx9 ho8)
      clear ho8 hb8
      go_wp2_with fail
      refine (eq_strs _ _ m _ _ Q _ HQL.out hm2 (own_tx9 OT8q.out) HO8.out).mono ?_
      rintro e w9 ⟨rfl, hb9⟩
      have HB9 := hide (HB8q.out.trans (hb9.mono HB8q.out.size))
      have HB49 := hide (HB48q.out.trans (hb9.mono HB48q.out.size))
      have OA9 := hide (own_below' OA8q.out hb9)
      have OB9 := hide (own_below' OB8q.out hb9)
      have OT9 := hide (own_below' OT8q.out hb9)
      have HSH9 := hide (shI_go HSH4.out (chg_below (lo := 0) (hi := 0) HB49.out) (.inr (Nat.zero_le _)))
      clear hb9
      go_wp2_with fail
      refine (l_markPs9 g4 n n (fun j => (D.KL j).length) w3.heap.size w4.heap.size _ hl2 HAC.out HSH9.out).mono ?_
      rintro e w10 ⟨kk, rfl, hkk, hkk9, hc10⟩
      have HB10 := hide (below_chg HB9.out (Nat.le_refl _) HB3.out.size hc10)
      have OA10 := hide (own_chg OA9.out hc10 (fun j hj => .inl (OA.out.lt j hj).2))
      have OB10 := hide (own_chg OB9.out hc10 (fun j hj => .inr (Nat.le_trans HB44.out.size (OB.out.lt j hj).1)))
      have OT10 := hide (own_chg OT9.out hc10 (fun j hj => .inr (OT4.out.lt j hj).1))
      clear hc10
      go_wp2_with fail
      refine (l_markSs9 w4.heap.size m kk _ hm2 hkk hkk9 (fun h0 => own_shS h0 OT10.out)).mono ?_
      rintro e w11 ⟨k2, rfl, hk2, hc11⟩
      have hkk2 : ¬ k2 < 0 := by omega
      have HB11 := hide (below_chg HB10.out (Nat.le_refl _) HB4.out.size hc11)
      have OA11 := hide (own_chg OA10.out hc11 (fun j hj => .inl (Nat.lt_of_lt_of_le (OA.out.lt j hj).2 HB34.out.size)))
      have HTB : w4.heap.size + 1 ≤ w4q.heap.size := (OT4.out.lt w4.heap.size rfl).2
      have OB11 := hide (own_chg OB10.out hc11 (fun j hj => .inr (Nat.le_trans HTB (OB.out.lt j hj).1)))
      clear hc11
      go_wp2_with fail
      refine (eq_same adB adA L.length cB cA L _ rfl hn (own_rowAt' rfl OB11.out) (own_rowAt' rfl OA11.out)).mono ?_
      rintro e w12 ⟨rfl, q12, rfl⟩
      go_wp2_with fail
      refine (mark_any w4q.heap.size adB L.length cB L (w11.drewN q12) rfl hn (show (w11.drewN q12).ownsRow w4q.heap.size 2 1 (.slice adB L.length cB) L.length (L.map (Value.int .i64)) from OB11.out)).mono ?_
      rintro e w13 ⟨rfl, ho13, hb13⟩
      have O13 := hide ho13
      have hb13' : Below w4q.heap.size w11 w13 := ⟨hb13.os, hb13.tape, hb13.output, hb13.size, hb13.block⟩
      have OA13 := hide (own_stays OA11.out hb13' (fun j hj => Nat.lt_of_lt_of_le (OA.out.lt j hj).2 (Nat.le_trans HB34.out.size HB44.out.size)))
      have HB13 := hide (HB11.out.trans (hb13'.mono HB4q.out.size))
      clear ho13 hb13 hb13'
      go_wp2_with fail
      refine (held_ints adB L.length cB _ hn (own_rowAt' (upFrom_len 1 _) O13.out)).mono ?_
      rintro e w14 ⟨rfl, q14, rfl⟩
      have HB14 := hide (drew_go HB13.out q14)
      have HA14 := hide (pnAt_up (pnAt_go HR.out HB14.out) HB14.out.size)
      go_wp2_with fail
      refine (l_toPs D n a cap (w13.drewN q14) HX.out hl2 HNR.out HA14.out).mono ?_
      rintro e w15 ⟨g15, rfl, hg15, hr15, hb15⟩
      have hb15' : Below w13.heap.size w13 w15 := ⟨hb15.os, hb15.tape, hb15.output, hb15.size, hb15.block⟩
      have HB15 := hide (HB13.out.trans (hb15'.mono HB13.out.size))
      have HR15 := hide hr15
      have OA15 := hide (own_below' OA13.out hb15')
      have O15 := hide (own_below' O13.out hb15')
      have HQ15 := hide (tx_up (tx_go HQ.out HB15.out) HB15.out.size)
      clear hr15 hb15 hb15'
      go_wp2_with fail
      refine (to_strs b m cq Q _ HQL.out hm2 HQ15.out).mono ?_
      rintro e w15q ⟨rfl, ho15, hb15⟩
      have HB15q := hide (HB15.out.trans (hb15.mono HB15.out.size))
      have HR15q := hide (pnAt_up (pnAt_go HR15.out hb15) hb15.size)
      have HT15 := hide (own_tx9 ho15)
      have OA15q := hide (own_below' OA15.out hb15)
      have O15q := hide (own_below' O15.out hb15)
      clear ho15 hb15
      go_wp2_with fail
      refine (CI.out _ _ _ _ _ HR15q.out HT15.out (tzT_go HT.out HB15q.out (Nat.le_refl _))).mono ?_
      rintro e w16 ⟨adC, cC, rfl, hoC, hb16⟩
      have OC := hide hoC
      have HB16 := hide (HB15q.out.trans (hb16.mono HB15q.out.size))
      have OA16 := hide (own_below' OA15q.out hb16)
      have O16 := hide (own_below' O15q.out hb16)
      clear hoC hb16
      go_wp2_with fail
      refine (eq_same adC adA L.length cC cA L _ rfl hn (own_rowAt' rfl OC.out) (own_rowAt' rfl OA16.out)).mono ?_
      rintro e w17 ⟨rfl, q17, rfl⟩
      go_wp2_with fail
      refine (held_ints adB L.length cB _ hn (show RowAt .i64 (w16.drewN q17) adB (upFrom 1 L.length) (w16.drewN q17).heap.size from own_rowAt' (upFrom_len 1 _) O16.out)).mono ?_
      rintro e w18 ⟨rfl, q18, rfl⟩
      go_wp2
      go_ret
      exact ⟨rfl, ⟨HB16.out.os, HB16.out.tape, HB16.out.output, HB16.out.size, HB16.out.block⟩⟩
    · have HL2 := hide (dn_no hbig2)
      clear hr hD hz hT hb9 hQ hqz hq hlf hSA
      go_enter Tryd.func9, Tryd.ntmps9
      go_wp2_with fail
      refine HS.out.mono ?_
      rintro e w1 ⟨rfl, hb1⟩
      rw [HL.out]
      have HQ1 := hide (tx_up (tx_go HQ.out hb1) hb1.size)
      have HB1 := hide hb1
      clear hb1
      go_wp2_with fail
      refine (sz_strs b m cq Q left _ HQL.out HQZ.out hl9 hl8 HQ1.out).mono ?_
      rintro e w1' ⟨rfl, rfl⟩
      rw [HL2.out]
      go_wp2
      go_ret
      exact ⟨rfl, HB1.out⟩
  · have HL := hide (dn_no hbig)
    clear hr hD hz hT hQ hqz hq hSA
    go_enter Tryd.func9, Tryd.ntmps9
    go_wp2_with fail
    refine HS.out.mono ?_
    rintro e w1 ⟨rfl, hb1⟩
    rw [HL.out]
    have HB1 := hide hb1
    clear hb1
    go_wp2
    go_ret
    exact ⟨rfl, HB1.out⟩
end Go.Proofs.YteeglkkgkjmjpaaDoor

/-
  The walk of FnExactNullable: at every row of nodes the two answers are the same, and the row is as it was.
-/
namespace Go.Proofs.YteeglkkgkjmjpaaDoor
open Go.RowKit Go.Joins
set_option linter.unusedVariables false
set_option linter.unusedSimpArgs false
set_option maxRecDepth 100000 in
set_option maxHeartbeats 4000000 in
theorem s_nullable (D : Pn) (n : Nat) (a : Option Addr) (cap : Nat) (w : World) (hD : D.n = n) (hz : pnTot D ≤ 1048576) (hr : PnAt w a D w.heap.size) :
    Calls Tryd.prog 11 #[.slice a n cap] w fun e w' => e = .returned (.bool (pkB D && nl D (D.n - 1))) ∧ Below w.heap.size w w' := by
  have HP := hide (s_particle D n a cap w hD hz hr)
  cases hpk : pkB D
  · rw [hpk] at HP
    clear hD hz hr hpk
    go_enter Tryd.func11, Tryd.ntmps11
    go_wp2_with (first | (go_at_call 36; refine HP.out.mono ?_; rintro r w1 ⟨rfl, hb1⟩; have HB1 := hide hb1; clear hb1))
    go_ret
    exact ⟨rfl, HB1.out⟩
  · have hRN := rn_of hD hpk hz
    have hn1 : 1 ≤ n ∧ n ≤ 40 := by rw [← hD]; exact (pk_facts hpk).1
    obtain ⟨b0, off, rfl, hb0, hrow⟩ := hr (by rw [hD]; omega)
    have CN := hide (fun (W : World) (hW : Below w.heap.size w W) => s_null D n b0 off cap hRN n (n - 1) (by omega) (by omega) W (Nat.lt_of_lt_of_le hb0 hW.size) (pnRow_up (pnRow_go hrow hb0 hW) hW.size))
    rw [hpk] at HP
    have hnn : (n : Int) - 1 = ((n - 1 : Nat) : Int) := by omega
    have hwp : IntKind.i64.wrap ((n - 1 : Nat) : Int) = ((n - 1 : Nat) : Int) := by rw [IntKind.wrap_i64]; omega
    have HE : Hid (nl D (D.n - 1) = nl D (n - 1)) := hide (by rw [hD])
    clear hD hz hr hpk hrow hRN
    go_enter Tryd.func11, Tryd.ntmps11
    go_wp2_with (first
      | (go_at_call 36; refine HP.out.mono ?_; rintro r w1 ⟨rfl, hb1⟩; have HB1 := hide hb1; clear hb1)
      | (go_at_call 37; refine (CN.out _ HB1.out).mono ?_; rintro r w2 ⟨rfl, hb2⟩; have HB2 := hide (HB1.out.trans (hb2.mono HB1.out.size)); clear hb2))
    go_ret
    exact ⟨by rw [HE.out]; rfl, HB2.out⟩
set_option maxRecDepth 100000 in
set_option maxHeartbeats 4000000 in
theorem nu_walk (D : Pn) (n : Nat) (a : Option Addr) (cap : Nat) (w : World) (hD : D.n = n) (hz : PnSz D) (hr : PnAt w a D w.heap.size) (hT : TzT w) :
    Calls Tryd.prog 3 #[.slice a n cap] w fun e w' => e = .returned (.bool true) ∧ Below w.heap.size w w' := by
  have HX := hide hD
  have HR := hide hr
  have HTZ := hide hT
  clear hT
  have HS := hide (l_szPs D n a cap w hD hz hr)
  by_cases hbig : (pnTot D : Int) ≤ 1048576
  · have HL := hide (dn_yes hbig)
    have hb9 : pnTot D ≤ 1048576 := by omega
    have HZ := hide hb9
    have hl2 : n ≤ 1048576 := by rw [← hD]; exact (pn_sz hb9).1
    have HNR : Hid (∀ j, j < n → (D.KL j).length ≤ 1048576) := hide (fun j hj => ((pn_sz hb9).2 j (by omega)).2)
    have hl9 : (0 : Int) ≤ 1048576 - (pnTot D : Int) := by omega
    clear hr hD hz hb9
    go_enter Tryd.func3, Tryd.ntmps3
    go_wp2_with fail
    refine HS.out.mono ?_
    rintro e w1 ⟨rfl, hb1⟩
    rw [HL.out]
    have HA1 := hide (pnAt_up (pnAt_go HR.out hb1) hb1.size)
    have HB1 := hide hb1
    clear hb1
    go_wp2_with fail
    refine (l_toPs D n a cap _ HX.out hl2 HNR.out HA1.out).mono ?_
    rintro e w2 ⟨g2, rfl, hg2, hr2, hb2⟩
    have HB2 := hide (HB1.out.trans (hb2.mono HB1.out.size))
    have HR2 := hide hr2
    clear hr2 hb2
    go_wp2_with fail
    refine (s_nullable D n _ _ _ HX.out HZ.out HR2.out).mono ?_
    rintro e w3 ⟨rfl, hb3⟩
    have HB3 := hide (HB2.out.trans (hb3.mono HB2.out.size))
    have HA3 := hide (pnAt_up (pnAt_go HR.out HB3.out) HB3.out.size)
    clear hb3
    obtain ⟨V, hV⟩ : ∃ V, (pkB D && nl D (D.n - 1)) = V := ⟨_, rfl⟩
    rw [hV]
    have HV := hide hV
    clear hV
    go_wp2_with fail
    refine (l_toPs D n a cap _ HX.out hl2 HNR.out HA3.out).mono ?_
    rintro e w4 ⟨g4, rfl, hg4, hr4, hb4⟩
    have HB4 := hide (HB3.out.trans (hb4.mono HB3.out.size))
    have HR4 := hide hr4
    clear hr4 hb4
    go_wp2_with fail
    refine (i_nullable D n _ _ _ HX.out HZ.out HR4.out (tzT_go HTZ.out HB4.out (Nat.le_refl _))).mono ?_
    rintro e w5 ⟨rfl, hb5⟩
    rw [HV.out]
    have HB5 := hide (HB4.out.trans (hb5.mono HB4.out.size))
    have HR5 := hide (pnAt_up (pnAt_go HR4.out hb5) hb5.size)
    have HA5 := hide (pnAt_up (pnAt_go HR.out HB5.out) HB5.out.size)
    clear hb5
    go_wp2_with fail
    refine (l_toPs D n a cap _ HX.out hl2 HNR.out HA5.out).mono ?_
    rintro e w6 ⟨g6, rfl, hg6, hr6, hb6⟩
    have HB6 := hide (HB5.out.trans (hb6.mono HB5.out.size))
    have HR6 := hide hr6
    have HR56 := hide (pnAt_up (pnAt_go HR5.out hb6) hb6.size)
    clear hr6 hb6
    go_wp2_with fail
    refine (l_eqPs D n _ _ _ _ _ HX.out hl2 HNR.out HR56.out HR6.out).mono ?_
    rintro e w7 ⟨rfl, hb7⟩
    have HB7 := hide (HB6.out.trans (hb7.mono HB6.out.size))
    clear hb7
    go_wp2
    go_ret
    exact ⟨rfl, HB7.out⟩
  · have HL := hide (dn_no hbig)
    clear hr hD hz
    go_enter Tryd.func3, Tryd.ntmps3
    go_wp2_with fail
    refine HS.out.mono ?_
    rintro e w1 ⟨rfl, hb1⟩
    rw [HL.out]
    have HB1 := hide hb1
    clear hb1
    go_wp2
    go_ret
    exact ⟨rfl, HB1.out⟩
end Go.Proofs.YteeglkkgkjmjpaaDoor
