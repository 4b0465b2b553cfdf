/-
  The walk of FnExactAccepts: at every row of nodes and row of names the two answers are the same, and the rows are as they were.
-/
import Derived.Test.YteeglkkgkjmjpaaDoorAcI
import Derived.Test.YteeglkkgkjmjpaaDoorAcS5
import Derived.Test.YteeglkkgkjmjpaaDoorPnEq
namespace Go.Proofs.YteeglkkgkjmjpaaDoor
open Go.RowKit Go.Joins
set_option linter.unusedVariables false
set_option linter.unusedSimpArgs false
theorem bool_iff {A B : Bool} {P : Prop} (h1 : A = true ↔ P) (h2 : B = true ↔ P) : A = B := by
  cases A <;> cases B
  · rfl
  · exact absurd (h1.2 (h2.1 rfl)) (by decide)
  · exact absurd (h2.2 (h1.1 rfl)) (by decide)
  · rfl
theorem own_tx {w : World} {B n c g : Nat} {t : TypeId} {xs : List ByteArray} (h : w.ownsRow B t 1 (.slice (some ⟨g, 0, none⟩) n c) n (xs.map Value.string)) : TxAt w (some ⟨g, 0, none⟩) xs w.heap.size := tx_own h
set_option maxRecDepth 100000 in
set_option maxHeartbeats 8000000 in
theorem ac_walk (D : Pn) (n : Nat) (a : Option Addr) (cap : Nat) (Q : List ByteArray) (m : Nat) (b : Option Addr) (cq : Nat) (w : World) (hD : D.n = n) (hz : PnSz D) (hr : PnAt w a D w.heap.size) (hQ : Q.length = m) (hqz : TxSz Q) (hq : TxAt w b Q w.heap.size) (hT : TzT w) :
    Calls Tryd.prog 8 #[.slice a n cap, .slice b m cq] w fun e w' => e = .returned (.bool true) ∧ Below w.heap.size w w' := by
  have HX := hide hD
  have HR := hide hr
  have HQL := hide hQ
  have HQZ := hide hqz
  have HQ := hide hq
  have HTZ := hide hT
  clear hT
  have HS := hide (l_szPs D n a cap w hD hz hr)
  by_cases hbig : (pnTot D : Int) ≤ 1048576
  · have HL := hide (dn_yes hbig)
    have hb9 : pnTot D ≤ 1048576 := by omega
    have HZ := hide hb9
    have hl2 : n ≤ 1048576 := by rw [← hD]; exact (pn_sz hb9).1
    have HNR : Hid (∀ j, j < n → (D.KL j).length ≤ 1048576) := hide (fun j hj => ((pn_sz hb9).2 j (by omega)).2)
    have hl9 : (0 : Int) ≤ 1048576 - (pnTot D : Int) := by omega
    have hl8 : 1048576 - (pnTot D : Int) ≤ 1048576 := by omega
    obtain ⟨left, hlf⟩ : ∃ left : Int, 1048576 - (pnTot D : Int) = left := ⟨_, rfl⟩
    rw [hlf] at HL hl9 hl8
    by_cases hbig2 : (txTot Q : Int) ≤ left
    · have HL2 := hide (dn_yes hbig2)
      have hl7 : (0 : Int) ≤ left - (txTot Q : Int) := by omega
      have hm2 : m ≤ 1048576 := by
        have : Q.length ≤ txTot Q := by unfold txTot; omega
        omega
      clear hr hD hz hb9 hQ hqz hq hlf
      go_enter Tryd.func8, Tryd.ntmps8
      go_wp2_with fail
      refine HS.out.mono ?_
      rintro e w1 ⟨rfl, hb1⟩
      rw [HL.out]
      have HA1 := hide (pnAt_up (pnAt_go HR.out hb1) hb1.size)
      have HQ1 := hide (tx_up (tx_go HQ.out hb1) hb1.size)
      have HB1 := hide hb1
      clear hb1
      go_wp2_with fail
      refine (sz_strs b m cq Q left _ HQL.out HQZ.out hl9 hl8 HQ1.out).mono ?_
      rintro e w1' ⟨rfl, rfl⟩
      rw [HL2.out]
      go_wp2_with fail
      refine (l_toPs D n a cap _ HX.out hl2 HNR.out HA1.out).mono ?_
      rintro e w2 ⟨g2, rfl, hg2, hr2, hb2⟩
      have HB2 := hide (HB1.out.trans (hb2.mono HB1.out.size))
      have HR2 := hide hr2
      have HQ2 := hide (tx_up (tx_go HQ.out HB2.out) HB2.out.size)
      clear hr2 hb2
      go_wp2_with fail
      refine (to_strs b m cq Q _ HQL.out hm2 HQ2.out).mono ?_
      rintro e w2q ⟨rfl, ho2, hb2⟩
      have HB2q := hide (HB2.out.trans (hb2.mono HB2.out.size))
      have HR2q := hide (pnAt_up (pnAt_go HR2.out hb2) hb2.size)
      have HT2 := hide (own_tx ho2)
      clear ho2 hb2
      go_wp2_with fail
      refine (s_accepts D n _ _ Q m _ _ _ HX.out HZ.out HR2q.out HQL.out hm2 HT2.out).mono ?_
      rintro e w3 ⟨V, rfl, hV, hb3⟩
      have HV := hide hV
      have HB3 := hide (HB2q.out.trans (hb3.mono HB2q.out.size))
      have HA3 := hide (pnAt_up (pnAt_go HR.out HB3.out) HB3.out.size)
      clear hV hb3
      go_wp2_with fail
      refine (l_toPs D n a cap _ HX.out hl2 HNR.out HA3.out).mono ?_
      rintro e w4 ⟨g4, rfl, hg4, hr4, hb4⟩
      have HB4 := hide (HB3.out.trans (hb4.mono HB3.out.size))
      have HR4 := hide hr4
      have HQ4 := hide (tx_up (tx_go HQ.out HB4.out) HB4.out.size)
      clear hr4 hb4
      go_wp2_with fail
      refine (to_strs b m cq Q _ HQL.out hm2 HQ4.out).mono ?_
      rintro e w4q ⟨rfl, ho4, hb4⟩
      have HB4q := hide (HB4.out.trans (hb4.mono HB4.out.size))
      have HR4q := hide (pnAt_up (pnAt_go HR4.out hb4) hb4.size)
      have HT4 := hide (own_tx ho4)
      clear ho4 hb4
      obtain ⟨g4q, hg4q⟩ : ∃ g, w4.heap.size = g := ⟨_, rfl⟩
      rw [hg4q] at HT4 ⊢
      clear hg4q
      go_wp2_with fail
      refine (i_accepts D n _ _ Q m _ _ _ HX.out HZ.out HR4q.out HQL.out hm2 HT4.out (tzT_go HTZ.out HB4q.out (Nat.le_refl _))).mono ?_
      rintro e w5 ⟨V', rfl, hV, hb5⟩
      have hVV := bool_iff hV HV.out
      subst hVV
      have HB5 := hide (HB4q.out.trans (hb5.mono HB4q.out.size))
      have HR5 := hide (pnAt_up (pnAt_go HR4q.out hb5) hb5.size)
      have HT5 := hide (tx_up (tx_go HT4.out hb5) hb5.size)
      have HA5 := hide (pnAt_up (pnAt_go HR.out HB5.out) HB5.out.size)
      clear hb5 hV
      go_wp2_with fail
      refine (l_toPs D n a cap _ HX.out hl2 HNR.out HA5.out).mono ?_
      rintro e w6 ⟨g6, rfl, hg6, hr6, hb6⟩
      have HB6 := hide (HB5.out.trans (hb6.mono HB5.out.size))
      have HR6 := hide hr6
      have HR56 := hide (pnAt_up (pnAt_go HR5.out hb6) hb6.size)
      have HT6 := hide (tx_up (tx_go HT5.out hb6) hb6.size)
      clear hr6 hb6
      go_wp2_with fail
      refine (l_eqPs D n _ _ _ _ _ HX.out hl2 HNR.out HR56.out HR6.out).mono ?_
      rintro e w7 ⟨rfl, hb7⟩
      have HB7 := hide (HB6.out.trans (hb7.mono HB6.out.size))
      have HT7 := hide (tx_up (tx_go HT6.out hb7) hb7.size)
      have HQ7 := hide (tx_up (tx_go HQ.out HB7.out) HB7.out.size)
      clear hb7
      go_wp2_with fail
      refine (to_strs b m cq Q _ HQL.out hm2 HQ7.out).mono ?_
      rintro e w8 ⟨rfl, ho8, hb8⟩
      have HB8 := hide (HB7.out.trans (hb8.mono HB7.out.size))
      have HT8 := hide (tx_up (tx_go HT7.out hb8) hb8.size)
      have HO8 := hide (own_tx ho8)
      clear ho8 hb8
      go_wp2_with fail
      refine (eq_strs _ _ m _ _ Q _ HQL.out hm2 HT8.out HO8.out).mono ?_
      rintro e w9 ⟨rfl, hb9⟩
      have HB9 := hide (HB8.out.trans (hb9.mono HB8.out.size))
      clear hb9
      go_wp2
      go_ret
      exact ⟨rfl, HB9.out⟩
    · have HL2 := hide (dn_no hbig2)
      clear hr hD hz hb9 hQ hqz hq hlf
      go_enter Tryd.func8, Tryd.ntmps8
      go_wp2_with fail
      refine HS.out.mono ?_
      rintro e w1 ⟨rfl, hb1⟩
      rw [HL.out]
      have HQ1 := hide (tx_up (tx_go HQ.out hb1) hb1.size)
      have HB1 := hide hb1
      clear hb1
      go_wp2_with fail
      refine (sz_strs b m cq Q left _ HQL.out HQZ.out hl9 hl8 HQ1.out).mono ?_
      rintro e w1' ⟨rfl, rfl⟩
      rw [HL2.out]
      go_wp2
      go_ret
      exact ⟨rfl, HB1.out⟩
  · have HL := hide (dn_no hbig)
    clear hr hD hz hQ hqz hq
    go_enter Tryd.func8, Tryd.ntmps8
    go_wp2_with fail
    refine HS.out.mono ?_
    rintro e w1 ⟨rfl, hb1⟩
    rw [HL.out]
    have HB1 := hide hb1
    clear hb1
    go_wp2
    go_ret
    exact ⟨rfl, HB1.out⟩
end Go.Proofs.YteeglkkgkjmjpaaDoor
