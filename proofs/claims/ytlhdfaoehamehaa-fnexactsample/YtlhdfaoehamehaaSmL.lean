/-
  The walk of FnExactSample: at every row of nodes the two answers are the same, and the row is as it was; the answer owns its memory.
-/
import Derived.Test.YtlhdfaoehamehaaSmW
import Derived.Test.YtlhdfaoehamehaaPnEq
namespace Go.Proofs.Ytlhdfaoehamehaa
open Go.RowKit Go.Joins
set_option linter.unusedVariables false
set_option linter.unusedSimpArgs false
theorem own_chg {w w' : World} {B lo hi : Nat} {e : TypeId} {v : Value} {n : Nat} {xs : List Value} (h : w.ownsRow B e 1 v n xs) (k : Chg lo hi w w') (hX : ∀ j, v.ownBlock = some j → j < lo ∨ hi ≤ j) : w'.ownsRow B e 1 v n xs := by
  refine ⟨h.1, ?_⟩
  rcases h.2 with hn | ⟨g, cap, cur, hv, hB, hg, rest⟩
  · exact .inl hn
  · refine .inr ⟨g, cap, cur, hv, hB, ?_, rest⟩
    rw [k.block g (Array.getElem?_eq_some_iff.1 hg).1 (hX g (by rw [hv]; rfl))]; exact hg
theorem own_staysP {w w' : World} {B X : Nat} {e : TypeId} {v : Value} {n : Nat} {xs : List Value} (h : w.ownsRow B e 1 v n xs) (hb : Below X w w') (hX : ∀ k, v.ownBlock = some k → k < X) : w'.ownsRow B e 1 v n xs := by
  refine ⟨h.1, ?_⟩
  rcases h.2 with hn | ⟨g, cap, cur, hv, hB, hg, rest⟩
  · exact .inl hn
  · exact .inr ⟨g, cap, cur, hv, hB, (hb.block g (hX g (by rw [hv]; rfl))).trans hg, rest⟩
theorem sumN_kl {D : Pn} (h : pnTot D ≤ 1048576) : sumN (fun j => (D.KL j).length) D.n ≤ 1048576 := by
  unfold pnTot at h
  have h1 : ∀ m, sumN (fun j => (D.KL j).length) m ≤ sumN (pnSz D) m := by
    intro m
    induction m with
    | zero => exact Nat.le_refl _
    | succ m ih =>
      show sumN (fun j => (D.KL j).length) m + (D.KL m).length ≤ sumN (pnSz D) m + pnSz D m
      have : (D.KL m).length ≤ pnSz D m := by unfold pnSz; omega
      omega
  have := h1 D.n
  omega
set_option maxRecDepth 100000 in
set_option maxHeartbeats 8000000 in
theorem sm_walk (D : Pn) (n : Nat) (a : Option Addr) (cap : Nat) (w : World) (hD : D.n = n) (hz : PnSz D) (hr : PnAt w a D w.heap.size) :
    Calls Try.prog 5 #[.slice a n cap] w fun e w' => e = .returned (.bool true) ∧ Below w.heap.size w w' := by
  have HX := hide hD
  have HR := hide hr
  have HS := hide (l_szPs D n a cap w hD hz hr)
  by_cases hbig : (pnTot D : Int) ≤ 1048576
  · have HL := hide (dn_yes hbig)
    have hb9 : pnTot D ≤ 1048576 := by omega
    have hl2 : n ≤ 1048576 := by rw [← hD]; exact (pn_sz hb9).1
    have HNR : Hid (∀ j, j < n → (D.KL j).length ≤ 1048576) := hide (fun j hj => ((pn_sz hb9).2 j (by omega)).2)
    have HAC : Hid (sumN (fun j => (D.KL j).length) n ≤ 1048576) := hide (by rw [← hD]; exact sumN_kl hb9)
    have hl9 : (0 : Int) ≤ 1048576 - (pnTot D : Int) := by omega
    have hkl := smV_len hb9
    have CS := hide (fun (a' : Option Addr) (c' : Nat) (w' : World) (h : PnAt w' a' D w'.heap.size) => s_sampleV D n a' c' w' hD hb9 h)
    have CI := hide (fun (a' : Option Addr) (c' : Nat) (w' : World) (h : PnAt w' a' D w'.heap.size) => i_sampleV D n a' c' w' hD hb9 h)
    unfold SmpAns at CS CI
    obtain ⟨L, hL⟩ : ∃ L, smV D = L := ⟨_, rfl⟩
    obtain ⟨ok, hok⟩ : ∃ ok, pkB D = ok := ⟨_, rfl⟩
    rw [hL, hok] at CS CI
    rw [hL] at hkl
    have hn : L.length ≤ 1048576 := by omega
    have hc1 : ¬ (1 + (L.length : Int)) < 0 := by omega
    clear hr hD hz hb9 hkl hL hok
    go_enter Try.func5, Try.ntmps5
    go_wp2_with fail
    refine HS.out.mono ?_
    rintro e w1 ⟨rfl, hb1⟩
    rw [HL.out]
    have HA1 := hide (pnAt_up (pnAt_go HR.out hb1) hb1.size)
    have HB1 := hide hb1
    clear hb1
    go_wp2_with fail
    refine (l_toPs D n a cap _ HX.out hl2 HNR.out HA1.out).mono ?_
    rintro e w2 ⟨g2, rfl, hg2, hr2, hb2⟩
    have HB2 := hide (HB1.out.trans (hb2.mono HB1.out.size))
    have HR2 := hide hr2
    clear hr2 hb2
    go_wp2_with fail
    refine (CS.out _ _ _ HR2.out).mono ?_
    rintro e w3 ⟨adA, cA, rfl, hoA, hb3⟩
    have OA := hide hoA
    have HB3 := hide (HB2.out.trans (hb3.mono HB2.out.size))
    have HA3 := hide (pnAt_up (pnAt_go HR.out HB3.out) HB3.out.size)
    clear hoA hb3
    go_wp2_with fail
    refine (l_toPs2 D n a cap _ HX.out hl2 HNR.out HA3.out).mono ?_
    rintro e w4 ⟨g4, rfl, hg4, hr4, hsh4, hb4⟩
    have HB4 := hide (HB3.out.trans (hb4.mono HB3.out.size))
    have HB34 := hide hb4
    have HR4 := hide hr4
    have HSH4 := hide hsh4
    have OA4 := hide (gOwn_after OA.out hb4)
    clear hr4 hsh4 hb4
    go_wp2_with fail
    refine (CI.out _ _ _ HR4.out).mono ?_
    rintro e w5 ⟨adB, cB, rfl, hoB, hb5⟩
    have OB := hide hoB
    have HB45 := hide hb5
    have HB5 := hide (HB4.out.trans (hb5.mono HB4.out.size))
    have OA5 := hide (gOwn_after OA4.out hb5)
    clear hoB hb5
    go_wp2_with fail
    refine (eq_strs adB adA L.length cB cA L _ rfl hn (txAt_of OB.out) (txAt_of (B := w2.heap.size) OA5.out)).mono ?_
    rintro e w6 ⟨rfl, hb6⟩
    have HB6 := hide (HB5.out.trans (hb6.mono HB5.out.size))
    have HB46 := hide (HB45.out.trans (hb6.mono HB45.out.size))
    have HA6 := hide (pnAt_up (pnAt_go HR.out HB6.out) HB6.out.size)
    have OA6 := hide (gOwn_after OA5.out hb6)
    have OB6 := hide (gOwn_after OB.out hb6)
    clear hb6
    cases ok
    all_goals
      go_wp2_with fail
      refine (l_toPs D n a cap w6 HX.out hl2 HNR.out HA6.out).mono ?_
      rintro e w7 ⟨g7, rfl, hg7, hr7, hb7⟩
      have HB7 := hide (HB6.out.trans (hb7.mono HB6.out.size))
      have HB47 := hide (HB46.out.trans (hb7.mono HB46.out.size))
      have HR7 := hide hr7
      have HR47 := hide (pnAt_up (pnAt_go HR4.out HB47.out) HB47.out.size)
      have OA7 := hide (gOwn_after OA6.out hb7)
      have OB7 := hide (gOwn_after OB6.out hb7)
      clear hr7 hb7
      go_wp2_with fail
      refine (l_eqPs D n _ _ _ _ _ HX.out hl2 HNR.out HR47.out HR7.out).mono ?_
      rintro e w8 ⟨rfl, hb8⟩
      have HB8 := hide (HB7.out.trans (hb8.mono HB7.out.size))
      have HB48 := hide (HB47.out.trans (hb8.mono HB47.out.size))
      have OA8 := hide (gOwn_after OA7.out hb8)
      have OB8 := hide (gOwn_after OB7.out hb8)
      have HSH8 := hide (shI_go HSH4.out (chg_below (lo := 0) (hi := 0) HB48.out) (.inr (Nat.zero_le _)))
      clear hb8
      go_wp2_with fail
      refine (l_markPs g4 n n (fun j => (D.KL j).length) w3.heap.size w4.heap.size _ hl2 HAC.out HSH8.out).mono ?_
      rintro e w9 ⟨kk, rfl, hkk, hc9⟩
      have hkk2 : ¬ kk < 0 := by omega
      have HB9 := hide (below_chg HB8.out (Nat.le_refl _) HB3.out.size hc9)
      have OA9 := hide (own_chg OA8.out hc9 (fun j hj => .inl (OA.out.lt j hj).2))
      have OB9 := hide (own_chg OB8.out hc9 (fun j hj => .inr (OB.out.lt j hj).1))
      have hs9 : w4.heap.size ≤ w9.heap.size := Nat.le_trans HB48.out.size hc9.size
      clear hc9
      go_wp2_with fail
      refine (eq_strs adB adA L.length cB cA L _ rfl hn (txAt_of (B := w4.heap.size) OB9.out) (txAt_of (B := w2.heap.size) OA9.out)).mono ?_
      rintro e w10 ⟨rfl, hb10⟩
      have HB10 := hide (HB9.out.trans (hb10.mono HB9.out.size))
      have OA10 := hide (gOwn_after OA9.out hb10)
      have OB10 := hide (gOwn_after OB9.out hb10)
      have hs10 : w4.heap.size ≤ w10.heap.size := Nat.le_trans hs9 hb10.size
      clear hb10
      go_wp2_with fail
      refine (markS_any w4.heap.size adB L.length cB L w10 rfl hn hs10 OB10.out).mono ?_
      rintro e w11 ⟨rfl, ho11, hb11⟩
      have O11 := hide (show StrR w4.heap.size w11 adB cB (mkUp 1 L.length) from by unfold StrR; rw [mkUp_len]; exact ho11)
      have OA11 := hide (own_staysP OA10.out hb11 (fun j hj => Nat.lt_of_lt_of_le (OA.out.lt j hj).2 HB34.out.size))
      have HB11 := hide (HB10.out.trans (hb11.mono HB4.out.size))
      clear ho11 hb11
      go_wp2_with fail
      refine (held_strs adB L.length cB _ hn (txAt_of O11.out)).mono ?_
      rintro e w12 ⟨rfl, hb12⟩
      have HB12 := hide (HB11.out.trans (hb12.mono HB11.out.size))
      have HA12 := hide (pnAt_up (pnAt_go HR.out HB12.out) HB12.out.size)
      have OA12 := hide (gOwn_after OA11.out hb12)
      have O12 := hide (show StrR w4.heap.size w12 adB cB (mkUp 1 L.length) from gOwn_after O11.out hb12)
      clear hb12
      go_wp2_with fail
      refine (l_toPs D n a cap w12 HX.out hl2 HNR.out HA12.out).mono ?_
      rintro e w13 ⟨g13, rfl, hg13, hr13, hb13⟩
      have HB13 := hide (HB12.out.trans (hb13.mono HB12.out.size))
      have HR13 := hide hr13
      have OA13 := hide (gOwn_after OA12.out hb13)
      have O13 := hide (show StrR w4.heap.size w13 adB cB (mkUp 1 L.length) from gOwn_after O12.out hb13)
      clear hr13 hb13
      go_wp2_with fail
      refine (CI.out _ _ _ HR13.out).mono ?_
      rintro e w14 ⟨adC, cC, rfl, hoC, hb14⟩
      have OC := hide hoC
      have HB14 := hide (HB13.out.trans (hb14.mono HB13.out.size))
      have OA14 := hide (gOwn_after OA13.out hb14)
      have O14 := hide (show StrR w4.heap.size w14 adB cB (mkUp 1 L.length) from gOwn_after O13.out hb14)
      clear hoC hb14
      go_wp2_with fail
      refine (eq_strs adC adA L.length cC cA L _ rfl hn (txAt_of OC.out) (txAt_of (B := w2.heap.size) OA14.out)).mono ?_
      rintro e w15 ⟨rfl, hb15⟩
      have HB15 := hide (HB14.out.trans (hb15.mono HB14.out.size))
      have O15 := hide (show StrR w4.heap.size w15 adB cB (mkUp 1 L.length) from gOwn_after O14.out hb15)
      clear hb15
      go_wp2_with fail
      refine (held_strs adB L.length cB _ hn (txAt_of O15.out)).mono ?_
      rintro e w16 ⟨rfl, hb16⟩
      have HB16 := hide (HB15.out.trans (hb16.mono HB15.out.size))
      clear hb16
      go_wp2
      go_ret
      exact ⟨rfl, HB16.out⟩
  · have HL := hide (dn_no hbig)
    clear hr hD hz
    go_enter Try.func5, Try.ntmps5
    go_wp2_with fail
    refine HS.out.mono ?_
    rintro e w1 ⟨rfl, hb1⟩
    rw [HL.out]
    have HB1 := hide hb1
    clear hb1
    go_wp2
    go_ret
    exact ⟨rfl, HB1.out⟩
end Go.Proofs.Ytlhdfaoehamehaa
