/-
  The walk of FnExactKeysOk: at every row of keys the two answers are the same, and the row is as it was.
-/
import Derived.Test.YtkfhhgfmjkjldaaDoorKyS
import Derived.Test.YtkfhhgfmjkjldaaDoorKyTo
import Derived.Test.YtkfhhgfmjkjldaaDoorKyLk
import Derived.Test.YtkfhhgfmjkjldaaDoorPlK
namespace Go.Proofs.YtkfhhgfmjkjldaaDoor
open Go.RowKit Go.Joins
set_option linter.unusedVariables false
set_option linter.unusedSimpArgs false
theorem ky_few {L : List Ky} (h : kyTot L ≤ 1048576) : KyFew L := by
  obtain ⟨h1, h2⟩ := ky_sz h
  refine ⟨h1, fun j hj => ?_⟩
  have h3 := h2 j hj
  unfold kyS txTot at h3
  refine ⟨by omega, by omega, by omega, by omega, by omega, fun i hi => ?_⟩
  have h4 := sumN_at (fun q => ((kyA L j).fl[q]?.getD ⟨#[]⟩).size) hi
  unfold txS at h3
  have h5 : (fun q => ((kyA L j).fl[q]?.getD ⟨#[]⟩).size) i = ((kyA L j).fl[i]?.getD ⟨#[]⟩).size := rfl
  omega
set_option maxRecDepth 100000 in
set_option maxHeartbeats 4000000 in
theorem ky_walk (L : List Ky) (n : Nat) (a : Option Addr) (cap : Nat) (w : World) (hD : L.length = n) (hz : KySz L) (hr : KyAt w a L w.heap.size) (hM : MaxL w) :
    Calls Tryd.prog 3 #[.slice a n cap] w fun e w' => e = .returned (.bool true) ∧ Below w.heap.size w w' := by
  have HX := hide hD
  have HR := hide hr
  have HM := hide hM
  have HS := hide (l_szKs L n a cap w hD hz hr)
  by_cases hbig : (kyTot L : Int) ≤ 1048576
  · have HL := hide (dn_yes hbig)
    have hb9 : kyTot L ≤ 1048576 := by omega
    have HF := hide (ky_few hb9)
    have hl2 : n ≤ 1048576 := by rw [← hD]; exact (ky_sz hb9).1
    have HNR : Hid (∀ j, j < n → (kyA L j).fl.length ≤ 1048576) := hide (fun j hj => ((ky_few hb9).2 j (by omega)).2.2.2.2.1)
    have hl9 : (0 : Int) ≤ 1048576 - (kyTot L : Int) := by omega
    clear hr hD hz hb9 hM
    go_enter Tryd.func3, Tryd.ntmps3
    go_wp2_with fail
    refine HS.out.mono ?_
    rintro e w1 ⟨rfl, hb1⟩
    rw [HL.out]
    have HA1 := hide (kyAt_up (kyAt_go HR.out hb1) hb1.size)
    have HB1 := hide hb1
    clear hb1
    go_wp2_with fail
    refine (l_toKs L n a cap _ HX.out hl2 HNR.out HA1.out).mono ?_
    rintro e w2 ⟨g2, rfl, hg2, hr2, hb2⟩
    have HB2 := hide (HB1.out.trans (hb2.mono HB1.out.size))
    have HR2 := hide hr2
    clear hr2 hb2
    go_wp2_with fail
    refine (s_keys L n _ _ _ HX.out HF.out HR2.out).mono ?_
    rintro e w3 ⟨hb3, V, rfl, hV⟩
    have HB3 := hide (HB2.out.trans (hb3.mono HB2.out.size))
    have HA3 := hide (kyAt_up (kyAt_go HR.out HB3.out) HB3.out.size)
    have HV := hide hV
    clear hb3 hV
    go_wp2_with fail
    refine (l_toKs L n a cap _ HX.out hl2 HNR.out HA3.out).mono ?_
    rintro e w4 ⟨g4, rfl, hg4, hr4, hb4⟩
    have HB4 := hide (HB3.out.trans (hb4.mono HB3.out.size))
    have HR4 := hide hr4
    clear hr4 hb4
    go_wp2_with fail
    refine (i_keys L n _ _ _ HX.out HF.out HR4.out (maxL_go HM.out HB4.out (Nat.le_refl _))).mono ?_
    rintro e w5 ⟨hb5, U, rfl, hU⟩
    have hUV : U = V := by
      have h9 := HV.out
      cases U <;> cases V <;> simp_all
    subst hUV
    have HB5 := hide (HB4.out.trans (hb5.mono HB4.out.size))
    have HR5 := hide (kyAt_up (kyAt_go HR4.out hb5) hb5.size)
    have HA5 := hide (kyAt_up (kyAt_go HR.out HB5.out) HB5.out.size)
    clear hb5 hU
    have CE : Hid (∀ (g6 : Nat) (w6 : World), KyAt w6 (some ⟨g6, 0, none⟩) L w6.heap.size → Below w5.heap.size w5 w6 → Calls Tryd.prog 8 #[.slice (some ⟨g4, 0, none⟩) n n, .slice (some ⟨g6, 0, none⟩) n n] w6 fun e w' => e = .returned (.bool true) ∧ Below w6.heap.size w6 w') := hide (fun g6 w6 h6 hb6 => l_eqKs L n _ _ n n w6 HX.out hl2 HNR.out (kyAt_up (kyAt_go HR5.out hb6) hb6.size) h6)
    cases U
    all_goals
      go_wp2_with fail
      refine (l_toKs L n a cap _ HX.out hl2 HNR.out HA5.out).mono ?_
      rintro e w6 ⟨g6, rfl, hg6, hr6, hb6⟩
      have HB6 := hide (HB5.out.trans (hb6.mono HB5.out.size))
      have CE6 := hide (CE.out g6 w6 hr6 hb6)
      clear hr6 hb6
      go_wp2_with fail
      refine CE6.out.mono ?_
      rintro e w7 ⟨rfl, hb7⟩
      have HB7 := hide (HB6.out.trans (hb7.mono HB6.out.size))
      clear hb7
      go_wp2
      go_ret
      exact ⟨rfl, HB7.out⟩
  · have HL := hide (dn_no hbig)
    clear hr hD hz hM
    go_enter Tryd.func3, Tryd.ntmps3
    go_wp2_with fail
    refine HS.out.mono ?_
    rintro e w1 ⟨rfl, hb1⟩
    rw [HL.out]
    have HB1 := hide hb1
    clear hb1
    go_wp2
    go_ret
    exact ⟨rfl, HB1.out⟩
end Go.Proofs.YtkfhhgfmjkjldaaDoor
