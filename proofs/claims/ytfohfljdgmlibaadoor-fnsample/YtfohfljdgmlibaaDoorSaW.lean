/-
  The walk of FnSample: whatever the code is, a sample is taken, no row that is taken is shorter, and it is empty just where the model takes nothing.
-/
import Derived.Test.YtfohfljdgmlibaaDoorRmG
import Derived.Test.YtfohfljdgmlibaaDoorSaM
import Derived.Test.YtfohfljdgmlibaaDoorSmV
import Derived.Test.YtfohfljdgmlibaaDoorAcI
namespace Go.Proofs.YtfohfljdgmlibaaDoor
open Go.RowKit Go.Joins
set_option linter.unusedVariables false
set_option linter.unusedSimpArgs false
theorem src_below {w w' : World} {a : Option Addr} {zs : List Int} (h : SrcAt w a zs w.heap.size) (hb : Below w.heap.size w w') : SrcAt w' a zs w'.heap.size := by
  intro hne
  obtain ⟨b, off, e, hb1, hc⟩ := h hne
  exact ⟨b, off, e, Nat.lt_of_lt_of_le hb1 hb.size, fun j hj => (hb.cell (p := ⟨b, off + j, none⟩) hb1).trans (hc j hj)⟩
set_option maxRecDepth 100000 in
set_option maxHeartbeats 8000000 in
theorem sample_walk (a : Option Addr) (n cap : Nat) (zs : List Int) (w : World) (hl : zs.length = n) (hz : ∀ x ∈ zs, 0 ≤ x ∧ x ≤ 255) (hn : n ≤ 1048576) (hs : SrcAt w a zs w.heap.size) (hT : TzT w) :
    Calls Tryd.prog 5 #[.slice a n cap] w fun e w' => e = .returned (.bool true) ∧ Below w.heap.size w w' := by
  have HS := hide hs
  have HL := hide hl
  have HZ := hide hz
  have HT := hide hT
  have hn' : ¬ (1048576 : Int) < (n : Int) := by omega
  clear hs hl hz hT
  go_enter Tryd.func5, Tryd.ntmps5
  go_wp2_with (go_at_call 7; go_in)
  refine (d_sample a n cap zs _ HL.out HZ.out hn HS.out).mono ?_
  rintro e w1 ⟨ad, m, c, D, rfl, hD, hb1⟩
  have HD1 := hide hD
  have HB1 := hide hb1
  have hkl := smV_len hD.2.1
  clear hD hb1
  go_wp2_with fail
  refine (i_sampleV D m ad c _ HD1.out.1 HD1.out.2.1 HD1.out.2.2.2).mono ?_
  rintro e w2 ⟨adB, cB, rfl, hoB, hb2⟩
  have HB2 := hide (HB1.out.trans (hb2.mono HB1.out.size))
  have HD2 := hide (dm_go HD1.out hb2)
  have OB2 := hide hoB
  clear hoB hb2 HD1
  go_wp2_with fail
  refine (s_sampleV D m ad c _ HD2.out.1 HD2.out.2.1 HD2.out.2.2.2).mono ?_
  rintro e w3 ⟨adA, cA, rfl, hoA, hb3⟩
  have HB3 := hide (HB2.out.trans (hb3.mono HB2.out.size))
  have HD3 := hide (dm_go HD2.out hb3)
  have OB3 := hide (gOwn_after OB2.out hb3)
  have OA3 := hide hoA
  clear hoA hb3 HD2 OB2 HB1 HB2
  obtain ⟨L, hL⟩ : ∃ L, smV D = L := ⟨_, rfl⟩
  have HLL := hide hL
  rw [hL] at OB3 OA3 hkl
  rw [hL]
  clear hL
  have C0 := hide (fun (W : World) (h1 : TxAt W adB L W.heap.size) (h2 : TxAt W adA L W.heap.size) => l_sameTexts adB adA L.length cB cA L W rfl (by omega) h1 h2)
  cases hpk : pkB D
  · go_wp2_with fail
    refine (C0.out _ (tx_own OB3.out) (tx_own OA3.out)).mono ?_
    rintro e w4 ⟨rfl, hb4⟩
    have HB4 := hide (HB3.out.trans (hb4.mono HB3.out.size))
    have OB4 := hide (gOwn_after OB3.out hb4)
    have OA4 := hide (gOwn_after OA3.out hb4)
    clear hb4
    go_wp2_with fail
    refine (C0.out _ (tx_own OB4.out) (tx_own OA4.out)).mono ?_
    rintro e w5 ⟨rfl, hb5⟩
    have HB5 := hide (HB4.out.trans (hb5.mono HB4.out.size))
    clear hb5
    go_wp2
    go_ret
    exact ⟨rfl, HB5.out⟩
  · have hsv : smV D = sm D (D.n - 1) := smV_yes hpk
    have HTK : Hid (AcP D L) := hide (by rw [← HLL.out, hsv]; exact sm_taken hpk (by rw [← hsv, HLL.out]; omega))
    have HLS : Hid (∀ W, AcP D W → L.length ≤ W.length) := hide (fun W h => by rw [← HLL.out, hsv]; exact sm_least h)
    have HNU : Hid (decide (L.length = 0) = nl D (D.n - 1)) := hide (by rw [← HLL.out, hsv]; exact sm_null hpk)
    have HPK := hide hpk
    clear hsv hpk
    go_wp2_with fail
    refine (C0.out _ (tx_own OB3.out) (tx_own OA3.out)).mono ?_
    rintro e w4 ⟨rfl, hb4⟩
    have HB4 := hide (HB3.out.trans (hb4.mono HB3.out.size))
    have HD4 := hide (dm_go HD3.out hb4)
    have OB4 := hide (gOwn_after OB3.out hb4)
    clear hb4 HB3 HD3 OB3 OA3 C0
    go_wp2_with fail
    refine (d_accepts a n cap zs _ HL.out HZ.out hn (src_below HS.out HB4.out)).mono ?_
    rintro e w5 ⟨ad5, m5, c5, D5, sa, sc, T, rfl, -, hT6, -, hTx, hb5⟩
    have HB5 := hide (HB4.out.trans (hb5.mono HB4.out.size))
    have HD5 := hide (dm_go HD4.out hb5)
    have OB5 := hide (gOwn_after OB4.out hb5)
    have HX5 := hide hTx
    clear hTx hb5 HB4 HD4 OB4
    go_wp2_with fail
    refine (i_accepts D m ad c L L.length adB cB _ HD5.out.1 HD5.out.2.1 HD5.out.2.2.2 rfl (by omega) (tx_own OB5.out) (tzT_go HT.out HB5.out (Nat.le_refl _))).mono ?_
    rintro e w6 ⟨B6, rfl, hB6, hb6⟩
    have hB6t : B6 = true := hB6.2 HTK.out
    subst hB6t
    have HB6 := hide (HB5.out.trans (hb6.mono HB5.out.size))
    have HD6 := hide (dm_go HD5.out hb6)
    have HX6 := hide (tx_up (tx_go HX5.out hb6) hb6.size)
    clear hb6 hB6 HB5 HD5 OB5 HX5
    have hnu : ((((L.length : Nat) : Int) == 0) == (pkB D && nl D (D.n - 1))) = true := by
      rw [HPK.out, ← HNU.out]
      by_cases h0 : L.length = 0
      · simp [h0]
      · simp [h0]
    have HNQ := hide hnu
    clear hnu
    have CN := hide (fun (W : World) (h1 : DmA W ad m D) (h2 : TzT W) => i_nullable D m ad c W h1.1 h1.2.1 h1.2.2.2 h2)
    by_cases hle : L.length ≤ T.length
    · have hle' : (L.length : Int) ≤ (T.length : Int) := by omega
      have hle2 : decide (((T.length : Nat) : Int) ≥ ((L.length : Nat) : Int)) = true := decide_eq_true hle'
      go_wp2_with fail
      refine (CN.out _ HD6.out (tzT_go HT.out HB6.out (Nat.le_refl _))).mono ?_
      rintro e w7 ⟨rfl, hb7⟩
      have HB7 := hide (HB6.out.trans (hb7.mono HB6.out.size))
      clear hb7
      go_wp2
      go_ret
      exact ⟨ret_bool HNQ.out, HB7.out⟩
    · have hle' : ¬ (L.length : Int) ≤ (T.length : Int) := by omega
      have hle2 : decide (((T.length : Nat) : Int) ≥ ((L.length : Nat) : Int)) = false := decide_eq_false hle'
      go_wp2_with fail
      refine (i_accepts D m ad c T T.length sa sc _ HD6.out.1 HD6.out.2.1 HD6.out.2.2.2 rfl (by omega) HX6.out (tzT_go HT.out HB6.out (Nat.le_refl _))).mono ?_
      rintro e w7 ⟨B7, rfl, hB7, hb7⟩
      have hB7f : B7 = false := by
        cases B7
        · rfl
        · exact absurd (HLS.out T (hB7.1 rfl)) hle
      subst hB7f
      have HB7 := hide (HB6.out.trans (hb7.mono HB6.out.size))
      have HD7 := hide (dm_go HD6.out hb7)
      clear hb7 hB7
      go_wp2_with fail
      refine (CN.out _ HD7.out (tzT_go HT.out HB7.out (Nat.le_refl _))).mono ?_
      rintro e w8 ⟨rfl, hb8⟩
      have HB8 := hide (HB7.out.trans (hb8.mono HB7.out.size))
      clear hb8
      go_wp2
      go_ret
      exact ⟨ret_bool HNQ.out, HB8.out⟩
end Go.Proofs.YtfohfljdgmlibaaDoor
