/-
  Contracts: clear models, by the specification.
-/
import Derived.Test.YtfohfljdgmlibaaDoorS18
import Derived.Test.YtfohfljdgmlibaaDoorS27
namespace Go.Proofs.YtfohfljdgmlibaaDoor
open Go.RowKit Go.Joins
set_option linter.unusedVariables false
set_option linter.unusedSimpArgs false
/-- The cells of two nodes that are held against each other. -/
theorem pn_two {D : Pn} {n b0 off : Nat} {w : World} (hRN : RN D n) (hr : PnRow w b0 off D w.heap.size) {x : Int} (hx : 0 ≤ x ∧ x < (n : Int)) : ∃ (i : Nat) (ad : Option Addr) (cp : Nat), x = (i : Int) ∧ i < n ∧ PnCells w b0 (off + i * 4) D i ad cp := by
  obtain ⟨i, rfl⟩ : ∃ i : Nat, x = (i : Int) := ⟨x.toNat, by omega⟩
  have hi : i < n := by omega
  obtain ⟨ad, cp, hc, -, -⟩ := hr i (by rw [hRN.1]; exact hi)
  exact ⟨i, ad, cp, rfl, hi, hc⟩
set_option maxRecDepth 100000 in
set_option maxHeartbeats 8000000 in
theorem s_apart (D : Pn) (n b0 off cap : Nat) (ad : Option Addr) (m c : Nat) (L : List Int) (w : World) (hRN : RN D n) (hbs : b0 < w.heap.size) (hr : PnRow w b0 off D w.heap.size) (hm : L.length = m) (hm2 : m ≤ 64) (hL : ∀ z ∈ L, 0 ≤ z ∧ z < (n : Int)) (hat : RowAt .i64 w ad L w.heap.size) :
    Calls Tryd.prog 51 #[.slice (some ⟨b0, off, none⟩) n cap, .slice ad m c] w fun r w' => r = .returned (.bool (apB D L)) ∧ Below w.heap.size w w' := by
  have HR := hide hr
  have HRN := hide hRN
  have HM := hide hm
  have HL := hide hL
  have HAT := hide hat
  have hn40 := hRN.2.1
  clear hr hRN hm hL hat
  go_enter Tryd.func51, Tryd.ntmps51
  go_wp2
  go_loopw [5] (fun mv wr => ∃ (i : Nat), i ≤ m ∧ mv = .int .i64 i ∧ Hid (Below w.heap.size w wr) ∧ Hid (∀ j, j < i → ∀ k, k < j → apP D (L[j]?.getD 0) (L[k]?.getD 0) = true)) (fun mv _ => m - (intOf mv).toNat)
  case atStart => exact ⟨0, Nat.zero_le _, rfl, hide (Below.refl _ _), hide (fun j hj => by omega)⟩
  case round =>
    obtain ⟨i, hi, rfl, HB, HA⟩ := hrel
    by_cases hlt : i < m
    · obtain ⟨b9, off9, rfl, hb9, hc9⟩ := rowAt_cell HAT.out i (by rw [HM.out]; exact hlt)
      have HC9 := hide hc9
      clear hc9
      go_wp2
      go_loopw [6] (fun mv wr => ∃ (k : Nat), k ≤ i ∧ mv = .int .i64 k ∧ Hid (Below w.heap.size w wr) ∧ Hid (∀ j, j < k → apP D (L[i]?.getD 0) (L[j]?.getD 0) = true)) (fun mv _ => i - (intOf mv).toNat)
      case atStart => exact ⟨0, Nat.zero_le _, rfl, HB, hide (fun j hj => by omega)⟩
      case round =>
        clear HB
        obtain ⟨k, hk, rfl, HB, HK⟩ := hrel
        by_cases hlk : k < i
        · have hiL : i < L.length := by rw [HM.out]; exact hlt
          have hkL : k < L.length := by rw [HM.out]; omega
          have x0 := (HB.out.cell (p := ⟨b9, off9 + i, none⟩) hb9).trans (HC9.out i hiL)
          have y0 := (HB.out.cell (p := ⟨b9, off9 + k, none⟩) hb9).trans (HC9.out k hkL)
          obtain ⟨p, ap, cp, hxp, hp, hpc⟩ := pn_two (HRN.out) HR.out (HL.out (L[i]?.getD 0) (by rw [List.getElem?_eq_getElem hiL]; exact List.getElem_mem hiL))
          obtain ⟨q, aq, cq, hxq, hq, hqc⟩ := pn_two (HRN.out) HR.out (HL.out (L[k]?.getD 0) (by rw [List.getElem?_eq_getElem hkL]; exact List.getElem_mem hkL))
          obtain ⟨p0, p1, p2, p3⟩ := pnCells_go hpc hbs HB.out
          obtain ⟨q0, q1, q2, q3⟩ := pnCells_go hqc hbs HB.out
          have HAP : Hid (apP D (L[i]?.getD 0) (L[k]?.getD 0) = (decide (D.K p ≠ 4) && (decide (D.K q ≠ 4) && !((D.NM p).toList == (D.NM q).toList)))) := hide (by rw [hxp, hxq]; rfl)
          rw [hxp] at x0
          rw [hxq] at y0
          have hbl : b0 < wr.heap.size := Nat.lt_of_lt_of_le hbs HB.out.size
          have hb9l : b9 < wr.heap.size := Nat.lt_of_lt_of_le hb9 HB.out.size
          have hpi : (p : Int) < (n : Int) := by omega
          have hp0 : (0 : Int) ≤ (p : Int) := by omega
          have hqi : (q : Int) < (n : Int) := by omega
          have hq0 : (0 : Int) ≤ (q : Int) := by omega
          have hii : (i : Int) < (m : Int) := by omega
          have hi0 : (0 : Int) ≤ (i : Int) := by omega
          have hki : (k : Int) < (m : Int) := by omega
          have hkk : (k : Int) < (i : Int) := by omega
          have hk0 : (0 : Int) ≤ (k : Int) := by omega
          have HB2 := hide (fun (o1 o2 : Obj) => (HB.out.alloc HB.out.size o1).alloc (by have := HB.out.size; simp; omega) o2)
          obtain ⟨Kp, hKp⟩ : ∃ Kp, D.K p = Kp := ⟨_, rfl⟩
          obtain ⟨Kq, hKq⟩ : ∃ Kq, D.K q = Kq := ⟨_, rfl⟩
          obtain ⟨Np, hNp⟩ : ∃ Np, D.NM p = Np := ⟨_, rfl⟩
          obtain ⟨Nq, hNq⟩ : ∃ Nq, D.NM q = Nq := ⟨_, rfl⟩
          rw [hKp] at p0 HAP
          rw [hKq] at q0 HAP
          rw [hNp] at p1 HAP
          rw [hNq] at q1 HAP
          clear hKp hKq hNp hNq hpc hqc hxp hxq
          by_cases hk1 : Kp = 4
          · have HF := hide (apB_no hiL hlk (by rw [HAP.out, hk1]; rfl))
            subst hk1
            clear hiL hkL
            go_wp2
            go_ret
            exact ⟨ret_bool HF.out.symm, HB2.out _ _⟩
          · have e1 : (Kp == 4) = false := by simpa using hk1
            by_cases hk2 : Kq = 4
            · have HF := hide (apB_no hiL hlk (by rw [HAP.out, hk2]; simp))
              subst hk2
              clear hiL hkL hk1
              go_wp2
              go_ret
              exact ⟨ret_bool HF.out.symm, HB2.out _ _⟩
            · have e2 : (Kq == 4) = false := by simpa using hk2
              cases hnn : (Np.toList == Nq.toList)
              · have HY : Hid (apP D (L[i]?.getD 0) (L[k]?.getD 0) = true) := hide (by rw [HAP.out, hnn]; simp [hk1, hk2])
                have HK2 : Hid (∀ j, j < k + 1 → apP D (L[i]?.getD 0) (L[j]?.getD 0) = true) := hide (fun j hj => by
                  by_cases e : j = k
                  · subst e; exact HY.out
                  · exact HK.out j (by omega))
                clear hiL hkL hk1 hk2
                go_wp2
                go_roundw
                case rel => exact ⟨k + 1, by omega, by go_num, hide (HB2.out _ _), HK2⟩
                case measure => simp [intOf]; omega
              · have HF := hide (apB_no hiL hlk (by rw [HAP.out, hnn]; simp))
                clear hiL hkL hk1 hk2
                go_wp2
                go_ret
                exact ⟨ret_bool HF.out.symm, HB2.out _ _⟩
        · have HA2 : Hid (∀ j, j < i + 1 → ∀ k, k < j → apP D (L[j]?.getD 0) (L[k]?.getD 0) = true) := hide (fun j hj k2 hk2 => by
            by_cases e : j = i
            · subst e; exact HK.out k2 (by omega)
            · exact HA.out j (by omega) k2 hk2)
          go_wp2
          go_roundw
          case rel => exact ⟨i + 1, by omega, by go_num, HB, HA2⟩
          case measure => simp [intOf]; omega
    · have HF : Hid (apB D L = true) := hide (apB_yes (fun j hj k hk => HA.out j (by rw [HM.out] at hj; omega) k hk))
      go_wp2
      go_ret
      exact ⟨ret_bool HF.out.symm, HB.out⟩
set_option maxRecDepth 100000 in
set_option maxHeartbeats 8000000 in
theorem s_clear (D : Pn) (n : Nat) (a : Option Addr) (cap : Nat) (w : World) (hD : D.n = n) (hz : pnTot D ≤ 1048576) (hr : PnAt w a D w.heap.size) :
    Calls Tryd.prog 23 #[.slice a n cap] w fun e w' => e = .returned (.bool (clB D)) ∧ Below w.heap.size w w' := by
  have HP := hide (s_particle D n a cap w hD hz hr)
  cases hpk : pkB D
  · rw [hpk] at HP
    have HE := hide (clB_wrong hpk)
    clear hD hz hr hpk
    go_enter Tryd.func23, Tryd.ntmps23
    go_wp2_with (first | (go_at_call 11; refine HP.out.mono ?_; rintro r w1 ⟨rfl, hb1⟩; have HB1 := hide hb1; clear hb1))
    go_ret
    exact ⟨ret_bool HE.out.symm, HB1.out⟩
  · have HPK := hide hpk
    have HD := hide hD
    have hRN := rn_of hD hpk hz
    have hn1 : 1 ≤ n ∧ n ≤ 40 := by rw [← hD]; exact (pk_facts hpk).1
    have CFI := hide (fun (W : World) (hW : Below w.heap.size w W) => s_firstOf D n a cap W hD hz (pnAt_up (pnAt_go hr hW) hW.size))
    obtain ⟨b0, off, rfl, hb0, hrow⟩ := hr (by rw [hD]; omega)
    have CP := hide (fun (x : Int) (W : World) (hW : Below w.heap.size w W) => s_pos D n b0 off cap x W hRN hn1.1 (Nat.lt_of_lt_of_le hb0 hW.size) (pnRow_up (pnRow_go hrow hb0 hW) hW.size))
    have CF := hide (fun (x : Int) (W : World) (hW : Below w.heap.size w W) => s_follow D n b0 off cap x W hRN (Nat.lt_of_lt_of_le hb0 hW.size) (pnRow_up (pnRow_go hrow hb0 hW) hW.size))
    have CA := hide (fun (ad : Option Addr) (m c : Nat) (L : List Int) (W : World) (hW : Below w.heap.size w W) => s_apart D n b0 off cap ad m c L W hRN (Nat.lt_of_lt_of_le hb0 hW.size) (pnRow_up (pnRow_go hrow hb0 hW) hW.size))
    have HFR : Hid (∀ z ∈ foV D, 0 ≤ z ∧ z < (n : Int)) := hide (by rw [← hD]; exact foV_range hpk)
    have hfl := foV_len (D := D)
    obtain ⟨FO, hFO⟩ : ∃ FO, foV D = FO := ⟨_, rfl⟩
    have HFO := hide hFO
    rw [hFO] at CFI HFR hfl
    rw [hpk] at HP
    clear hD hz hr hpk hrow hRN hFO
    unfold IntAns at CFI CF
    cases hap : apB D FO
    · have HE : Hid (clB D = false) := hide (clB_first (by rw [HFO.out]; exact hap))
      have HAP := hide hap
      clear hap
      go_enter Tryd.func23, Tryd.ntmps23
      go_wp2_with (first
        | (go_at_call 11; refine HP.out.mono ?_; rintro r w1 ⟨rfl, hb1⟩; have HB1 := hide hb1; clear hb1)
        | (go_at_call 46; refine (CFI.out _ HB1.out).mono ?_; rintro r w2 ⟨ad2, c2, rfl, ho2, hb2⟩; have HO2 := hide ho2; have HB2 := hide (HB1.out.trans (hb2.mono HB1.out.size)); clear ho2 hb2)
        | (go_at_call 51; refine (CA.out ad2 FO.length c2 FO _ HB2.out rfl (by omega) HFR.out (own_rowAt9 HO2.out)).mono ?_; rintro r w3 ⟨rfl, hb3⟩; rw [HAP.out]; have HB3 := hide (HB2.out.trans (hb3.mono HB2.out.size)); clear hb3))
      go_ret
      exact ⟨ret_bool HE.out.symm, HB3.out⟩
    · have HAP := hide hap
      clear hap
      go_enter Tryd.func23, Tryd.ntmps23
      go_wp2_with (first
        | (go_at_call 11; refine HP.out.mono ?_; rintro r w1 ⟨rfl, hb1⟩; have HB1 := hide hb1; clear hb1)
        | (go_at_call 46; refine (CFI.out _ HB1.out).mono ?_; rintro r w2 ⟨ad2, c2, rfl, ho2, hb2⟩; have HO2 := hide ho2; have HB2 := hide (HB1.out.trans (hb2.mono HB1.out.size)); clear ho2 hb2)
        | (go_at_call 51; refine (CA.out ad2 FO.length c2 FO _ HB2.out rfl (by omega) HFR.out (own_rowAt9 HO2.out)).mono ?_; rintro r w3 ⟨rfl, hb3⟩; rw [HAP.out]; have HB3 := hide (HB2.out.trans (hb3.mono HB2.out.size)); clear hb3))
      go_loopw [3] (fun mv wr => ∃ (i : Nat), i ≤ n ∧ mv = .int .i64 i ∧ Hid (Below w.heap.size w wr) ∧ Hid (∀ j, j < i → posB D j = true → apB D (flV D j) = true)) (fun mv _ => n - (intOf mv).toNat)
      case atStart => exact ⟨0, Nat.zero_le _, rfl, HB3, hide (fun j hj => by omega)⟩
      case round =>
        obtain ⟨i, hi, rfl, HB, HA⟩ := hrel
        by_cases hlt : i < n
        · have CPi := hide (CP.out (i : Int) wr HB.out)
          have hii : (i : Int) < (n : Int) := by omega
          cases hpo : posB D (i : Int)
          · have HA2 : Hid (∀ j, j < i + 1 → posB D j = true → apB D (flV D j) = true) := hide (fun j hj hp => by
              by_cases e : j = i
              · subst e; rw [hpo] at hp; cases hp
              · exact HA.out j (by omega) hp)
            rw [hpo] at CPi
            clear hpo
            go_wp2_with (first | (go_at_call 52; refine CPi.out.mono ?_; rintro r9 w9 ⟨rfl, h9⟩; rw [h9]; clear h9 w9))
            go_roundw
            case rel => exact ⟨i + 1, by omega, by go_num, HB, HA2⟩
            case measure => simp [intOf]; omega
          · have HPO := hide hpo
            rw [hpo] at CPi
            have CFi := hide (CF.out (i : Int) wr HB.out)
            have hv : srtL (foL D i n) = flV D i := by unfold flV; rw [if_pos ⟨HPK.out, hpo⟩, HD.out]
            rw [hv] at CFi
            have HVR : Hid (∀ z ∈ flV D i, 0 ≤ z ∧ z < (n : Int)) := hide (by rw [← HD.out]; exact flV_range HPK.out)
            have hvl := flV_len (D := D) (x := (i : Int))
            obtain ⟨V, hV⟩ : ∃ V, flV D i = V := ⟨_, rfl⟩
            have HV := hide hV
            rw [hV] at CFi HVR hvl
            clear hpo hv hV
            cases hap2 : apB D V
            · have HE : Hid (clB D = false) := hide (clB_no (i := i) (by rw [HD.out]; exact hlt) HPO.out (by rw [HV.out]; exact hap2))
              have HAP2 := hide hap2
              clear hap2
              go_wp2_with (first
                | (go_at_call 52; refine CPi.out.mono ?_; rintro r9 w9 ⟨rfl, h9⟩; rw [h9]; clear h9 w9)
                | (go_at_call 47; refine CFi.out.mono ?_; rintro r w2 ⟨ad2, c2, rfl, ho2, hb2⟩; have HO5 := hide ho2; have HB5 := hide (HB.out.trans (hb2.mono HB.out.size)); clear ho2 hb2)
                | (go_at_call 51; refine (CA.out _ V.length _ V _ HB5.out rfl (by omega) HVR.out (own_rowAt9 HO5.out)).mono ?_; rintro r w3 ⟨rfl, hb3⟩; rw [HAP2.out]; have HB6 := hide (HB5.out.trans (hb3.mono HB5.out.size)); clear hb3))
              go_ret
              exact ⟨ret_bool HE.out.symm, HB6.out⟩
            · have HA2 : Hid (∀ j, j < i + 1 → posB D j = true → apB D (flV D j) = true) := hide (fun j hj hp => by
                by_cases e : j = i
                · subst e; rw [HV.out]; exact hap2
                · exact HA.out j (by omega) hp)
              have HAP2 := hide hap2
              clear hap2
              go_wp2_with (first
                | (go_at_call 52; refine CPi.out.mono ?_; rintro r9 w9 ⟨rfl, h9⟩; rw [h9]; clear h9 w9)
                | (go_at_call 47; refine CFi.out.mono ?_; rintro r w2 ⟨ad2, c2, rfl, ho2, hb2⟩; have HO5 := hide ho2; have HB5 := hide (HB.out.trans (hb2.mono HB.out.size)); clear ho2 hb2)
                | (go_at_call 51; refine (CA.out _ V.length _ V _ HB5.out rfl (by omega) HVR.out (own_rowAt9 HO5.out)).mono ?_; rintro r w3 ⟨rfl, hb3⟩; rw [HAP2.out]; have HB6 := hide (HB5.out.trans (hb3.mono HB5.out.size)); clear hb3))
              go_roundw
              case rel => exact ⟨i + 1, by omega, by go_num, HB6, HA2⟩
              case measure => simp [intOf]; omega
        · have HE : Hid (clB D = true) := hide (clB_yes HPK.out (by rw [HFO.out]; exact HAP.out) (fun j hj hp => HA.out j (by rw [HD.out] at hj; omega) hp))
          go_wp2
          go_ret
          exact ⟨ret_bool HE.out.symm, HB.out⟩
end Go.Proofs.YtfohfljdgmlibaaDoor
