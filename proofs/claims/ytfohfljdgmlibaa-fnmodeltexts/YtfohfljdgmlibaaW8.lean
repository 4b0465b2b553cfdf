/-
  Contract: which rows of nodes are right models, by the specification.
-/
import Derived.Test.YtfohfljdgmlibaaW7
namespace Go.Proofs.Ytfohfljdgmlibaa
open Go.RowKit Go.Joins
set_option linter.unusedVariables false
set_option linter.unusedSimpArgs false
theorem nd_no_oc {k : Int} {nm : ByteArray} {n : Nat} {oc : Int} (h : ¬ (0 ≤ oc ∧ oc ≤ 3)) : ndB k nm n oc = false := by unfold ndB; rw [decide_eq_false h]; rfl
theorem nd_1 {k : Int} {nm : ByteArray} {n : Nat} {oc : Int} (h : 0 ≤ oc ∧ oc ≤ 3) (hk : k = 1) : ndB k nm n oc = (nameB nm && decide (n = 0)) := by unfold ndB; rw [decide_eq_true h, if_pos hk]; rfl
theorem nd_4 {k : Int} {nm : ByteArray} {n : Nat} {oc : Int} (h : 0 ≤ oc ∧ oc ≤ 3) (hk : k = 4) : ndB k nm n oc = (nm.toList.isEmpty && decide (n = 0)) := by unfold ndB; rw [decide_eq_true h, if_neg (by omega), if_pos hk]; rfl
theorem nd_2 {k : Int} {nm : ByteArray} {n : Nat} {oc : Int} (h : 0 ≤ oc ∧ oc ≤ 3) (hk : k = 2) : ndB k nm n oc = nm.toList.isEmpty := by unfold ndB; rw [decide_eq_true h, if_neg (by omega), if_neg (by omega), if_pos hk]; rfl
theorem nd_3 {k : Int} {nm : ByteArray} {n : Nat} {oc : Int} (h : 0 ≤ oc ∧ oc ≤ 3) (hk : k = 3) : ndB k nm n oc = (nm.toList.isEmpty && decide (2 ≤ n)) := by unfold ndB; rw [decide_eq_true h, if_neg (by omega), if_neg (by omega), if_neg (by omega), if_pos hk]; rfl
theorem nd_9 {k : Int} {nm : ByteArray} {n : Nat} {oc : Int} (h1 : k ≠ 1) (h2 : k ≠ 2) (h3 : k ≠ 3) (h4 : k ≠ 4) : ndB k nm n oc = false := by unfold ndB; rw [if_neg h1, if_neg h4, if_neg h2, if_neg h3]; simp
theorem nd_kinds {k : Int} {nm : ByteArray} {n : Nat} {oc : Int} (h : ndB k nm n oc = true) : k = 1 ∨ k = 2 ∨ k = 3 ∨ k = 4 := by
  by_cases h1 : k = 1
  · exact .inl h1
  · by_cases h2 : k = 2
    · exact .inr (.inl h2)
    · by_cases h3 : k = 3
      · exact .inr (.inr (.inl h3))
      · by_cases h4 : k = 4
        · exact .inr (.inr (.inr h4))
        · rw [nd_9 h1 h2 h3 h4] at h; cases h
set_option maxRecDepth 100000 in
set_option maxHeartbeats 8000000 in
theorem s_particle (D : Pn) (n : Nat) (a : Option Addr) (cap : Nat) (w : World) (hD : D.n = n) (hz : pnTot D ≤ 1048576) (hr : PnAt w a D w.heap.size) :
    Calls Try.prog 26 #[.slice a n cap] w fun e w' => e = .returned (.bool (pkB D)) ∧ Below w.heap.size w w' := by
  have HD := hide hD
  have HR := hide hr
  have HZ := hide (pn_sz hz)
  have hn : n ≤ 1048576 := by rw [← hD]; exact (pn_sz hz).1
  clear hr hD hz
  by_cases hs : 1 ≤ n ∧ n ≤ 40
  · obtain ⟨g1, g2⟩ := hs
    have g3 : (1 : Int) ≤ n := by omega
    have g4 : (n : Int) ≤ 40 := by omega
    obtain ⟨b, off, rfl, hbs, hrow⟩ := HR.out (by rw [HD.out]; omega)
    have HRW := hide hrow
    have HNR : Hid (∀ j, j < n → (D.KL j).length ≤ 1048576) := hide (fun j hj => (HZ.out.2 j (by rw [HD.out]; exact hj)).2)
    clear hrow
    go_enter Try.func26, Try.ntmps26
    go_wp2
    go_loopw [3] (fun iv wr => ∃ i : Nat, i ≤ n ∧ iv = .int .i64 i ∧ Below w.heap.size w wr ∧ Hid (∀ j, j < i → nodeB D j = true) ∧ Hid (∀ j, j < i → ∀ k, k ∈ D.KL j → 0 ≤ k ∧ k < (j : Int))) (fun iv _ => n - (intOf iv).toNat)
    case atStart => exact ⟨0, Nat.zero_le _, rfl, Below.refl _ _, hide (fun j h => by omega), hide (fun j h => by omega)⟩
    case round =>
      obtain ⟨i, hi, rfl, hb, HM, HK⟩ := hrel
      by_cases hlt : i < n
      · obtain ⟨ad, cp, hc, hat, hcp⟩ := HRW.out i (by rw [HD.out]; omega)
        obtain ⟨c0, c1, c2, c3⟩ := pnCells_go hc hbs hb
        have hbw : b < wr.heap.size := Nat.lt_of_lt_of_le hbs hb.size
        have HB := hide hb
        have HA := hide (rwAt_up (rwAt_go hat hb) hb.size)
        obtain ⟨z1, z2⟩ := HZ.out.2 i (by rw [HD.out]; omega)
        have HZ1 : Hid ((D.NM i).size ≤ maxLen) := hide (by unfold maxLen; omega)
        have hin : (i : Int) < (n : Int) := by omega
        have HST := hide (fun (o : Obj) => HB.out.alloc HB.out.size o)
        have HNO := hide (fun (h : ndB (D.K i) (D.NM i) (D.KL i).length (D.OC i) = false) => pk_node (D := D) (k := i) (by rw [HD.out]; exact hlt) h)
        have HYES := hide (fun (h : ndB (D.K i) (D.NM i) (D.KL i).length (D.OC i) = true) => (fun j hj => by
          by_cases e : j = i
          · subst e; exact h
          · exact HM.out j (by omega) : ∀ j, j < i + 1 → nodeB D j = true))
        have HKN := hide (fun (k : Int) (h1 : k ∈ D.KL i) (h2 : ¬ (0 ≤ k ∧ k < (i : Int))) => pk_kid (D := D) (i := i) (by rw [HD.out]; exact hlt) h1 h2)
        have HKY := hide (fun (h : ∀ k, k ∈ D.KL i → 0 ≤ k ∧ k < (i : Int)) => (fun j hj => by
          by_cases e : j = i
          · subst e; exact h
          · exact HK.out j (by omega) : ∀ j, j < i + 1 → ∀ k, k ∈ D.KL j → 0 ≤ k ∧ k < (j : Int)))
        obtain ⟨K, hK⟩ : ∃ K, D.K i = K := ⟨_, rfl⟩
        obtain ⟨NM, hNM⟩ : ∃ NM, D.NM i = NM := ⟨_, rfl⟩
        obtain ⟨OC, hOC⟩ : ∃ OC, D.OC i = OC := ⟨_, rfl⟩
        obtain ⟨L, hL⟩ : ∃ L, D.KL i = L := ⟨_, rfl⟩
        rw [hK] at c0 HNO HYES
        rw [hNM] at c1 HNO HYES HZ1
        rw [hL] at c2 HNO HYES HKN HKY HA z2
        rw [hOC] at c3 HNO HYES
        clear hc hat hb hK hNM hOC hL z1 hcp
        by_cases ho : 0 ≤ OC ∧ OC ≤ 3
        · have HO := hide ho
          clear ho
          by_cases k1 : K = 1
          · have HE := hide (nd_1 (nm := NM) (n := L.length) HO.out k1)
            subst k1
            cases hnb : nameB NM
            · have HN := hide (HNO.out (by rw [HE.out, hnb]; rfl))
              go_wp2_with (first | (go_at_call 51; refine (p_sInT _ _ _ _ HO.out).mono ?_; rintro e w2 ⟨rfl, rfl⟩) | (go_at_call 52; refine (s_name _ _ HZ1.out).mono ?_; rintro e w3 ⟨rfl, rfl⟩; rw [hnb]))
              go_ret
              exact ⟨ret_bool HN.out.symm, HST.out _⟩
            · by_cases hl0 : L.length = 0
              · have HY := hide (HYES.out (by rw [HE.out, hnb, decide_eq_true hl0]; rfl))
                have hl00 : ¬ (0 : Int) < (L.length : Int) := by omega
                have HL0 := hide hl0
                clear hl0
                go_wp2_with (first | (go_at_call 51; refine (p_sInT _ _ _ _ HO.out).mono ?_; rintro e w2 ⟨rfl, rfl⟩) | (go_at_call 52; refine (s_name _ _ HZ1.out).mono ?_; rintro e w3 ⟨rfl, rfl⟩; rw [hnb]))
                go_loop [5] (fun mv => ∃ m : Nat, m ≤ L.length ∧ mv = .int .i64 m ∧ Hid (∀ q, q < m → 0 ≤ L[q]?.getD 0 ∧ L[q]?.getD 0 < (i : Int))) (fun mv => L.length - (intOf mv).toNat)
                case atStart => exact ⟨0, Nat.zero_le _, rfl, hide (fun q h => by omega)⟩
                case round =>
                  obtain ⟨m, hm, rfl, HQ⟩ := hrel
                  by_cases hml : m < L.length
                  · have := HL0.out; exfalso; omega
                  · have hme : m = L.length := by omega
                    subst hme
                    have HKK := hide (HKY.out (fun k hk => by
                      obtain ⟨q, hq, rfl⟩ := List.getElem_of_mem hk
                      have := HQ.out q hq
                      rw [List.getElem?_eq_getElem hq] at this
                      exact this))
                    go_wp2
                    go_roundw
                    case rel => exact ⟨i + 1, by omega, by go_num, HST.out _, HY, HKK⟩
                    case measure => simp [intOf]; omega
              · have HN := hide (HNO.out (by rw [HE.out, hnb, decide_eq_false hl0]; rfl))
                have hl00 : (0 : Int) < (L.length : Int) := by omega
                go_wp2_with (first | (go_at_call 51; refine (p_sInT _ _ _ _ HO.out).mono ?_; rintro e w2 ⟨rfl, rfl⟩) | (go_at_call 52; refine (s_name _ _ HZ1.out).mono ?_; rintro e w3 ⟨rfl, rfl⟩; rw [hnb]))
                go_ret
                exact ⟨ret_bool HN.out.symm, HST.out _⟩
          · by_cases k4 : K = 4
            · have HE := hide (nd_4 (nm := NM) (n := L.length) HO.out k4)
              subst k4
              clear k1
              cases hnb : NM.toList.isEmpty
              · have HN := hide (HNO.out (by rw [HE.out, hnb]; rfl))
                go_wp2_with (first | (go_at_call 51; refine (p_sInT _ _ _ _ HO.out).mono ?_; rintro e w2 ⟨rfl, rfl⟩))
                go_ret
                exact ⟨ret_bool HN.out.symm, HST.out _⟩
              · by_cases hl0 : L.length = 0
                · have HY := hide (HYES.out (by rw [HE.out, hnb, decide_eq_true hl0]; rfl))
                  have hl00 : ¬ (0 : Int) < (L.length : Int) := by omega
                  have HL0 := hide hl0
                  clear hl0
                  go_wp2_with (first | (go_at_call 51; refine (p_sInT _ _ _ _ HO.out).mono ?_; rintro e w2 ⟨rfl, rfl⟩))
                  go_loop [5] (fun mv => ∃ m : Nat, m ≤ L.length ∧ mv = .int .i64 m ∧ Hid (∀ q, q < m → 0 ≤ L[q]?.getD 0 ∧ L[q]?.getD 0 < (i : Int))) (fun mv => L.length - (intOf mv).toNat)
                  case atStart => exact ⟨0, Nat.zero_le _, rfl, hide (fun q h => by omega)⟩
                  case round =>
                    obtain ⟨m, hm, rfl, HQ⟩ := hrel
                    by_cases hml : m < L.length
                    · have := HL0.out; exfalso; omega
                    · have hme : m = L.length := by omega
                      subst hme
                      have HKK := hide (HKY.out (fun k hk => by
                        obtain ⟨q, hq, rfl⟩ := List.getElem_of_mem hk
                        have := HQ.out q hq
                        rw [List.getElem?_eq_getElem hq] at this
                        exact this))
                      go_wp2
                      go_roundw
                      case rel => exact ⟨i + 1, by omega, by go_num, HST.out _, HY, HKK⟩
                      case measure => simp [intOf]; omega
                · have HN := hide (HNO.out (by rw [HE.out, hnb, decide_eq_false hl0]; rfl))
                  have hl00 : (0 : Int) < (L.length : Int) := by omega
                  go_wp2_with (first | (go_at_call 51; refine (p_sInT _ _ _ _ HO.out).mono ?_; rintro e w2 ⟨rfl, rfl⟩))
                  go_ret
                  exact ⟨ret_bool HN.out.symm, HST.out _⟩
            · by_cases k2 : K = 2
              · have HE := hide (nd_2 (nm := NM) (n := L.length) HO.out k2)
                subst k2
                clear k1 k4
                cases hnb : NM.toList.isEmpty
                · have HN := hide (HNO.out (by rw [HE.out, hnb]))
                  go_wp2_with (first | (go_at_call 51; refine (p_sInT _ _ _ _ HO.out).mono ?_; rintro e w2 ⟨rfl, rfl⟩))
                  go_ret
                  exact ⟨ret_bool HN.out.symm, HST.out _⟩
                · have HY := hide (HYES.out (by rw [HE.out, hnb]))
                  go_wp2_with (first | (go_at_call 51; refine (p_sInT _ _ _ _ HO.out).mono ?_; rintro e w2 ⟨rfl, rfl⟩))
                  go_loop [5] (fun mv => ∃ m : Nat, m ≤ L.length ∧ mv = .int .i64 m ∧ Hid (∀ q, q < m → 0 ≤ L[q]?.getD 0 ∧ L[q]?.getD 0 < (i : Int))) (fun mv => L.length - (intOf mv).toNat)
                  case atStart => exact ⟨0, Nat.zero_le _, rfl, hide (fun q h => by omega)⟩
                  case round =>
                    obtain ⟨m, hm, rfl, HQ⟩ := hrel
                    by_cases hml : m < L.length
                    · obtain ⟨b9, off9, rfl, hb9, hc9⟩ := HA.out (fun h => by rw [h] at hml; exact absurd hml (Nat.not_lt_zero _))
                      have k0 : ∀ o, (wr.alloc o).cell? ⟨b9, off9 + m, none⟩ = some (.int .i64 (L[m]?.getD 0)) := fun o => (((Below.refl wr.heap.size wr).alloc (Nat.le_refl _) o).cell (p := ⟨b9, off9 + m, none⟩) hb9).trans (hc9 m hml)
                      have hmi : (m : Int) < (L.length : Int) := by omega
                      have HME := hide (show L[m]?.getD 0 ∈ L by rw [List.getElem?_eq_getElem hml]; exact List.getElem_mem hml)
                      have HQ2 := hide (fun (h : 0 ≤ L[m]?.getD 0 ∧ L[m]?.getD 0 < (i : Int)) => (fun q hq => by
                        by_cases e : q = m
                        · subst e; exact h
                        · exact HQ.out q (by omega) : ∀ q, q < m + 1 → 0 ≤ L[q]?.getD 0 ∧ L[q]?.getD 0 < (i : Int)))
                      obtain ⟨v, hv⟩ : ∃ v, L[m]?.getD 0 = v := ⟨_, rfl⟩
                      rw [hv] at HME HQ2
                      simp only [hv] at k0
                      clear hc9 hv
                      by_cases hvv : 0 ≤ v ∧ v ≤ (i : Int) - 1
                      · have HV := hide hvv
                        have HQ3 := hide (HQ2.out (by omega))
                        clear hvv
                        go_wp2_with (first | (go_at_call 51; refine (p_sInT _ _ _ _ HV.out).mono ?_; rintro e w2 ⟨rfl, rfl⟩))
                        go_round
                        case rel => exact ⟨m + 1, by omega, by go_num, HQ3⟩
                        case measure => simp [intOf]; omega
                      · have HV := hide hvv
                        have HN := hide (HKN.out v HME.out (by omega))
                        clear hvv
                        go_wp2_with (first | (go_at_call 51; refine (p_sInF _ _ _ _ HV.out).mono ?_; rintro e w2 ⟨rfl, rfl⟩))
                        go_ret
                        exact ⟨ret_bool HN.out.symm, HST.out _⟩
                    · have hme : m = L.length := by omega
                      subst hme
                      have HKK := hide (HKY.out (fun k hk => by
                        obtain ⟨q, hq, rfl⟩ := List.getElem_of_mem hk
                        have := HQ.out q hq
                        rw [List.getElem?_eq_getElem hq] at this
                        exact this))
                      go_wp2
                      go_roundw
                      case rel => exact ⟨i + 1, by omega, by go_num, HST.out _, HY, HKK⟩
                      case measure => simp [intOf]; omega
              · by_cases k3 : K = 3
                · have HE := hide (nd_3 (nm := NM) (n := L.length) HO.out k3)
                  subst k3
                  clear k1 k4 k2
                  cases hnb : NM.toList.isEmpty
                  · have HN := hide (HNO.out (by rw [HE.out, hnb]; rfl))
                    go_wp2_with (first | (go_at_call 51; refine (p_sInT _ _ _ _ HO.out).mono ?_; rintro e w2 ⟨rfl, rfl⟩))
                    go_ret
                    exact ⟨ret_bool HN.out.symm, HST.out _⟩
                  · by_cases hl0 : 2 ≤ L.length
                    · have HY := hide (HYES.out (by rw [HE.out, hnb, decide_eq_true hl0]; rfl))
                      have hl00 : ¬ (L.length : Int) < 2 := by omega
                      go_wp2_with (first | (go_at_call 51; refine (p_sInT _ _ _ _ HO.out).mono ?_; rintro e w2 ⟨rfl, rfl⟩))
                      go_loop [5] (fun mv => ∃ m : Nat, m ≤ L.length ∧ mv = .int .i64 m ∧ Hid (∀ q, q < m → 0 ≤ L[q]?.getD 0 ∧ L[q]?.getD 0 < (i : Int))) (fun mv => L.length - (intOf mv).toNat)
                      case atStart => exact ⟨0, Nat.zero_le _, rfl, hide (fun q h => by omega)⟩
                      case round =>
                        obtain ⟨m, hm, rfl, HQ⟩ := hrel
                        by_cases hml : m < L.length
                        · obtain ⟨b9, off9, rfl, hb9, hc9⟩ := HA.out (fun h => by rw [h] at hml; exact absurd hml (Nat.not_lt_zero _))
                          have k0 : ∀ o, (wr.alloc o).cell? ⟨b9, off9 + m, none⟩ = some (.int .i64 (L[m]?.getD 0)) := fun o => (((Below.refl wr.heap.size wr).alloc (Nat.le_refl _) o).cell (p := ⟨b9, off9 + m, none⟩) hb9).trans (hc9 m hml)
                          have hmi : (m : Int) < (L.length : Int) := by omega
                          have HME := hide (show L[m]?.getD 0 ∈ L by rw [List.getElem?_eq_getElem hml]; exact List.getElem_mem hml)
                          have HQ2 := hide (fun (h : 0 ≤ L[m]?.getD 0 ∧ L[m]?.getD 0 < (i : Int)) => (fun q hq => by
                            by_cases e : q = m
                            · subst e; exact h
                            · exact HQ.out q (by omega) : ∀ q, q < m + 1 → 0 ≤ L[q]?.getD 0 ∧ L[q]?.getD 0 < (i : Int)))
                          obtain ⟨v, hv⟩ : ∃ v, L[m]?.getD 0 = v := ⟨_, rfl⟩
                          rw [hv] at HME HQ2
                          simp only [hv] at k0
                          clear hc9 hv
                          by_cases hvv : 0 ≤ v ∧ v ≤ (i : Int) - 1
                          · have HV := hide hvv
                            have HQ3 := hide (HQ2.out (by omega))
                            clear hvv
                            go_wp2_with (first | (go_at_call 51; refine (p_sInT _ _ _ _ HV.out).mono ?_; rintro e w2 ⟨rfl, rfl⟩))
                            go_round
                            case rel => exact ⟨m + 1, by omega, by go_num, HQ3⟩
                            case measure => simp [intOf]; omega
                          · have HV := hide hvv
                            have HN := hide (HKN.out v HME.out (by omega))
                            clear hvv
                            go_wp2_with (first | (go_at_call 51; refine (p_sInF _ _ _ _ HV.out).mono ?_; rintro e w2 ⟨rfl, rfl⟩))
                            go_ret
                            exact ⟨ret_bool HN.out.symm, HST.out _⟩
                        · have hme : m = L.length := by omega
                          subst hme
                          have HKK := hide (HKY.out (fun k hk => by
                            obtain ⟨q, hq, rfl⟩ := List.getElem_of_mem hk
                            have := HQ.out q hq
                            rw [List.getElem?_eq_getElem hq] at this
                            exact this))
                          go_wp2
                          go_roundw
                          case rel => exact ⟨i + 1, by omega, by go_num, HST.out _, HY, HKK⟩
                          case measure => simp [intOf]; omega
                    · have HN := hide (HNO.out (by rw [HE.out, hnb, decide_eq_false hl0]; rfl))
                      have hl00 : (L.length : Int) < 2 := by omega
                      go_wp2_with (first | (go_at_call 51; refine (p_sInT _ _ _ _ HO.out).mono ?_; rintro e w2 ⟨rfl, rfl⟩))
                      go_ret
                      exact ⟨ret_bool HN.out.symm, HST.out _⟩
                · have HN := hide (HNO.out (nd_9 k1 k2 k3 k4))
                  have f1 : (K == 1) = false := by simpa using k1
                  have f2 : (K == 2) = false := by simpa using k2
                  have f3 : (K == 3) = false := by simpa using k3
                  have f4 : (K == 4) = false := by simpa using k4
                  clear k1 k2 k3 k4
                  go_wp2_with (first | (go_at_call 51; refine (p_sInT _ _ _ _ HO.out).mono ?_; rintro e w2 ⟨rfl, rfl⟩))
                  go_ret
                  exact ⟨ret_bool HN.out.symm, HST.out _⟩
        · have HN := hide (HNO.out (nd_no_oc ho))
          have HO := hide ho
          clear ho
          go_wp2_with (first | (go_at_call 51; refine (p_sInF _ _ _ _ HO.out).mono ?_; rintro e w2 ⟨rfl, rfl⟩))
          go_ret
          exact ⟨ret_bool HN.out.symm, HST.out _⟩
      · have hin : i = n := by omega
        subst hin
        have HALL := hide (pk_all (D := D) (by rw [HD.out]; exact ⟨g1, g2⟩) (by rw [HD.out]; exact HM.out))
        rw [HD.out] at HALL
        have HND := hide (nd_kinds (HM.out (i - 1) (by omega)))
        obtain ⟨ad, cp, hc, hat, hcp⟩ := HRW.out (i - 1) (by rw [HD.out]; omega)
        have hcc := pnCells_go hc hbs hb
        rw [show off + (i - 1) * 4 = off + (i - 1) * 4 from rfl] at hcc
        obtain ⟨c0, c1, c2, c3⟩ := hcc
        have HRB := hide (pnRow_up (pnRow_go HRW.out hbs hb) hb.size)
        have hrt : ((i : Int) - 1) = ((i - 1 : Nat) : Int) := by omega
        have CT := hide (s_tree D i b off cap HD.out g2 HNR.out i (i - 1) (by omega) (by omega) wr HRB.out)
        have CD := hide (s_deep D i b off cap HD.out g2 HNR.out HK.out i (i - 1) (by omega) (by omega) wr HRB.out)
        have hdl := dq_le D (i - 1)
        have htl : ((i : Int) - 1).toNat = i - 1 := by omega
        have hlt1 : ((i : Int) - 1) < (i : Int) := by omega
        have hge1 : (0 : Int) ≤ ((i : Int) - 1) := by omega
        rw [← hrt] at CT CD
        obtain ⟨T, hT⟩ : ∃ T, tr D (i - 1) = T := ⟨_, rfl⟩
        obtain ⟨Q, hQ⟩ : ∃ Q, dq D (i - 1) = Q := ⟨_, rfl⟩
        have HG : Hid (groupB D (i - 1) = decide (D.K (i - 1) = 2 ∨ D.K (i - 1) = 3)) := hide rfl
        obtain ⟨K, hK⟩ : ∃ K, D.K (i - 1) = K := ⟨_, rfl⟩
        rw [hT] at CT HALL
        rw [hQ] at CD HALL hdl
        rw [hK] at HND c0 HG
        rw [HG.out] at HALL
        have HB := hide hb
        clear hc hat hT hQ hK hrt hb hcp c1 c2 c3
        by_cases ht : T = some 0
        · subst ht
          rcases HND.out with rfl | rfl | rfl | rfl
          · go_wp2_with (first | (go_at_call 53; refine CT.out.mono ?_; rintro e w2 ⟨rfl, rfl⟩; rw [show trI (some 0) = 0 from rfl]))
            go_ret
            exact ⟨ret_bool (by rw [HALL.out]; rfl), HB.out⟩
          · by_cases hq : Q ≤ 10
            · have hq2 : (Q : Int) ≤ 10 := by omega
              go_wp2_with (first | (go_at_call 53; refine CT.out.mono ?_; rintro e w2 ⟨rfl, rfl⟩; rw [show trI (some 0) = 0 from rfl]) | (go_at_call 54; refine CD.out.mono ?_; rintro e w2 ⟨rfl, rfl⟩))
              go_ret
              exact ⟨ret_bool (by rw [HALL.out, decide_eq_true hq]; simp), HB.out⟩
            · have hq2 : ¬ (Q : Int) ≤ 10 := by omega
              go_wp2_with (first | (go_at_call 53; refine CT.out.mono ?_; rintro e w2 ⟨rfl, rfl⟩; rw [show trI (some 0) = 0 from rfl]) | (go_at_call 54; refine CD.out.mono ?_; rintro e w2 ⟨rfl, rfl⟩))
              go_ret
              exact ⟨ret_bool (by rw [HALL.out, decide_eq_false hq]; simp; omega), HB.out⟩
          · by_cases hq : Q ≤ 10
            · have hq2 : (Q : Int) ≤ 10 := by omega
              go_wp2_with (first | (go_at_call 53; refine CT.out.mono ?_; rintro e w2 ⟨rfl, rfl⟩; rw [show trI (some 0) = 0 from rfl]) | (go_at_call 54; refine CD.out.mono ?_; rintro e w2 ⟨rfl, rfl⟩))
              go_ret
              exact ⟨ret_bool (by rw [HALL.out, decide_eq_true hq]; simp), HB.out⟩
            · have hq2 : ¬ (Q : Int) ≤ 10 := by omega
              go_wp2_with (first | (go_at_call 53; refine CT.out.mono ?_; rintro e w2 ⟨rfl, rfl⟩; rw [show trI (some 0) = 0 from rfl]) | (go_at_call 54; refine CD.out.mono ?_; rintro e w2 ⟨rfl, rfl⟩))
              go_ret
              exact ⟨ret_bool (by rw [HALL.out, decide_eq_false hq]; simp; omega), HB.out⟩
          · go_wp2_with (first | (go_at_call 53; refine CT.out.mono ?_; rintro e w2 ⟨rfl, rfl⟩; rw [show trI (some 0) = 0 from rfl]))
            go_ret
            exact ⟨ret_bool (by rw [HALL.out]; rfl), HB.out⟩
        · have hti : (trI T == 0) = false := by
            cases T with
            | none => rfl
            | some f => simp only [trI, beq_eq_false_iff_ne, ne_eq]; intro e; exact ht (by rw [show f = 0 by omega])
          have HT := hide ht
          obtain ⟨t, ht2⟩ : ∃ t, trI T = t := ⟨_, rfl⟩
          rw [ht2] at CT hti
          clear ht ht2
          go_wp2_with (first | (go_at_call 53; refine CT.out.mono ?_; rintro e w2 ⟨rfl, rfl⟩))
          go_ret
          exact ⟨ret_bool (by rw [HALL.out, decide_eq_false HT.out]; rfl), HB.out⟩
  · have e := pk_size (D := D) (by rw [HD.out]; exact hs)
    rw [e]
    by_cases g : n = 0
    · go_enter Try.func26, Try.ntmps26
      go_wp2
      go_ret
      exact ⟨rfl, Below.refl _ _⟩
    · have g2 : (40 : Int) < (n : Int) := by omega
      go_enter Try.func26, Try.ntmps26
      go_wp2
      go_ret
      exact ⟨rfl, Below.refl _ _⟩
end Go.Proofs.Ytfohfljdgmlibaa
