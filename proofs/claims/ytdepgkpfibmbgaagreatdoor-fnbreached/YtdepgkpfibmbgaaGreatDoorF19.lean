/-
  Contract: which rows of keys are right, by the specification.
-/
import Derived.Test.YtdepgkpfibmbgaaGreatDoorF4
import Derived.Test.YtdepgkpfibmbgaaGreatDoorF18
namespace Go.Proofs.YtdepgkpfibmbgaaGreatDoor
open Go.RowKit Go.Joins
set_option linter.unusedVariables false
set_option linter.unusedSimpArgs false
theorem sk_inT (n a b : Int) (w : World) (h : a ≤ n ∧ n ≤ b) : Calls Tryz.prog 27 #[.int .i64 n, .int .i64 a, .int .i64 b] w fun e w' => e = .returned (.bool true) ∧ w' = w := by
  obtain ⟨h1, h2⟩ := h
  go_enter Tryz.func27, Tryz.ntmps27
  go_wp2
  go_ret
  exact ⟨rfl, rfl⟩
theorem sk_inF (n a b : Int) (w : World) (h : ¬ (a ≤ n ∧ n ≤ b)) : Calls Tryz.prog 27 #[.int .i64 n, .int .i64 a, .int .i64 b] w fun e w' => e = .returned (.bool false) ∧ w' = w := by
  by_cases h1 : a ≤ n
  · have h2 : ¬ n ≤ b := fun x => h ⟨h1, x⟩
    clear h
    go_enter Tryz.func27, Tryz.ntmps27
    go_wp2
    go_ret
    exact ⟨rfl, rfl⟩
  · clear h
    go_enter Tryz.func27, Tryz.ntmps27
    go_wp2
    go_ret
    exact ⟨rfl, rfl⟩
theorem below_drewK {b : Nat} {w w1 : World} (h : Below b w w1) (q : Nat) : Below b w (w1.drewN q) := h.trans ⟨rfl, rfl, rfl, Nat.le_refl _, fun _ _ => rfl⟩
theorem kd_drew {w : World} {G : Nat} {cs : Array Value} (h : KdAt w G cs) (q : Nat) : KdAt (w.drewN q) G cs := h
/-- The bytes that the keys hold are few. -/
def KyFew (L : List Ky) : Prop := L.length ≤ 1048576 ∧ ∀ j, j < L.length → (kyA L j).nm.size ≤ 1048576 ∧ (kyA L j).on.size ≤ 1048576 ∧ (kyA L j).pa.size ≤ 1048576 ∧ (kyA L j).re.size ≤ 1048576 ∧ (kyA L j).fl.length ≤ 1048576 ∧ ∀ i, i < (kyA L j).fl.length → ((kyA L j).fl[i]?.getD ⟨#[]⟩).size ≤ 1048576
set_option maxRecDepth 100000 in
set_option maxHeartbeats 8000000 in
theorem s_keys (L : List Ky) (n : Nat) (a : Option Addr) (c : Nat) (w : World) (hD : L.length = n) (hf : KyFew L) (hr : KyAt w a L w.heap.size) :
    Calls Tryz.prog 16 #[.slice a n c] w (KysAns L w) := by
  have HD := hide hD
  have HF := hide hf
  have HR := hide hr
  have hn : n ≤ 1048576 := by rw [← hD]; exact hf.1
  clear hr hf hD
  by_cases hb0 : (10 : Int) < (n : Int)
  · go_enter Tryz.func16, Tryz.ntmps16
    go_wp2
    go_ret
    exact kys_no (Below.refl _ _) (fun H => by have := H.1; rw [HD.out] at this; omega)
  · go_enter Tryz.func16, Tryz.ntmps16
    go_wp2
    go_loopw [3] (fun i wr => ∃ k : Nat, k ≤ n ∧ i = .int .i64 k ∧ Hid (Below w.heap.size w wr) ∧ Hid (∀ q, q < k → KeyAt L q)) (fun i _ => n - (intOf i).toNat)
    case atStart => exact ⟨0, Nat.zero_le _, rfl, Below.refl _ _, fun q h => by omega⟩
    case round =>
      obtain ⟨k, hk, rfl, HB, HA⟩ := hrel
      by_cases hlt : k < n
      · obtain ⟨b, off, rfl, hbs, hrow⟩ := HR.out (fun e => by have := HD.out; rw [e] at this; simp at this; omega)
        have HROW := hide hrow
        have hkL : k < L.length := by rw [HD.out]; exact hlt
        obtain ⟨ad, cp, hc, hat, hcp⟩ := hrow k hkL
        obtain ⟨z0, z1, z2, z3, z4, z5⟩ := HF.out.2 k hkL
        obtain ⟨x, hx⟩ : ∃ x, kyA L k = x := ⟨_, rfl⟩
        have HX := hide hx
        rw [hx] at hc hat z0 z1 z2 z3 z4 z5 hcp
        obtain ⟨nm, kd, on, pa, fl, re⟩ := x
        simp only at hat z0 z1 z2 z3 z4 z5 hcp
        obtain ⟨c0, c1, c2, c3, c4, c5⟩ := kyC_go hc hbs HB.out
        simp only at c0 c1 c2 c3 c4 c5
        have HAT := hide hat
        have HZ5 := hide z5
        have HKL := hide hkL
        have hz0 : nm.size ≤ maxLen := by unfold maxLen; omega
        have hz1 : on.size ≤ maxLen := by unfold maxLen; omega
        obtain ⟨m, hm⟩ : ∃ m, fl.length = m := ⟨_, rfl⟩
        have HMM := hide hm
        rw [hm] at c4 z4 hcp
        clear hx hc hat hrow hm z5 hkL
        have hBX := hide (kd_new wr #[.string nm, .int .i64 kd, .string on, .string pa, .slice ad m cp, .string re] 27)
        obtain ⟨W1, hW1⟩ : ∃ W1, wr.alloc (.cells #[.string nm, .int .i64 kd, .string on, .string pa, .slice ad m cp, .string re] 27) = W1 := ⟨_, rfl⟩
        have HW1 := hide hW1
        have HB1 : Hid (Below w.heap.size w W1) := hide (by rw [← hW1]; exact HB.out.alloc HB.out.size _)
        rw [hW1] at hBX
        clear hW1
        have hwr : w.heap.size ≤ wr.heap.size := HB.out.size
        cases hn1 : nameB nm
        · have HNO : Hid (¬ KeysP L) := hide (keys_one HKL.out (fun h => by have := h.1; rw [HX.out] at this; exact absurd (hn1.symm.trans this) (by decide)))
          go_wp2_with (first | (go_at_call 38; refine (s_name _ _ hz0).mono ?_; rintro e w9 ⟨rfl, h9⟩; rw [h9, hn1]; clear h9 w9))
          go_ret
          exact kys_no (by rw [HW1.out]; exact HB1.out) HNO.out
        · by_cases hkd : 1 ≤ kd ∧ kd ≤ 3
          · cases hn2 : nameB on
            · have HNO : Hid (¬ KeysP L) := hide (keys_one HKL.out (fun h => by have := h.2.2.1; rw [HX.out] at this; exact absurd (hn2.symm.trans this) (by decide)))
              go_wp2_with (first | (go_at_call 38; refine (s_name _ _ (by assumption)).mono ?_; rintro e w9 ⟨rfl, h9⟩; rw [h9]; clear h9 w9; first | rw [hn1] | rw [hn2]) | (go_at_call 27; refine (sk_inT _ _ _ _ hkd).mono ?_; rintro e w9 ⟨rfl, h9⟩; rw [h9]; clear h9 w9))
              go_ret
              exact kys_no (by rw [HW1.out]; exact HB1.out) HNO.out
            · have CP : Hid (∀ w1 : World, Calls Tryz.prog 39 #[.string pa] w1 fun e w' => e = .returned (.bool (routeB pa)) ∧ Below w1.heap.size w1 w') := hide (fun w1 => s_path pa w1 z2)
              cases hn3 : routeB pa
              · have HNO : Hid (¬ KeysP L) := hide (keys_one HKL.out (fun h => by have := h.2.2.2.1; rw [HX.out] at this; exact absurd (hn3.symm.trans this) (by decide)))
                go_wp2_with (first | (go_at_call 38; refine (s_name _ _ (by assumption)).mono ?_; rintro e w9 ⟨rfl, h9⟩; rw [h9]; clear h9 w9; first | rw [hn1] | rw [hn2]) | (go_at_call 27; refine (sk_inT _ _ _ _ hkd).mono ?_; rintro e w9 ⟨rfl, h9⟩; rw [h9]; clear h9 w9) | (go_at_call 39; rw [HW1.out]; refine (CP.out _).mono ?_; rintro e w2 ⟨rfl, hb2⟩; rw [hn3]; have HB2 := hide (HB1.out.trans (hb2.mono HB1.out.size)); clear hb2))
                go_ret
                exact kys_no HB2.out HNO.out
              · by_cases hm4 : 1 ≤ m ∧ m ≤ 4
                · obtain ⟨hm1, hm2⟩ := hm4
                  have hm1i : (1 : Int) ≤ m := by omega
                  have hm2i : (m : Int) ≤ 4 := by omega
                  go_wp2_with (first | (go_at_call 38; refine (s_name _ _ (by assumption)).mono ?_; rintro e w9 ⟨rfl, h9⟩; rw [h9]; clear h9 w9; first | rw [hn1] | rw [hn2]) | (go_at_call 27; refine (sk_inT _ _ _ _ hkd).mono ?_; rintro e w9 ⟨rfl, h9⟩; rw [h9]; clear h9 w9) | (go_at_call 39; rw [HW1.out]; refine (CP.out _).mono ?_; rintro e w2 ⟨rfl, hb2⟩; rw [hn3]; have HB2 := hide (HB1.out.trans (hb2.mono HB1.out.size)); have HBX2 := hide (kd_go hBX.out hb2); have k4 := kd_cell HBX2.out 4; simp at k4; clear hb2))
                  obtain ⟨G, hG⟩ : ∃ G, wr.heap.size = G := ⟨_, rfl⟩
                  rw [hG] at HBX2 k4 hwr ⊢
                  clear HW1 hBX HB1 hG HB CP c0 c1 c2 c3 c4 c5
                  go_loopw [5] (fun j wr2 => ∃ q : Nat, q ≤ m ∧ j = .int .i64 q ∧ Hid (Below w.heap.size w wr2) ∧ Hid (KdAt wr2 G #[.string nm, .int .i64 kd, .string on, .string pa, .slice ad m cp, .string re]) ∧ Hid (∀ i, i < q → (fld (fl[i]?.getD ⟨#[]⟩).data.toList).isSome = true)) (fun j _ => m - (intOf j).toNat)
                  case atStart => exact ⟨0, Nat.zero_le _, rfl, HB2.out, HBX2.out, fun i h => by omega⟩
                  case round =>
                    clear k4
                    obtain ⟨q, hq, rfl, HB3, HX3, HFA⟩ := hrel
                    have k4 := kd_cell HX3.out 4
                    simp at k4
                    by_cases hq2 : q < m
                    · obtain ⟨b', off', ha', hb', ht'⟩ := HAT.out (fun e => by have := HMM.out; rw [e] at this; simp at this; omega)
                      have hqi : (q : Int) < m := by omega
                      have t0 := (HB3.out.cell (p := ⟨b', off' + q, none⟩) hb').trans (ht' q (by rw [HMM.out]; exact hq2))
                      have zq := HZ5.out q (by rw [HMM.out]; exact hq2)
                      obtain ⟨f, hf⟩ : ∃ f, fl[q]?.getD ⟨#[]⟩ = f := ⟨_, rfl⟩
                      rw [hf] at t0 zq
                      rw [ha'] at k4
                      have HFQ := hide hf
                      have HTQ : Hid (∀ w5, Below wr.heap.size wr w5 → w5.cell? ⟨b', off' + q, none⟩ = some (.string f)) := hide (fun w5 h => (h.cell (p := ⟨b', off' + q, none⟩) (World.block_lt_of_cell? _ _ t0)).trans t0)
                      have CF := hide (s_field f wr zq)
                      have HAD := hide ha'
                      clear hf ha' hb' ht'
                      cases hfo : fld f.data.toList with
                      | none =>
                        have HNO : Hid (¬ KeysP L) := hide (keys_one HKL.out (fun h => by
                          have := h.2.2.2.2.2 q
                          rw [HX.out] at this
                          simp only at this
                          rw [HFQ.out, hfo] at this
                          exact absurd (this (by rw [HMM.out]; exact hq2)) (by decide)))
                        go_wp2_with (go_at_call 40; refine CF.out.mono ?_; rintro e w5 ⟨hb5, U, A, rfl, -⟩; rw [hfo]; have HB5 := hide (HB3.out.trans (hb5.mono HB3.out.size)); clear hb5)
                        go_ret
                        exact kys_no HB5.out HNO.out
                      | some xx =>
                        have hsm : f.size ≤ 20000 := by have := fld_small hfo; simpa using this
                        have HOK : Hid (∀ i, i < q + 1 → (fld (fl[i]?.getD ⟨#[]⟩).data.toList).isSome = true) := hide (fun i hi => by
                          by_cases e : i = q
                          · subst e; rw [HFQ.out, hfo]; rfl
                          · exact HFA.out i (by omega))
                        have hsmi : (f.size : Int) ≤ 20000 := by omega
                        go_wp2_with (go_at_call 40; refine CF.out.mono ?_; rintro e w5 ⟨hb5, U, A, rfl, -⟩; rw [hfo]; have HB5 := hide (HB3.out.trans (hb5.mono HB3.out.size)); have HX5 := hide (kd_go HX3.out hb5); have k5 := kd_cell HX5.out 4; simp at k5; rw [HAD.out] at k5; have t5 := HTQ.out w5 hb5; clear hb5)
                        go_roundw
                        case rel => exact ⟨q + 1, by omega, by go_num, HB5, HX5, HOK⟩
                        case measure => simp [intOf]; omega
                    · have hqm : q = m := by omega
                      subst hqm
                      have HONE : Hid (KeyOne (kyA L k)) := hide (by
                        rw [HX.out]
                        exact ⟨hn1, hkd, hn2, hn3, ⟨by show 1 ≤ fl.length; rw [HMM.out]; exact hm1, by show fl.length ≤ 4; rw [HMM.out]; exact hm2⟩, fun j hj => HFA.out j (by rw [← HMM.out]; exact hj)⟩)
                      go_wp2
                      go_loopw [9, 10] (fun fo j wr3 => ∃ (r : Nat) (B : Bool), r ≤ k ∧ j = .int .i64 r ∧ fo = .bool B ∧ Hid (Below w.heap.size w wr3) ∧ Hid (KdAt wr3 G #[.string nm, .int .i64 kd, .string on, .string pa, .slice ad q cp, .string re]) ∧ Hid (B = true ↔ ∃ q', q' < r ∧ RefAt L q' k) ∧ Hid (∀ q', q' < r → (kyA L q').nm ≠ (kyA L k).nm)) (fun _ j _ => k - (intOf j).toNat)
                      case atStart => exact ⟨0, false, Nat.zero_le _, rfl, rfl, HB3.out, HX3.out, ref_zero L k, fun i h => by omega⟩
                      case round =>
                        clear k4
                        obtain ⟨p, B, hp, rfl, rfl, HB6, HX6, HRF, HUN⟩ := hrel
                        have k0 := kd_cell HX6.out 0
                        have k1 := kd_cell HX6.out 1
                        have k2 := kd_cell HX6.out 2
                        have k4 := kd_cell HX6.out 4
                        have k5 := kd_cell HX6.out 5
                        simp at k0 k1 k2 k4 k5
                        by_cases hp2 : p < k
                        · have hpi : (p : Int) < k := by omega
                          obtain ⟨ad', cp', hc', -⟩ := HROW.out p (by have := HKL.out; omega)
                          obtain ⟨y, hy⟩ : ∃ y, kyA L p = y := ⟨_, rfl⟩
                          have HY := hide hy
                          rw [hy] at hc'
                          obtain ⟨ynm, ykd, yon, ypa, yfl, yre⟩ := y
                          obtain ⟨d0, d1, d2, d3, d4, d5⟩ := kyC_go hc' hbs HB6.out
                          simp only at d0 d1 d2 d3 d4 d5
                          obtain ⟨ym, hym⟩ : ∃ ym, yfl.length = ym := ⟨_, rfl⟩
                          have HYM := hide hym
                          rw [hym] at d4
                          clear hc' hy hym d3 d5
                          have hC : ((ynm.toList == re.toList) && ((ykd != 3) && (((ym : Int) == (q : Int)) && (yon.toList == on.toList)))) = true ↔ RefAt L p k := by
                            unfold RefAt
                            rw [HY.out, HX.out]
                            simp only
                            rw [HYM.out, HMM.out, Bool.and_eq_true, Bool.and_eq_true, Bool.and_eq_true, ba_eq, ba_eq, bne_iff_ne, beq_iff_eq, Int.ofNat_inj]
                          have HC := hide hC
                          clear hC
                          cases e0 : (ynm.toList == nm.toList)
                          · have HUN2 : Hid (∀ q', q' < p + 1 → (kyA L q').nm ≠ (kyA L k).nm) := hide (fun q' h => by
                              by_cases e : q' = p
                              · subst e; rw [HY.out, HX.out]; exact ba_ne e0
                              · exact HUN.out q' (by omega))
                            cases B
                            · cases e1 : (ynm.toList == re.toList)
                              · go_wp2
                                go_quiet (fail)
                                go_wp2
                                go_quiet (fail)
                                go_wp2
                                go_roundw
                                case rel => exact ⟨p + 1, false, by omega, by go_num, rfl, hide (below_drewK HB6.out _), hide (kd_drew HX6.out _), hide (ref_step HRF.out HC.out (by simp [*])), HUN2⟩
                                case measure => simp [intOf]; omega
                              · cases e2 : (ykd != 3)
                                · go_wp2
                                  go_quiet (fail)
                                  go_wp2
                                  go_quiet (fail)
                                  go_wp2
                                  go_roundw
                                  case rel => exact ⟨p + 1, false, by omega, by go_num, rfl, hide (below_drewK HB6.out _), hide (kd_drew HX6.out _), hide (ref_step HRF.out HC.out (by simp [*])), HUN2⟩
                                  case measure => simp [intOf]; omega
                                · cases e3 : ((ym : Int) == (q : Int))
                                  · go_wp2
                                    go_quiet (fail)
                                    go_wp2
                                    go_quiet (fail)
                                    go_wp2
                                    go_roundw
                                    case rel => exact ⟨p + 1, false, by omega, by go_num, rfl, hide (below_drewK HB6.out _), hide (kd_drew HX6.out _), hide (ref_step HRF.out HC.out (by simp [*])), HUN2⟩
                                    case measure => simp [intOf]; omega
                                  · cases e4 : (yon.toList == on.toList)
                                    · go_wp2
                                      go_quiet (fail)
                                      go_wp2
                                      go_quiet (fail)
                                      go_wp2
                                      go_roundw
                                      case rel => exact ⟨p + 1, false, by omega, by go_num, rfl, hide (below_drewK HB6.out _), hide (kd_drew HX6.out _), hide (ref_step HRF.out HC.out (by simp [*])), HUN2⟩
                                      case measure => simp [intOf]; omega
                                    · go_wp2
                                      go_quiet (fail)
                                      go_wp2
                                      go_quiet (fail)
                                      go_wp2
                                      go_roundw
                                      case rel => exact ⟨p + 1, true, by omega, by go_num, rfl, hide (below_drewK HB6.out _), hide (kd_drew HX6.out _), hide (ref_step HRF.out HC.out (by simp [*])), HUN2⟩
                                      case measure => simp [intOf]; omega
                            · have HRT : Hid (∃ q', q' < p + 1 ∧ RefAt L q' k) := hide (by obtain ⟨q1, h1, h2⟩ := HRF.out.1 rfl; exact ⟨q1, by omega, h2⟩)
                              go_wp2
                              go_quiet (fail)
                              go_wp2
                              go_quiet (fail)
                              go_wp2
                              go_roundw
                              case rel => exact ⟨p + 1, true, by omega, by go_num, rfl, hide (below_drewK HB6.out _), hide (kd_drew HX6.out _), hide ⟨fun _ => HRT.out, fun _ => rfl⟩, HUN2⟩
                              case measure => simp [intOf]; omega
                          · have HNO : Hid (¬ KeysP L) := hide (keys_twice HKL.out hp2 (by rw [HY.out, HX.out]; exact (ba_eq _ _).1 e0))
                            go_wp2
                            go_quiet (fail)
                            go_wp2
                            go_ret
                            exact kys_no (below_drewK HB6.out _) HNO.out
                        · have hpk : p = k := by omega
                          subst hpk
                          by_cases h3 : kd = 3
                          · have h3b : (kd == 3) = true := by rw [beq_iff_eq]; exact h3
                            have h3c : (kd != 3) = false := by rw [h3]; rfl
                            have H3 := hide h3
                            clear h3
                            cases B
                            · have HNO : Hid (¬ KeysP L) := hide (keys_ref HKL.out (by rw [HX.out]; exact H3.out) (fun h => absurd (HRF.out.2 h) (by decide)))
                              go_wp2
                              go_ret
                              exact kys_no HB6.out HNO.out
                            · have HA2 : Hid (∀ q, q < p + 1 → KeyAt L q) := hide (fun q' h => by
                                by_cases e : q' = p
                                · subst e
                                  exact ⟨HONE.out, HUN.out, fun _ => HRF.out.1 rfl, fun h => absurd (by rw [HX.out]; exact H3.out) h⟩
                                · exact HA.out q' (by omega))
                              go_wp2
                              go_roundw
                              case rel => exact ⟨p + 1, by omega, by go_num, HB6, HA2⟩
                              case measure => simp [intOf]; omega
                          · have h3b : (kd == 3) = false := by rw [beq_eq_false_iff_ne]; exact h3
                            have h3c : (kd != 3) = true := by rw [bne_iff_ne]; exact h3
                            have H3 := hide h3
                            clear h3
                            by_cases hre : re = ⟨#[]⟩
                            · have hre2 : re.toList.isEmpty = true := by simp [hre, ByteArray.toList_eq]
                              have hre3 : re.toList = [] := by simp [hre, ByteArray.toList_eq]
                              have HRE := hide hre
                              clear hre
                              have hBf : B = false := by
                                cases B
                                · rfl
                                · exact absurd (HRF.out.1 rfl) (ref_none HA.out (by rw [HX.out]; exact HRE.out))
                              subst hBf
                              have HA2 : Hid (∀ q, q < p + 1 → KeyAt L q) := hide (fun q' h => by
                                by_cases e : q' = p
                                · subst e
                                  exact ⟨HONE.out, HUN.out, fun h => absurd (by rw [HX.out] at h; exact h) H3.out, fun _ => by rw [HX.out]; exact HRE.out⟩
                                · exact HA.out q' (by omega))
                              go_wp2
                              go_roundw
                              case rel => exact ⟨p + 1, by omega, by go_num, HB6, HA2⟩
                              case measure => simp [intOf]; omega
                            · have hre3 : re.toList ≠ [] := fun e => hre ((ba_eq re ⟨#[]⟩).1 (by simp [e, ByteArray.toList_eq]))
                              have hre2 : re.toList.isEmpty = false := by simpa using hre3
                              have HNO : Hid (¬ KeysP L) := hide (keys_no HKL.out (by rw [HX.out]; exact H3.out) (by rw [HX.out]; exact hre))
                              cases B
                              all_goals
                                go_wp2
                                go_ret
                                exact kys_no HB6.out HNO.out
                · have HNO : Hid (¬ KeysP L) := hide (keys_one HKL.out (fun h => by have := h.2.2.2.2.1; rw [HX.out] at this; have h2 := HMM.out; simp only at this; omega))
                  have hm5 : (m : Int) < 1 ∨ ((1 : Int) ≤ m ∧ (4 : Int) < m) := by omega
                  rcases hm5 with hm5 | ⟨hm5, hm6⟩
                  all_goals
                    go_wp2_with (first | (go_at_call 38; refine (s_name _ _ (by assumption)).mono ?_; rintro e w9 ⟨rfl, h9⟩; rw [h9]; clear h9 w9; first | rw [hn1] | rw [hn2]) | (go_at_call 27; refine (sk_inT _ _ _ _ hkd).mono ?_; rintro e w9 ⟨rfl, h9⟩; rw [h9]; clear h9 w9) | (go_at_call 39; rw [HW1.out]; refine (CP.out _).mono ?_; rintro e w2 ⟨rfl, hb2⟩; rw [hn3]; have HB2 := hide (HB1.out.trans (hb2.mono HB1.out.size)); have HBX2 := hide (kd_go hBX.out hb2); have k4 := kd_cell HBX2.out 4; simp at k4; clear hb2))
                    go_ret
                    exact kys_no HB2.out HNO.out
          · have HNO : Hid (¬ KeysP L) := hide (keys_one HKL.out (fun h => hkd (by have := h.2.1; rw [HX.out] at this; exact this)))
            go_wp2_with (first | (go_at_call 38; refine (s_name _ _ hz0).mono ?_; rintro e w9 ⟨rfl, h9⟩; rw [h9, hn1]; clear h9 w9) | (go_at_call 27; refine (sk_inF _ _ _ _ hkd).mono ?_; rintro e w9 ⟨rfl, h9⟩; rw [h9]; clear h9 w9))
            go_ret
            exact kys_no (by rw [HW1.out]; exact HB1.out) HNO.out
      · have hkm : k = n := by omega
        have HK := hide hkm
        go_wp2
        go_ret
        exact kys_yes HB.out ⟨by rw [HD.out]; omega, fun q hq => HA.out q (by rw [HD.out] at hq; have := HK.out; omega)⟩
end Go.Proofs.YtdepgkpfibmbgaaGreatDoor
