/-
  Contract: which rows of items the specification calls a right document.
-/
import Derived.Test.YthcggdjkfebemaaGreatDoorB15
namespace Go.Proofs.YthcggdjkfebemaaGreatDoor
open Go.RowKit Go.Joins
set_option linter.unusedVariables false
set_option linter.unusedSimpArgs false
theorem s_inT (n a b : Int) (w : World) (h : a ≤ n ∧ n ≤ b) : Calls Tryz.prog 44 #[.int .i64 n, .int .i64 a, .int .i64 b] w fun e w' => e = .returned (.bool true) ∧ w' = w := by
  obtain ⟨h1, h2⟩ := h
  go_enter Tryz.func44, Tryz.ntmps44
  go_wp2
  go_ret
  exact ⟨rfl, rfl⟩
theorem s_inF (n a b : Int) (w : World) (h : ¬ (a ≤ n ∧ n ≤ b)) : Calls Tryz.prog 44 #[.int .i64 n, .int .i64 a, .int .i64 b] w fun e w' => e = .returned (.bool false) ∧ w' = w := by
  by_cases h1 : a ≤ n
  · have h2 : ¬ n ≤ b := fun x => h ⟨h1, x⟩
    clear h
    go_enter Tryz.func44, Tryz.ntmps44
    go_wp2
    go_ret
    exact ⟨rfl, rfl⟩
  · clear h
    go_enter Tryz.func44, Tryz.ntmps44
    go_wp2
    go_ret
    exact ⟨rfl, rfl⟩
theorem pB_long {D : Dc} {k : Nat} (h : 10 < D.AC k) : pB D k = false := by
  unfold pB partB
  split
  · have : ((D.AC k : Int) == 0) = false := by simp; omega
    rw [this]; simp
  · rw [attrsB_long h]; simp
set_option maxRecDepth 100000 in
set_option maxHeartbeats 16000000 in
theorem s_docok (D : Dc) (n : Nat) (a : Option Addr) (cap : Nat) (w : World) (hD : D.n = n) (hz : dcTot D ≤ 1048576) (hr : DcAt w a D w.heap.size) :
    Calls Tryz.prog 22 #[.slice a n cap] w fun e w' => e = .returned (.bool (docokB D)) ∧ Below w.heap.size w w' := by
  have HD := hide hD
  have HR := hide hr
  have HZ := hide hz
  have hn : n ≤ 1048576 := by rw [← hD]; exact (dc_sz hz).1
  clear hr hD hz
  by_cases hs : 1 ≤ n ∧ n ≤ 200
  · obtain ⟨g1, g2⟩ := hs
    have g3 : (1 : Int) ≤ n := by omega
    have g4 : (n : Int) ≤ 200 := by omega
    obtain ⟨b, off, rfl, hbs, hrow⟩ := HR.out (by rw [HD.out]; omega)
    have HRW := hide hrow
    clear hrow
    go_enter Tryz.func22, Tryz.ntmps22
    go_wp2
    go_loopw [3, 4] (fun t i wr => ∃ k : Nat, k ≤ n ∧ i = .int .i64 k ∧ t = .int .i64 (sumN (szD D) k : Int) ∧ sumN (szD D) k ≤ 2500 ∧ Below w.heap.size w wr ∧ Hid (∀ j, j < k → itB D j = true)) (fun _ i _ => n - (intOf i).toNat)
    case atStart => exact ⟨0, Nat.zero_le _, rfl, rfl, Nat.zero_le _, Below.refl _ _, fun j h => by omega⟩
    case round =>
      obtain ⟨k, hk, rfl, rfl, hlow, hb, HM⟩ := hrel
      have hq1 := szD_le HZ.out (k := k) (by rw [HD.out]; exact hk)
      by_cases hlt : k < n
      · obtain ⟨ad, cp, hc, hat, hcp⟩ := HRW.out k (by rw [HD.out]; omega)
        obtain ⟨c0, c1, c2, c3⟩ := dcCells_go hc hbs hb
        have HB := hide hb
        have HA0 := hide hat
        have hq3 : sumN (szD D) (k + 1) = sumN (szD D) k + ((D.NM k).size + (D.TX k).size + atsT (D.AC k) (D.AN k) (D.AV k)) := rfl
        obtain ⟨q, hq⟩ : ∃ q, sumN (szD D) k = q := ⟨_, rfl⟩
        rw [hq] at hq1 hq3 hlow ⊢
        have HQ3 := hide hq3
        obtain ⟨z1, z2⟩ := (dc_sz HZ.out).2 k (by rw [HD.out]; omega)
        have HZ1 := hide z1
        have HZ2 := hide z2
        have hn1 : (D.NM k).size ≤ 1048576 := by omega
        have hn2 : (D.TX k).size ≤ 1048576 := by omega
        have hac : D.AC k ≤ 1048576 := by omega
        have HN1 := hide hn1
        have HN2 := hide hn2
        have hi : (k : Int) < (n : Int) := by omega
        clear hc hat hb hq hq3 z1 z2
        go_wp2
        clear c0 c1 c2 c3
        go_loopw [3, 6] (fun s j w2 => ∃ m : Nat, m ≤ D.AC k ∧ m ≤ 20 ∧ j = .int .i64 m ∧ s = .int .i64 ((q : Int) + (D.NM k).size + (D.TX k).size + (sumN (atSz (D.AN k) (D.AV k)) m : Int)) ∧ ItAt w2 wr.heap.size (D.U k) (D.NM k) (D.TX k) ad (D.AC k) cp ∧ Below w.heap.size w w2) (fun _ j _ => 20 - (intOf j).toNat)
        case atStart => exact ⟨0, Nat.zero_le _, Nat.zero_le _, rfl, by simp [sumN], itAt_new _ _ _ _ _ _ _ _, HB.out.alloc HB.out.size _⟩
        case round =>
          obtain ⟨m, hm1, hm2, rfl, rfl, hI, hb2⟩ := hrel
          obtain ⟨a0, a1, a2, a3⟩ := itAt_cells hI
          have hall := HZ1.out
          unfold atsT at hall
          have hle := sumN_le (atSz (D.AN k) (D.AV k)) hm1
          by_cases hml : m < D.AC k ∧ m < 20
          · obtain ⟨m1, m2⟩ := hml
            have m3 : (m : Int) < (D.AC k : Int) := by omega
            have m4 : (m : Int) < 20 := by omega
            obtain ⟨b9, off9, rfl, hb9, hc9⟩ := HA0.out (by omega)
            have d0 := (hb2.cell (p := ⟨b9, off9 + m * 2, none⟩) hb9).trans (hc9 m m1).1
            have d1 := (hb2.cell (p := ⟨b9, off9 + m * 2 + 1, none⟩) hb9).trans (hc9 m m1).2
            have hle2 := sumN_at (atSz (D.AN k) (D.AV k)) m1
            have hat9 : atSz (D.AN k) (D.AV k) m = (D.AN k m).size + (D.AV k m).size := rfl
            rw [hat9] at hle2
            obtain ⟨r, hr9⟩ : ∃ r, sumN (atSz (D.AN k) (D.AV k)) m = r := ⟨_, rfl⟩
            have HR1 : Hid (sumN (atSz (D.AN k) (D.AV k)) (m + 1) = r + ((D.AN k m).size + (D.AV k m).size)) := hide (by rw [← hr9]; rfl)
            rw [hr9] at hle hle2 ⊢
            obtain ⟨sv, hsv⟩ : ∃ sv, (q : Int) + (D.NM k).size + (D.TX k).size + (r : Int) = sv := ⟨_, rfl⟩
            have HSV := hide hsv
            have hsv1 : 0 ≤ sv ∧ sv ≤ 3145728 := by omega
            obtain ⟨sv1, sv2⟩ := hsv1
            have w1 : IntKind.i64.wrap (sv + ((D.AN k m).size : Int)) = sv + ((D.AN k m).size : Int) := by rw [IntKind.wrap_i64]; omega
            have w2' : IntKind.i64.wrap (sv + ((D.AN k m).size : Int) + ((D.AV k m).size : Int)) = sv + ((D.AN k m).size : Int) + ((D.AV k m).size : Int) := by rw [IntKind.wrap_i64]; omega
            rw [hsv]
            have HI := hide hI
            have HB2 := hide hb2
            clear hc9 hat9 hr9 hsv hI hb2 hle hle2 hall hq1
            go_wp2
            go_big_quiet (fail)
            go_wp2
            go_roundw
            case rel => exact ⟨m + 1, by omega, by omega, by go_num, by rw [HR1.out, ← HSV.out]; go_num, itAt_go HI.out (drewN_below _ _), HB2.out.trans ((drewN_below _ _).mono HB2.out.size)⟩
            case measure => simp [intOf]; omega
          · have HSZ : Hid (q + (D.NM k).size + (D.TX k).size + sumN (atSz (D.AN k) (D.AV k)) m = sumN (szD D) (k + 1) ∨ 10 < D.AC k) := hide (by
              by_cases e : m = D.AC k
              · left; rw [HQ3.out]; unfold atsT; rw [e]; omega
              · right; omega)
            have hex : (¬ (m : Int) < (D.AC k : Int)) ∨ ((m : Int) < (D.AC k : Int) ∧ ¬ (m : Int) < 20) := by omega
            obtain ⟨r, hr9⟩ : ∃ r, sumN (atSz (D.AN k) (D.AV k)) m = r := ⟨_, rfl⟩
            rw [hr9] at hle HSZ ⊢
            obtain ⟨sv, hsv⟩ : ∃ sv : Nat, q + (D.NM k).size + (D.TX k).size + r = sv := ⟨_, rfl⟩
            rw [hsv] at HSZ
            rw [show (q : Int) + (D.NM k).size + (D.TX k).size + (r : Int) = (sv : Int) by omega]
            have HXW := hide hI
            have HBW := hide hb2
            have hsv2 : sv ≤ 3145728 := by omega
            clear hr9 hsv hI hb2 hle hall hml hm1 hm2
            by_cases hbig : 2500 < sv
            · have hv := hide (HSZ.out.elim (fun h => docok_big (D := D) (k := k + 1) (by rw [HD.out]; exact hlt) (by rw [← h]; exact hbig)) (fun h => docok_no (D := D) (k := k) (by rw [HD.out]; exact hlt) (by unfold itB; rw [pB_long h]; simp)))
              have hbig2 : (2500 : Int) < (sv : Int) := by omega
              rcases hex with hex | ⟨hex, hex2⟩
              all_goals
                go_wp2
                go_ret
                exact ⟨ret_bool hv.out.symm, HBW.out⟩
            · have hbig2 : (sv : Int) ≤ 2500 := by omega
              by_cases h0 : k = 0
              · subst h0
                rcases hex with hex | ⟨hex, hex2⟩
                all_goals
                  have h0b : ((0 : Int) == 0) = true := rfl
                  cases u0 : (D.U 0 == -1)
                  · have hv := hide (docok_no (D := D) (k := 0) (by rw [HD.out]; exact hlt) (by unfold itB placeB; rw [if_pos rfl, u0]; rfl))
                    have u1 : (D.U 0 != -1) = true := by simpa using u0
                    go_wp2
                    go_ret
                    exact ⟨ret_bool hv.out.symm, HBW.out⟩
                  · have u1 : D.U 0 = -1 := by simpa using u0
                    cases e1 : (D.NM 0).toList.isEmpty
                    · have HPL : Hid (placeB D 0 = true) := hide (by unfold placeB isE; rw [if_pos rfl, u0, e1]; rfl)
                      have HDP : Hid (dp D.U (D.U 0) = 0) := hide (by rw [u1]; exact dp_neg D.U (by decide))
                      have HDEC : Hid (∀ j : Nat, j ≤ 0 → -1 ≤ D.U j ∧ D.U j < j) := hide (fun j hj => by obtain rfl : j = 0 := by omega
                                                                                                          rw [u1]; decide)
                      rw [u1] at a0 HXW
                      cases e2 : (D.TX 0).toList.isEmpty
                      · have hv := hide (docok_no (D := D) (k := 0) (by rw [HD.out]; exact hlt) (by unfold itB pB partB; rw [e1, e2]; simp))
                        go_wp2_with (first | (go_at_call 45; refine (s_deep D n b off cap _ w.heap.size 0 HD.out g2 hlt (dcRow_go HRW.out hbs HBW.out) HDEC.out).mono ?_; rintro e w9 ⟨rfl, rfl⟩; rw [HDP.out]))
                        go_ret
                        exact ⟨ret_bool hv.out.symm, HBW.out⟩
                      · cases e3 : qualB (D.NM 0)
                        · have hv := hide (docok_no (D := D) (k := 0) (by rw [HD.out]; exact hlt) (by unfold itB pB partB; rw [e1, e3]; simp))
                          go_wp2_with (first | (go_at_call 45; refine (s_deep D n b off cap _ w.heap.size 0 HD.out g2 hlt (dcRow_go HRW.out hbs HBW.out) HDEC.out).mono ?_; rintro e w9 ⟨rfl, rfl⟩; rw [HDP.out]) | (go_at_call 46; refine (s_qual _ _ HN1.out).mono ?_; rintro e w9 ⟨rfl, q9, rfl⟩; rw [e3]))
                          go_ret
                          exact ⟨ret_bool hv.out.symm, HBW.out.trans ((drewN_below _ _).mono HBW.out.size)⟩
                        · cases e4 : attrsB (D.AC 0) (D.AN 0) (D.AV 0)
                          · have hv := hide (docok_no (D := D) (k := 0) (by rw [HD.out]; exact hlt) (by unfold itB pB partB; rw [e1, e4]; simp))
                            go_wp2_with (first | (go_at_call 45; refine (s_deep D n b off cap _ w.heap.size 0 HD.out g2 hlt (dcRow_go HRW.out hbs HBW.out) HDEC.out).mono ?_; rintro e w9 ⟨rfl, rfl⟩; rw [HDP.out]) | (go_at_call 46; refine (s_qual _ _ HN1.out).mono ?_; rintro e w9 ⟨rfl, q9, rfl⟩; rw [e3]) | (go_at_call 47; refine (s_attrs _ _ _ (D.AN 0) (D.AV 0) _ hac HZ2.out (atAt_up (atAt_go HA0.out (HBW.out.trans ((drewN_below _ _).mono HBW.out.size))) (HBW.out.trans ((drewN_below _ _).mono HBW.out.size)).size)).mono ?_; rintro e w8 ⟨rfl, hb8⟩; rw [e4]; have HB8 := hide ((HBW.out.trans ((drewN_below _ _).mono HBW.out.size)).trans (hb8.mono HBW.out.size)); clear hb8))
                            go_ret
                            exact ⟨ret_bool hv.out.symm, HB8.out⟩
                          · have HIT : Hid (itB D 0 = true) := hide (by unfold itB pB partB; rw [HPL.out, e1, e2, e3, e4]; rfl)
                            have HSQ := hide (HSZ.out.resolve_right (fun h => by rw [attrsB_long h] at e4; cases e4))
                            go_wp2_with (first | (go_at_call 45; refine (s_deep D n b off cap _ w.heap.size 0 HD.out g2 hlt (dcRow_go HRW.out hbs HBW.out) HDEC.out).mono ?_; rintro e w9 ⟨rfl, rfl⟩; rw [HDP.out]) | (go_at_call 46; refine (s_qual _ _ HN1.out).mono ?_; rintro e w9 ⟨rfl, q9, rfl⟩; rw [e3]) | (go_at_call 47; refine (s_attrs _ _ _ (D.AN 0) (D.AV 0) _ hac HZ2.out (atAt_up (atAt_go HA0.out (HBW.out.trans ((drewN_below _ _).mono HBW.out.size))) (HBW.out.trans ((drewN_below _ _).mono HBW.out.size)).size)).mono ?_; rintro e w8 ⟨rfl, hb8⟩; rw [e4]; have HB8 := hide ((HBW.out.trans ((drewN_below _ _).mono HBW.out.size)).trans (hb8.mono HBW.out.size)); clear hb8))
                            go_roundw
                            case rel =>
                              refine ⟨0 + 1, by omega, by go_num, by rw [← HSQ.out], by rw [← HSQ.out]; omega, HB8.out, fun j hj => ?_⟩
                              by_cases e : j = 0
                              · subst e; exact HIT.out
                              · exact HM.out j (by omega)
                            case measure => simp [intOf]; omega
                    · have hv := hide (docok_no (D := D) (k := 0) (by rw [HD.out]; exact hlt) (by unfold itB placeB isE; rw [if_pos rfl, e1]; simp))
                      rw [u1] at a0
                      go_wp2
                      go_ret
                      exact ⟨ret_bool hv.out.symm, HBW.out⟩
              · rcases hex with hex | ⟨hex, hex2⟩
                all_goals
                  have hkz : ((k : Int) == 0) = false := by simp; omega
                  have hk1 : (0 : Int) < (k : Int) := by omega
                  have HGD := hide (itB_good HM.out)
                  obtain ⟨ad1, cp1, hc1, -⟩ := HRW.out (k - 1) (by rw [HD.out]; omega)
                  have HC1 := hide hc1
                  have hkm : ((k : Int) - 1).toNat = k - 1 := by omega
                  have hkn9 : (k : Int) - 1 < (n : Int) := by omega
                  have hkn8 : (1 : Int) ≤ (k : Int) := by omega
                  clear hc1
                  by_cases hin : 0 ≤ D.U k ∧ D.U k ≤ (k : Int) - 1
                  · obtain ⟨ad2, cp2, hc2, -⟩ := HRW.out (D.U k).toNat (by rw [HD.out]; omega)
                    obtain ⟨t0, t1, t2, t3⟩ := dcCells_go hc2 hbs HBW.out
                    have hun : D.U k < (n : Int) := by omega
                    have hu0 : 0 ≤ D.U k := hin.1
                    have HIN := hide hin
                    clear hc2
                    cases hE : (D.NM (D.U k).toNat).toList.isEmpty
                    · have HRS := hide (spec_rc h0 HGD.out hin hE)
                      obtain ⟨R, hR⟩ : ∃ R, rc D.U (D.U k) (stI D k) = R := ⟨_, rfl⟩
                      rw [hR] at HRS
                      have HR9 := hide hR
                      have HDC := hide (good_dec k HGD.out)
                      clear hR
                      go_wp2_with (first | (go_at_call 44; refine (s_inT _ _ _ _ HIN.out).mono ?_; rintro e w9 ⟨rfl, rfl⟩))
                      clear t0 t1 t2 t3
                      go_loop [7] (fun v => ∃ a : Int, v = .int .i64 a ∧ -1 ≤ a ∧ a ≤ (k : Int) - 1 ∧ Hid (rc D.U (D.U k) a = R)) (fun v => (intOf v + 1).toNat)
                      case atStart => exact ⟨_, rfl, by omega, by omega, HRS.out⟩
                      case round =>
                        obtain ⟨a, rfl, ha0, ha1, HA⟩ := hrel
                        by_cases h9 : 0 ≤ a
                        · by_cases h8 : a = D.U k
                          · have HRT : Hid (R = true) := hide (by rw [← HA.out]; exact rc_hit D.U (D.U k) h9 h8)
                            have ha3 : (a != D.U k) = false := by simpa using h8
                            have HDEC : Hid (∀ j : Nat, j ≤ k → -1 ≤ D.U j ∧ D.U j < j) := hide (fun j hj => by
                              by_cases e : j = k
                              · subst e; have := HIN.out; omega
                              · exact HDC.out j (by omega))
                            obtain ⟨dv, hdv⟩ : ∃ dv, dp D.U (D.U k) = dv := ⟨_, rfl⟩
                            have HDP := hide hdv
                            by_cases hd : dv < 20
                            · have HPF : Hid (dupB D k = false → placeB D k = true) := hide (fun h => place_yes h0 h (by rw [HR9.out, HRT.out]) (by rw [hdv]; exact hd))
                              have HPD : Hid (dupB D k = true → placeB D k = false) := hide (fun h => place_no_dup h0 h)
                              have hd2 : (dv : Int) < 20 := by omega
                              clear hdv
                              cases e1 : (D.NM k).toList.isEmpty
                              · have HPL := hide (HPF.out (by unfold dupB isE; rw [e1]; simp))
                                cases e2 : (D.TX k).toList.isEmpty
                                · have hv := hide (docok_no (D := D) (k := k) (by rw [HD.out]; exact hlt) (by unfold itB pB partB; rw [e1, e2]; simp))
                                  go_wp2_with (first | (go_at_call 45; refine (s_deep D n b off cap _ w.heap.size k HD.out g2 hlt (dcRow_go HRW.out hbs HBW.out) HDEC.out).mono ?_; rintro e w9 ⟨rfl, rfl⟩; rw [HDP.out]))
                                  go_ret
                                  exact ⟨ret_bool hv.out.symm, HBW.out⟩
                                · cases e3 : qualB (D.NM k)
                                  · have hv := hide (docok_no (D := D) (k := k) (by rw [HD.out]; exact hlt) (by unfold itB pB partB; rw [e1, e3]; simp))
                                    go_wp2_with (first | (go_at_call 45; refine (s_deep D n b off cap _ w.heap.size k HD.out g2 hlt (dcRow_go HRW.out hbs HBW.out) HDEC.out).mono ?_; rintro e w9 ⟨rfl, rfl⟩; rw [HDP.out]) | (go_at_call 46; refine (s_qual _ _ HN1.out).mono ?_; rintro e w9 ⟨rfl, q9, rfl⟩; rw [e3]))
                                    go_ret
                                    exact ⟨ret_bool hv.out.symm, HBW.out.trans ((drewN_below _ _).mono HBW.out.size)⟩
                                  · cases e4 : attrsB (D.AC k) (D.AN k) (D.AV k)
                                    · have hv := hide (docok_no (D := D) (k := k) (by rw [HD.out]; exact hlt) (by unfold itB pB partB; rw [e1, e4]; simp))
                                      go_wp2_with (first | (go_at_call 45; refine (s_deep D n b off cap _ w.heap.size k HD.out g2 hlt (dcRow_go HRW.out hbs HBW.out) HDEC.out).mono ?_; rintro e w9 ⟨rfl, rfl⟩; rw [HDP.out]) | (go_at_call 46; refine (s_qual _ _ HN1.out).mono ?_; rintro e w9 ⟨rfl, q9, rfl⟩; rw [e3]) | (go_at_call 47; refine (s_attrs _ _ _ (D.AN k) (D.AV k) _ hac HZ2.out (atAt_up (atAt_go HA0.out (HBW.out.trans ((drewN_below _ _).mono HBW.out.size))) (HBW.out.trans ((drewN_below _ _).mono HBW.out.size)).size)).mono ?_; rintro e w8 ⟨rfl, hb8⟩; rw [e4]; have HB8 := hide ((HBW.out.trans ((drewN_below _ _).mono HBW.out.size)).trans (hb8.mono HBW.out.size)); clear hb8))
                                      go_ret
                                      exact ⟨ret_bool hv.out.symm, HB8.out⟩
                                    · have HIT : Hid (itB D k = true) := hide (by unfold itB pB partB; rw [HPL.out, e1, e2, e3, e4]; rfl)
                                      have HSQ := hide (HSZ.out.resolve_right (fun h => by rw [attrsB_long h] at e4; cases e4))
                                      go_wp2_with (first | (go_at_call 45; refine (s_deep D n b off cap _ w.heap.size k HD.out g2 hlt (dcRow_go HRW.out hbs HBW.out) HDEC.out).mono ?_; rintro e w9 ⟨rfl, rfl⟩; rw [HDP.out]) | (go_at_call 46; refine (s_qual _ _ HN1.out).mono ?_; rintro e w9 ⟨rfl, q9, rfl⟩; rw [e3]) | (go_at_call 47; refine (s_attrs _ _ _ (D.AN k) (D.AV k) _ hac HZ2.out (atAt_up (atAt_go HA0.out (HBW.out.trans ((drewN_below _ _).mono HBW.out.size))) (HBW.out.trans ((drewN_below _ _).mono HBW.out.size)).size)).mono ?_; rintro e w8 ⟨rfl, hb8⟩; rw [e4]; have HB8 := hide ((HBW.out.trans ((drewN_below _ _).mono HBW.out.size)).trans (hb8.mono HBW.out.size)); clear hb8))
                                      go_roundw
                                      case rel =>
                                        refine ⟨k + 1, by omega, by go_num, by rw [← HSQ.out], by rw [← HSQ.out]; omega, HB8.out, fun j hj => ?_⟩
                                        by_cases e : j = k
                                        · subst e; exact HIT.out
                                        · exact HM.out j (by omega)
                                      case measure => simp [intOf]; omega
                              · cases e2 : (D.TX k).toList.isEmpty
                                · cases e22 : ((D.AC k : Int) == 0)
                                  · have e23 : (0 : Int) < (D.AC k : Int) := by
                                      have : ¬ (D.AC k : Int) = 0 := by simpa using e22
                                      omega
                                    have hv := hide (docok_no (D := D) (k := k) (by rw [HD.out]; exact hlt) (by unfold itB pB partB; rw [e1, e22]; simp))
                                    go_wp2_with (first | (go_at_call 45; refine (s_deep D n b off cap _ w.heap.size k HD.out g2 hlt (dcRow_go HRW.out hbs HBW.out) HDEC.out).mono ?_; rintro e w9 ⟨rfl, rfl⟩; rw [HDP.out]))
                                    go_ret
                                    exact ⟨ret_bool hv.out.symm, HBW.out⟩
                                  · by_cases hcon : (m : Int) < (D.AC k : Int)
                                    · exfalso
                                      have e24 : (D.AC k : Int) = 0 := by simpa using e22
                                      omega
                                    · try (exfalso; omega)
                                      all_goals
                                        have e24 : (D.AC k : Int) = 0 := by simpa using e22
                                        have e23 : (D.AC k : Int) ≤ 0 := by omega
                                        clear e24
                                        cases e3 : plainB (D.TX k)
                                        · have hv := hide (docok_no (D := D) (k := k) (by rw [HD.out]; exact hlt) (by unfold itB pB partB; rw [e1, e3]; simp))
                                          go_wp2_with (first | (go_at_call 45; refine (s_deep D n b off cap _ w.heap.size k HD.out g2 hlt (dcRow_go HRW.out hbs HBW.out) HDEC.out).mono ?_; rintro e w9 ⟨rfl, rfl⟩; rw [HDP.out]) | (go_at_call 32; refine (s_text _ _ HN2.out).mono ?_; rintro e w8 ⟨rfl, hb8⟩; rw [e3]; have HB8 := hide (HBW.out.trans (hb8.mono HBW.out.size)); have HX8 := hide (itAt_go HXW.out hb8); clear hb8))
                                          go_ret
                                          exact ⟨ret_bool hv.out.symm, HB8.out⟩
                                        · go_wp2_with (first | (go_at_call 45; refine (s_deep D n b off cap _ w.heap.size k HD.out g2 hlt (dcRow_go HRW.out hbs HBW.out) HDEC.out).mono ?_; rintro e w9 ⟨rfl, rfl⟩; rw [HDP.out]) | (go_at_call 32; refine (s_text _ _ HN2.out).mono ?_; rintro e w8 ⟨rfl, hb8⟩; rw [e3]; have HB8 := hide (HBW.out.trans (hb8.mono HBW.out.size)); have HX8 := hide (itAt_go HXW.out hb8); clear hb8))
                                          obtain ⟨x0, x1, x2, x3⟩ := itAt_cells HX8.out
                                          obtain ⟨y0, y1, y2, y3⟩ := dcCells_go HC1.out hbs HB8.out
                                          clear a0 a1 a2 a3
                                          cases f1 : (D.NM (k - 1)).toList.isEmpty
                                          · have HPL := hide (HPF.out (by unfold dupB isE; rw [f1]; rfl))
                                            have HIT : Hid (itB D k = true) := hide (by unfold itB pB partB; rw [HPL.out, e1, e2, e22, e3]; rfl)
                                            have HSQ := hide (HSZ.out.resolve_right (fun h => by omega))
                                            go_big_quiet (fail)
                                            go_wp2
                                            go_roundw
                                            case rel =>
                                              refine ⟨k + 1, by omega, by go_num, by rw [← HSQ.out], by rw [← HSQ.out]; omega, HB8.out.trans ((drewN_below _ _).mono HB8.out.size), fun j hj => ?_⟩
                                              by_cases e : j = k
                                              · subst e; exact HIT.out
                                              · exact HM.out j (by omega)
                                            case measure => simp [intOf]; omega
                                          · cases f2 : (D.U (k - 1) == D.U k)
                                            · have HPL := hide (HPF.out (by unfold dupB isE; rw [f1, e1, f2]; rfl))
                                              have HIT : Hid (itB D k = true) := hide (by unfold itB pB partB; rw [HPL.out, e1, e2, e22, e3]; rfl)
                                              have HSQ := hide (HSZ.out.resolve_right (fun h => by omega))
                                              go_big_quiet (fail)
                                              go_wp2
                                              go_roundw
                                              case rel =>
                                                refine ⟨k + 1, by omega, by go_num, by rw [← HSQ.out], by rw [← HSQ.out]; omega, HB8.out.trans ((drewN_below _ _).mono HB8.out.size), fun j hj => ?_⟩
                                                by_cases e : j = k
                                                · subst e; exact HIT.out
                                                · exact HM.out j (by omega)
                                              case measure => simp [intOf]; omega
                                            · have hv := hide (docok_no (D := D) (k := k) (by rw [HD.out]; exact hlt) (by unfold itB; rw [HPD.out (by unfold dupB isE; rw [f1, e1, f2]; rfl)]; rfl))
                                              go_big_quiet (fail)
                                              go_wp2
                                              go_ret
                                              exact ⟨ret_bool hv.out.symm, HB8.out.trans ((drewN_below _ _).mono HB8.out.size)⟩
                                · have hv := hide (docok_no (D := D) (k := k) (by rw [HD.out]; exact hlt) (by unfold itB pB partB; rw [e1, e2]; simp))
                                  go_wp2_with (first | (go_at_call 45; refine (s_deep D n b off cap _ w.heap.size k HD.out g2 hlt (dcRow_go HRW.out hbs HBW.out) HDEC.out).mono ?_; rintro e w9 ⟨rfl, rfl⟩; rw [HDP.out]))
                                  go_ret
                                  exact ⟨ret_bool hv.out.symm, HBW.out⟩
                            · have hv := hide (docok_no (D := D) (k := k) (by rw [HD.out]; exact hlt) (by unfold itB; rw [place_no_dp h0 (by rw [hdv]; exact hd)]; rfl))
                              have hd2 : (20 : Int) ≤ (dv : Int) := by omega
                              clear hdv
                              go_wp2_with (first | (go_at_call 45; refine (s_deep D n b off cap _ w.heap.size k HD.out g2 hlt (dcRow_go HRW.out hbs HBW.out) HDEC.out).mono ?_; rintro e w9 ⟨rfl, rfl⟩; rw [HDP.out]))
                              go_ret
                              exact ⟨ret_bool hv.out.symm, HBW.out⟩
                          · have ha3 : (a != D.U k) = true := by simpa using h8
                            obtain ⟨ad9, cp9, hc9, -⟩ := HRW.out a.toNat (by rw [HD.out]; omega)
                            obtain ⟨t0, t1, t2, t3⟩ := dcCells_go hc9 hbs HBW.out
                            obtain ⟨d1, d2⟩ := HDC.out a.toNat (by omega)
                            have HS9 : Hid (rc D.U (D.U k) a = rc D.U (D.U k) (D.U a.toNat)) := hide (rc_step D.U (D.U k) h9 h8 (fun j hj => (HDC.out j (by omega)).2))
                            have han : a < (n : Int) := by omega
                            clear hc9
                            go_wp2
                            go_round
                            case rel => exact ⟨D.U a.toNat, rfl, d1, by omega, by rw [← HS9.out]; exact HA.out⟩
                            case measure => simp [intOf]; omega
                        · have HRF : Hid (R = false) := hide (by rw [← HA.out]; exact rc_neg D.U (D.U k) (by omega))
                          have hv := hide (docok_no (D := D) (k := k) (by rw [HD.out]; exact hlt) (by unfold itB; rw [place_no_rc h0 (by rw [HR9.out, HRF.out])]; rfl))
                          go_wp2
                          go_ret
                          exact ⟨ret_bool hv.out.symm, HBW.out⟩
                    · have hv := hide (docok_no (D := D) (k := k) (by rw [HD.out]; exact hlt) (by unfold itB; rw [place_no_rc h0 (by cases hq : rc D.U (D.U k) (stI D k) with | false => rfl | true => have := (spec_range h0 HGD.out hq).2; unfold isE at this; rw [hE] at this; cases this)]; rfl))
                      go_wp2_with (first | (go_at_call 44; refine (s_inT _ _ _ _ HIN.out).mono ?_; rintro e w9 ⟨rfl, rfl⟩))
                      go_ret
                      exact ⟨ret_bool hv.out.symm, HBW.out⟩
                  · have HIN := hide hin
                    have hv := hide (docok_no (D := D) (k := k) (by rw [HD.out]; exact hlt) (by unfold itB; rw [place_no_rc h0 (by cases hq : rc D.U (D.U k) (stI D k) with | false => rfl | true => exact absurd (spec_range h0 HGD.out hq).1 hin)]; rfl))
                    clear hin
                    go_wp2_with (first | (go_at_call 44; refine (s_inF _ _ _ _ HIN.out).mono ?_; rintro e w9 ⟨rfl, rfl⟩))
                    go_ret
                    exact ⟨ret_bool hv.out.symm, HBW.out⟩
      · have hkn : k = n := by omega
        subst hkn
        have hv := docok_all (D := D) (by rw [HD.out]; exact ⟨g1, g2⟩) (by rw [HD.out]; exact HM.out)
        rw [HD.out, decide_eq_true hlow] at hv
        have HV := hide hv
        clear hv
        go_wp2
        go_ret
        exact ⟨ret_bool HV.out.symm, hb⟩
  · have e := docok_size (D := D) (by rw [HD.out]; exact hs)
    rw [e]
    by_cases g : n = 0
    · go_enter Tryz.func22, Tryz.ntmps22
      go_wp2
      go_ret
      exact ⟨rfl, Below.refl _ _⟩
    · have g2 : (200 : Int) < (n : Int) := by omega
      go_enter Tryz.func22, Tryz.ntmps22
      go_wp2
      go_ret
      exact ⟨rfl, Below.refl _ _⟩
end Go.Proofs.YthcggdjkfebemaaGreatDoor
