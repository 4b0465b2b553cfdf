/-
  Contract of the specification's reader of expressions: a piece.
-/
import Derived.Test.YtepommmmmfaihaaDoorC40
namespace Go.Proofs.YtepommmmmfaihaaDoor
open Go.RowKit Go.Joins
set_option linter.unusedVariables false
set_option linter.unusedSimpArgs false
theorem lm_of {q : List Int} {v : Int} {r : List Int} (hn : nmP q = some (v, r)) : lmP q = if r.head? = some 125 then some ((v, v), r.tail) else if r.head? = some 44 then (if r.tail.head? = some 125 then some ((v, -1), r.tail.tail) else match nmP r.tail with
      | none => none
      | some (m, r2) => if r2.head? = some 125 then some ((v, m), r2.tail) else none)
    else none := by unfold lmP; rw [hn]; rfl
theorem lm_bad {q : List Int} (h : nmP q = none ∨ ∃ v d r, nmP q = some (v, d :: r) ∧ dgB d = true) : lmP q = none := by
  rcases h with h | ⟨v, d, r, h, hd⟩
  · unfold lmP; rw [h]
  · have hd' : 48 ≤ d ∧ d ≤ 57 := of_decide_eq_true hd
    rw [lm_of h, if_neg (by simp; omega), if_neg (by simp; omega)]
theorem lm_two {q : List Int} {v : Int} {r : List Int} (hn : nmP q = some (v, 44 :: r)) (h1 : r.head? ≠ some 125) (h : nmP r = none ∨ ∃ v d r2, nmP r = some (v, d :: r2) ∧ dgB d = true) : lmP q = none := by
  rw [lm_of hn, if_neg (by simp), if_pos (by simp), if_neg (by simpa using h1)]
  rcases h with h | ⟨v, d, r2, h, hd⟩
  · show (match nmP r with | none => none | some (m, r2) => _) = none
    rw [h]
  · have hd' : 48 ≤ d ∧ d ≤ 57 := of_decide_eq_true hd
    show (match nmP r with | none => none | some (m, r2) => _) = none
    rw [h]
    show (if (d :: r2).head? = some 125 then _ else none) = none
    rw [if_neg (by simp; omega)]
set_option maxRecDepth 100000 in
set_option maxHeartbeats 8000000 in
theorem s_piece (n : Nat) (hA : AtS n) : PcS n := by
  intro B R C k X w g hlt hn hg hX h
  obtain ⟨f, rfl⟩ : ∃ f, g = f + 1 := ⟨g - 1, by omega⟩
  have HE : Hid (rdP (f + 1) (C.drop k) X = match rdA f (C.drop k) X with
    | none => none
    | some (u1, X1) => match ctP u1 with
      | none => none
      | some (none, u2) => some (u2, X1)
      | some (some m, u2) => some (u2, X1 ++ [cnN ((X1.length : Int) - 1) m.1 m.2])) := hide (by rw [rdP]; rfl)
  have HA := hide (hA B R C k X w f hlt hn (by omega) hX h)
  have hC4 := h.1.2.2
  clear h
  go_enter Tryd.func63, Tryd.ntmps63
  go_wp2_with fail
  refine HA.out.mono ?_
  rintro e w1 (⟨k1, X1, ho, hX1, rfl, h1, hb1⟩ | ⟨⟨v, k1, X1, rfl, h1⟩, hno, hb1⟩)
  rotate_left
  · have HNO : Hid (∀ u9 X9, rdP (f + 1) (C.drop k) X = some (u9, X9) → Bd X9) := hide (fun u9 X9 h9 => by
      rw [HE.out] at h9
      cases hq : rdA f (C.drop k) X with
      | none => rw [hq] at h9; cases h9
      | some p =>
        obtain ⟨u1, Y1⟩ := p
        rw [hq] at h9
        have hb9 := hno u1 Y1 hq
        dsimp only at h9
        split at h9
        · cases h9
        · cases h9; exact hb9
        · cases h9; exact bd_app _ hb9)
    have bA := (Below.refl w1.heap.size w1).alloc (Nat.le_refl _) (.cells #[.int .i64 5, .bool false, .slice none 0 0, .int .i64 v, .int .i64 0, .int .i64 0, .int .i64 (-1)] 43)
    have HS2 := hide (sd_bl h1 bA)
    have HB2 := hide (hb1.trans (bA.mono (sd_lt h1)))
    obtain ⟨_, _, _, _, ⟨-, -, d2, -⟩, -, -⟩ := sd_cells HS2.out
    clear h1 hno hb1 bA HE HA
    go_wp2
    go_ret
    exact .inr ⟨⟨0, k1, X1, rfl, HS2.out⟩, HNO.out, HB2.out⟩
  · have HE2 : Hid (rdP (f + 1) (C.drop k) X = match ctP (C.drop k1) with
      | none => none
      | some (none, u2) => some (u2, X1)
      | some (some m, u2) => some (u2, X1 ++ [cnN ((X1.length : Int) - 1) m.1 m.2])) := hide (by have h9 := HE.out; rw [ho] at h9; exact h9)
    obtain ⟨aa, haa⟩ : ∃ aa, (X1.length : Int) - 1 = aa := ⟨_, rfl⟩
    have HAA := hide haa
    rw [haa] at HE2
    have hz := sd_lt h1
    have bA := (Below.refl w1.heap.size w1).alloc (Nat.le_refl _) (.cells #[.int .i64 5, .bool false, .slice none 0 0, .int .i64 aa, .int .i64 0, .int .i64 0, .int .i64 (-1)] 43)
    have HC : Hid (CS B R w1.heap.size w1.heap.size (w1.alloc (.cells #[.int .i64 5, .bool false, .slice none 0 0, .int .i64 aa, .int .i64 0, .int .i64 0, .int .i64 (-1)] 43)) C k1 false X1 aa 0 (-1)) := hide ⟨sd_bl (sd_small h1) bA, heap_alloc_new w1 _, Nat.le_refl _, hz⟩
    have HB := hide (hb1.trans (bA.mono hz))
    obtain ⟨_, _, _, _, ⟨-, -, d2, -⟩, -, -⟩ := sd_cells HC.out.rd
    rw [haa]
    clear h1 ho hb1 bA HE HA
    go_wp2_with fail
    obtain ⟨W, hW⟩ : ∃ W, w1.alloc (.cells #[.int .i64 5, .bool false, .slice none 0 0, .int .i64 aa, .int .i64 0, .int .i64 0, .int .i64 (-1)] 43) = W := ⟨_, rfl⟩
    rw [hW] at HC HB ⊢
    obtain ⟨N, hN⟩ : ∃ N, w1.heap.size = N := ⟨_, rfl⟩
    rw [hN] at HC ⊢
    clear hW hN haa d2 hz
    have hk1 := HC.out.rd.1.2.1
    by_cases e1 : (C.drop k1).head? = some 63
    · have t1 := tail_cons e1
      obtain ⟨-, t2, t3⟩ := drop_at t1
      have E : Hid (rdP (f + 1) (C.drop k) X = some (C.drop (k1 + 1), X1 ++ [cnN aa 0 1])) := hide (by rw [HE2.out]; unfold ctP; rw [if_pos e1, t2])
      have HT := hide (s_isY B R C (k1) 63 _ X1 W HC.out.rd t1)
      go_wp2_with fail
      refine HT.out.mono ?_
      rintro e w2 ⟨rfl, h2, q2⟩
      have HC2 := hide (cs_r HC.out q2 h2)
      have HB2 := hide (HB.out.trans (sd_kpB HC.out.rd q2))
      clear h2 q2 HT HC HB
      obtain ⟨⟨n0, n1, n2, n3, n4, n5, n6⟩, f5, f6⟩ := ck_cells HC2.out.nd
      obtain ⟨C3, b3⟩ := cs_mx HC2.out 1
      have HC3 := hide C3
      have HB3 := hide (HB2.out.trans b3)
      have HA := hide (cs_add HC3.out hX1)
      clear C3 b3
      go_wp2_with fail
      refine HA.out.mono ?_
      rintro e w9 ⟨rfl, h9, hb9⟩
      have HQ : Hid (RaS B R C w (rdP (f + 1) (C.drop k) X) (.returned (.int .i64 (X1.length : Int))) w9) := hide (ras_add E.out h9 (HB3.out.trans hb9))
      clear h9 hb9
      go_wp2
      go_ret
      exact HQ.out
    · have t0 := e1
      have HT := hide (s_isN B R C (k1) 63 X1 W HC.out.rd t0)
      go_wp2_with fail
      refine HT.out.mono ?_
      rintro e w2 ⟨rfl, h2, q2⟩
      have HC2 := hide (cs_r HC.out q2 h2)
      have HB2 := hide (HB.out.trans (sd_kpB HC.out.rd q2))
      clear h2 q2 HT HC HB
      by_cases e2 : (C.drop k1).head? = some 42
      · have t1 := tail_cons e2
        obtain ⟨-, t2, t3⟩ := drop_at t1
        have E : Hid (rdP (f + 1) (C.drop k) X = some (C.drop (k1 + 1), X1 ++ [cnN aa 0 (-1)])) := hide (by rw [HE2.out]; unfold ctP; rw [if_neg e1, if_pos e2, t2])
        have HT := hide (s_isY B R C (k1) 42 _ X1 w2 HC2.out.rd t1)
        go_wp2_with fail
        refine HT.out.mono ?_
        rintro e w3 ⟨rfl, h3, q3⟩
        have HC3 := hide (cs_r HC2.out q3 h3)
        have HB3 := hide (HB2.out.trans (sd_kpB HC2.out.rd q3))
        clear h3 q3 HT HC2 HB2
        have HA := hide (cs_add HC3.out hX1)
        obtain ⟨⟨n0, n1, n2, n3, n4, n5, n6⟩, f5, f6⟩ := ck_cells HC3.out.nd
        go_wp2_with fail
        refine HA.out.mono ?_
        rintro e w9 ⟨rfl, h9, hb9⟩
        have HQ : Hid (RaS B R C w (rdP (f + 1) (C.drop k) X) (.returned (.int .i64 (X1.length : Int))) w9) := hide (ras_add E.out h9 (HB3.out.trans hb9))
        clear h9 hb9
        go_wp2
        go_ret
        exact HQ.out
      · have t0 := e2
        have HT := hide (s_isN B R C (k1) 42 X1 w2 HC2.out.rd t0)
        go_wp2_with fail
        refine HT.out.mono ?_
        rintro e w3 ⟨rfl, h3, q3⟩
        have HC3 := hide (cs_r HC2.out q3 h3)
        have HB3 := hide (HB2.out.trans (sd_kpB HC2.out.rd q3))
        clear h3 q3 HT HC2 HB2
        by_cases e3 : (C.drop k1).head? = some 43
        · have t1 := tail_cons e3
          obtain ⟨-, t2, t3⟩ := drop_at t1
          have E : Hid (rdP (f + 1) (C.drop k) X = some (C.drop (k1 + 1), X1 ++ [cnN aa 1 (-1)])) := hide (by rw [HE2.out]; unfold ctP; rw [if_neg e1, if_neg e2, if_pos e3, t2])
          have HT := hide (s_isY B R C (k1) 43 _ X1 w3 HC3.out.rd t1)
          go_wp2_with fail
          refine HT.out.mono ?_
          rintro e w4 ⟨rfl, h4, q4⟩
          have HC4 := hide (cs_r HC3.out q4 h4)
          have HB4 := hide (HB3.out.trans (sd_kpB HC3.out.rd q4))
          clear h4 q4 HT HC3 HB3
          obtain ⟨⟨n0, n1, n2, n3, n4, n5, n6⟩, f5, f6⟩ := ck_cells HC4.out.nd
          obtain ⟨C5, b5⟩ := cs_mn HC4.out 1
          have HC5 := hide C5
          have HB5 := hide (HB4.out.trans b5)
          have HA := hide (cs_add HC5.out hX1)
          clear C5 b5
          go_wp2_with fail
          refine HA.out.mono ?_
          rintro e w9 ⟨rfl, h9, hb9⟩
          have HQ : Hid (RaS B R C w (rdP (f + 1) (C.drop k) X) (.returned (.int .i64 (X1.length : Int))) w9) := hide (ras_add E.out h9 (HB5.out.trans hb9))
          clear h9 hb9
          go_wp2
          go_ret
          exact HQ.out
        · have t0 := e3
          have HT := hide (s_isN B R C (k1) 43 X1 w3 HC3.out.rd t0)
          go_wp2_with fail
          refine HT.out.mono ?_
          rintro e w4 ⟨rfl, h4, q4⟩
          have HC4 := hide (cs_r HC3.out q4 h4)
          have HB4 := hide (HB3.out.trans (sd_kpB HC3.out.rd q4))
          clear h4 q4 HT HC3 HB3
          by_cases e4 : (C.drop k1).head? = some 123
          · have t1 := tail_cons e4
            obtain ⟨-, t2, t3⟩ := drop_at t1
            have HE3 : Hid (rdP (f + 1) (C.drop k) X = match lmP (C.drop (k1 + 1)) with
              | none => none
              | some (m, r) => some (r, X1 ++ [cnN aa m.1 m.2])) := hide (by
                rw [HE2.out]; unfold ctP; rw [if_neg e1, if_neg e2, if_neg e3, if_pos e4, t2]
                cases lmP (C.drop (k1 + 1)) <;> rfl)
            have HT := hide (s_isY B R C (k1) 123 _ X1 w4 HC4.out.rd t1)
            go_wp2_with fail
            refine HT.out.mono ?_
            rintro e w5 ⟨rfl, h5, q5⟩
            have HC5 := hide (cs_r HC4.out q5 h5)
            have HB5 := hide (HB4.out.trans (sd_kpB HC4.out.rd q5))
            clear h5 q5 HT HC4 HB4
            clear e1 e2 e3 e4 t1 t2 HE2
            have HNM := hide (s_number B R C (k1 + 1) X1 w5 HC5.out.rd)
            go_wp2_with fail
            refine HNM.out.mono ?_
            rintro e w6 (⟨v, k2, hnm, hk2, rfl, h6, q6⟩ | ⟨⟨v, k2, rfl, h6⟩, q6, hnm⟩)
            · have C6 := cs_r HC5.out q6 h6
              obtain ⟨⟨n0, n1, n2, n3, n4, n5, n6⟩, f5, f6⟩ := ck_cells C6.nd
              obtain ⟨C7, b7⟩ := cs_mn C6 v
              obtain ⟨C8, b8⟩ := cs_mx C7 v
              have HC8 := hide C8
              have HB8 := hide (((HB5.out.trans (sd_kpB HC5.out.rd q6)).trans b7).trans b8)
              have hk2l := h6.1.2.1
              have HL := hide (lm_of hnm)
              have HNM2 := hide hnm
              clear C6 C7 C8 b7 b8 h6 q6 HNM HC5 HB5 hnm
              go_wp2_with fail
              obtain ⟨W8, hW8⟩ : ∃ W8, (w6.setCell ⟨N, 5, none⟩ (.int .i64 v)).setCell ⟨N, 6, none⟩ (.int .i64 v) = W8 := ⟨_, rfl⟩
              rw [hW8] at HC8 HB8 ⊢
              clear hW8 n0 n1 n2 n3 n4 n5 n6 f5 f6
              by_cases e5 : (C.drop k2).head? = some 44
              · have t1 := tail_cons e5
                obtain ⟨-, t2, t3⟩ := drop_at t1
                have HN44 : Hid (nmP (C.drop (k1 + 1)) = some (v, 44 :: C.drop (k2 + 1))) := hide (by have h9 := HNM2.out; rw [t1, t2] at h9; exact h9)
                have HL2 : Hid (lmP (C.drop (k1 + 1)) = if (C.drop (k2 + 1)).head? = some 125 then some ((v, -1), (C.drop (k2 + 1)).tail) else match nmP (C.drop (k2 + 1)) with
                  | none => none
                  | some (m, r2) => if r2.head? = some 125 then some ((v, m), r2.tail) else none) := hide (by rw [HL.out, if_neg (by rw [e5]; simp), if_pos e5, t2])
                have HT := hide (s_isY B R C (k2) 44 _ X1 W8 HC8.out.rd t1)
                go_wp2_with fail
                refine HT.out.mono ?_
                rintro e wa ⟨rfl, ha, qa⟩
                have HCa := hide (cs_r HC8.out qa ha)
                have HBa := hide (HB8.out.trans (sd_kpB HC8.out.rd qa))
                clear ha qa HT HC8 HB8
                obtain ⟨⟨n0, n1, n2, n3, n4, n5, n6⟩, f5, f6⟩ := ck_cells HCa.out.nd
                obtain ⟨Cb, bb⟩ := cs_mx HCa.out (-1)
                have HCb := hide Cb
                have HBb := hide (HBa.out.trans bb)
                clear Cb bb HL HNM2 e5 t1 t2
                go_wp2_with fail
                obtain ⟨Wb, hWb⟩ : ∃ Wb, wa.setCell ⟨N, 6, none⟩ (.int .i64 (-1)) = Wb := ⟨_, rfl⟩
                rw [hWb] at HCb HBb ⊢
                clear hWb n0 n1 n2 n3 n4 n5 n6 f5 f6
                have ek : ((k2 + 1 : Nat) : Int) = (k2 : Int) + 1 := by omega
                have hkb := HCb.out.rd.1.2.1
                cases hr2 : C.drop (k2 + 1) with
                | nil =>
                  have hk9 : C.length ≤ k2 + 1 := List.drop_eq_nil_iff.1 hr2
                  have E : Hid (rdP (f + 1) (C.drop k) X = none) := hide (by rw [HE3.out, HL2.out, hr2]; rfl)
                  obtain ⟨ta, tc, ad, cp, ⟨c0, c1, c2, c3⟩, ff, -⟩ := sd_cells HCb.out.rd
                  rw [ek] at c1
                  have hd : decide ((k2 : Int) + 1 < (C.length : Int)) = false := decide_eq_false (by omega)
                  have hi2 : ¬ (k2 : Int) + 1 < (C.length : Int) := by omega
                  have hd3 : decide (k2 + 1 < C.length) = false := decide_eq_false (by omega)
                  have hi3 : ¬ k2 + 1 < C.length := by omega
                  have hne : (C.drop (k2 + 1)).head? ≠ some 125 := by rw [hr2]; simp
                  clear ff
                  go_quiet (fail)
                  revert nq; intro n1
                  have HCc := hide (cs_r HCb.out (kp_drewN Wb n1) (sd_dr HCb.out.rd n1))
                  have HBc : Hid (Below B w (Wb.drewN n1)) := hide (HBb.out.trans ((bl_drewN Wb n1).mono (sd_lt HCb.out.rd)))
                  obtain ⟨Wc, hWc⟩ : ∃ Wc, Wb.drewN n1 = Wc := ⟨_, rfl⟩
                  clear c0 c1 c2 c3 hr2
                  go_wp2_with fail
                  rw [hWc] at HCc HBc
                  clear hWc hd hi2 hd3 hi3
                  have HT := hide (s_isN B R C (k2 + 1) 125 X1 Wc HCc.out.rd hne)
                  go_wp2_with fail
                  refine HT.out.mono ?_
                  rintro e wd ⟨rfl, hd, qd⟩
                  have HCd := hide (cs_r HCc.out qd hd)
                  have HBd := hide (HBc.out.trans (sd_kpB HCc.out.rd qd))
                  clear hd qd HT HCc HBc
                  obtain ⟨_, _, _, _, ⟨-, -, d2, -⟩, ff, -⟩ := sd_cells HCd.out.rd
                  have ff2 := ff 2
                  obtain ⟨CB, bB⟩ := cs_b HCd.out true
                  have HQ := hide (sd_wide CB.rd)
                  have HB9 := hide (HBd.out.trans bB)
                  clear ff CB bB
                  go_wp2
                  go_ret
                  exact ras_bad E.out HQ.out HB9.out
                | cons d r2 =>
                  obtain ⟨b, off, tc, ad, cp, c0, c1, c2, c3, f1, f2, ck, hlt2⟩ := sd_here HCb.out.rd hr2
                  obtain ⟨-, hr3, -⟩ := drop_at hr2
                  rw [ek] at c1
                  have hd : decide ((k2 : Int) + 1 < (C.length : Int)) = true := decide_eq_true (by omega)
                  have hi0 : (0 : Int) ≤ (k2 : Int) + 1 := by omega
                  have hi1 : (k2 : Int) + 1 < (C.length : Int) := by omega
                  have hi3 : ((k2 : Int) + 1).toNat = k2 + 1 := by omega
                  have hd3 : decide (k2 + 1 < C.length) = true := decide_eq_true hlt2
                  by_cases e6 : d = 125
                  · have hne : (d != 125) = false := by simp [e6]
                    go_quiet (fail)
                    revert nq; intro n1
                    have HCc := hide (cs_r HCb.out (kp_drewN Wb n1) (sd_dr HCb.out.rd n1))
                    have HBc : Hid (Below B w (Wb.drewN n1)) := hide (HBb.out.trans ((bl_drewN Wb n1).mono (sd_lt HCb.out.rd)))
                    obtain ⟨Wc, hWc⟩ : ∃ Wc, Wb.drewN n1 = Wc := ⟨_, rfl⟩
                    clear c0 c1 c2 c3 f1 f2 ck
                    go_wp2_with fail
                    rw [hWc] at HCc HBc
                    subst e6
                    have hr4 : C.drop (k2 + 1) = 125 :: C.drop (k2 + 1 + 1) := by rw [hr2, hr3]
                    clear hWc hd hi0 hi1 hi3 hd3 hr2 hr3
                    have E : Hid (rdP (f + 1) (C.drop k) X = some (C.drop (k2 + 1 + 1), X1 ++ [cnN aa v (-1)])) := hide (by rw [HE3.out, HL2.out, hr4]; rfl)
                    have HT := hide (s_isY B R C (k2 + 1) 125 _ X1 Wc HCc.out.rd hr4)
                    go_wp2_with fail
                    refine HT.out.mono ?_
                    rintro e wZ ⟨rfl, hZ, qZ⟩
                    have HCZ := hide (cs_r HCc.out qZ hZ)
                    have HBZ := hide (HBc.out.trans (sd_kpB HCc.out.rd qZ))
                    clear hZ qZ HT HCc HBc
                    obtain ⟨⟨n0, n1, n2, n3, n4, n5, n6⟩, f5, f6⟩ := ck_cells HCZ.out.nd
                    have CN := hide (cs_ok aa v (-1) wZ)
                    cases hok : ndOk (cnN aa v (-1))
                    · rw [hok] at CN
                      have HK := hide hok
                      clear hok
                      go_wp2_with fail
                      refine CN.out.mono ?_
                      rintro e wY ⟨rfl, hbY⟩
                      have HCY := hide (cs_bl HCZ.out hbY)
                      have HBY := hide (HBZ.out.trans (hbY.mono (sd_lt HCZ.out.rd)))
                      obtain ⟨_, _, _, _, ⟨-, -, d2, -⟩, ff, -⟩ := sd_cells HCY.out.rd
                      have ff2 := ff 2
                      obtain ⟨CB, bB⟩ := cs_b HCY.out true
                      have HQ := hide (sd_wide CB.rd)
                      have HB9 := hide (HBY.out.trans bB)
                      clear ff CB bB hbY
                      go_wp2
                      go_ret
                      exact .inr ⟨⟨0, _, X1, rfl, HQ.out⟩, fun u9 X9 h9 => (by rw [E.out] at h9; cases h9; exact .inr ⟨_, by simp, HK.out⟩), HB9.out⟩
                    · rw [hok] at CN
                      clear hok
                      go_wp2_with fail
                      refine CN.out.mono ?_
                      rintro e wY ⟨rfl, hbY⟩
                      have HCY := hide (cs_bl HCZ.out hbY)
                      have HBY := hide (HBZ.out.trans (hbY.mono (sd_lt HCZ.out.rd)))
                      clear hbY n0 n1 n2 n3 n4 n5 n6 f5 f6
                      have HA := hide (cs_add HCY.out hX1)
                      obtain ⟨⟨n0, n1, n2, n3, n4, n5, n6⟩, f5, f6⟩ := ck_cells HCY.out.nd
                      go_wp2_with fail
                      refine HA.out.mono ?_
                      rintro e w9 ⟨rfl, h9, hb9⟩
                      have HQ : Hid (RaS B R C w (rdP (f + 1) (C.drop k) X) (.returned (.int .i64 (X1.length : Int))) w9) := hide (ras_add E.out h9 (HBY.out.trans hb9))
                      clear h9 hb9
                      go_wp2
                      go_ret
                      exact HQ.out
                  · have hne : (d != 125) = true := by simp [e6]
                    go_quiet (fail)
                    revert nq; intro n1
                    have HCc := hide (cs_r HCb.out (kp_drewN Wb n1) (sd_dr HCb.out.rd n1))
                    have HBc : Hid (Below B w (Wb.drewN n1)) := hide (HBb.out.trans ((bl_drewN Wb n1).mono (sd_lt HCb.out.rd)))
                    obtain ⟨Wc, hWc⟩ : ∃ Wc, Wb.drewN n1 = Wc := ⟨_, rfl⟩
                    clear c0 c1 c2 c3 f1 f2 ck
                    go_wp2_with fail
                    rw [hWc] at HCc HBc
                    have hh : (C.drop (k2 + 1)).head? ≠ some 125 := by rw [hr2]; simpa using e6
                    clear hWc hd hi0 hi1 hi3 hd3 hr2 hr3 hne
                    refine (s_number B R C (k2 + 1) X1 Wc HCc.out.rd).mono ?_
                    rintro e we (⟨v2, k3, hnm2, hk3, rfl, he, qe⟩ | ⟨⟨v2, k3, rfl, he⟩, qe, hnm2⟩)
                    · have Ce := cs_r HCc.out qe he
                      obtain ⟨⟨n0, n1, n2, n3, n4, n5, n6⟩, f5, f6⟩ := ck_cells Ce.nd
                      obtain ⟨Cg, bg⟩ := cs_mx Ce v2
                      have HCg := hide Cg
                      have HBg := hide ((HBc.out.trans (sd_kpB HCc.out.rd qe)).trans bg)
                      have HL3 : Hid (rdP (f + 1) (C.drop k) X = if (C.drop k3).head? = some 125 then some ((C.drop k3).tail, X1 ++ [cnN aa v v2]) else none) := hide (by rw [HE3.out, HL2.out, if_neg hh, hnm2]; show (match (if (C.drop k3).head? = some 125 then some ((v, v2), (C.drop k3).tail) else none : Option ((Int × Int) × List Int)) with | none => none | some (m, r) => some (r, X1 ++ [cnN aa m.1 m.2])) = _; by_cases e9 : (C.drop k3).head? = some 125; (rw [if_pos e9, if_pos e9]); (rw [if_neg e9, if_neg e9]))
                      clear Ce Cg bg he qe hnm2 HCc HBc HL2 HE3
                      go_wp2_with fail
                      obtain ⟨Wg, hWg⟩ : ∃ Wg, we.setCell ⟨N, 6, none⟩ (.int .i64 v2) = Wg := ⟨_, rfl⟩
                      rw [hWg] at HCg HBg ⊢
                      clear hWg n0 n1 n2 n3 n4 n5 n6 f5 f6
                      by_cases e7 : (C.drop k3).head? = some 125
                      · have t1 := tail_cons e7
                        obtain ⟨-, t2, t3⟩ := drop_at t1
                        have E : Hid (rdP (f + 1) (C.drop k) X = some (C.drop (k3 + 1), X1 ++ [cnN aa v v2])) := hide (by rw [HL3.out, if_pos e7, t2])
                        have HT := hide (s_isY B R C (k3) 125 _ X1 Wg HCg.out.rd t1)
                        go_wp2_with fail
                        refine HT.out.mono ?_
                        rintro e wZ ⟨rfl, hZ, qZ⟩
                        have HCZ := hide (cs_r HCg.out qZ hZ)
                        have HBZ := hide (HBg.out.trans (sd_kpB HCg.out.rd qZ))
                        clear hZ qZ HT HCg HBg
                        obtain ⟨⟨n0, n1, n2, n3, n4, n5, n6⟩, f5, f6⟩ := ck_cells HCZ.out.nd
                        have CN := hide (cs_ok aa v v2 wZ)
                        cases hok : ndOk (cnN aa v v2)
                        · rw [hok] at CN
                          have HK := hide hok
                          clear hok
                          go_wp2_with fail
                          refine CN.out.mono ?_
                          rintro e wY ⟨rfl, hbY⟩
                          have HCY := hide (cs_bl HCZ.out hbY)
                          have HBY := hide (HBZ.out.trans (hbY.mono (sd_lt HCZ.out.rd)))
                          obtain ⟨_, _, _, _, ⟨-, -, d2, -⟩, ff, -⟩ := sd_cells HCY.out.rd
                          have ff2 := ff 2
                          obtain ⟨CB, bB⟩ := cs_b HCY.out true
                          have HQ := hide (sd_wide CB.rd)
                          have HB9 := hide (HBY.out.trans bB)
                          clear ff CB bB hbY
                          go_wp2
                          go_ret
                          exact .inr ⟨⟨0, _, X1, rfl, HQ.out⟩, fun u9 X9 h9 => (by rw [E.out] at h9; cases h9; exact .inr ⟨_, by simp, HK.out⟩), HB9.out⟩
                        · rw [hok] at CN
                          clear hok
                          go_wp2_with fail
                          refine CN.out.mono ?_
                          rintro e wY ⟨rfl, hbY⟩
                          have HCY := hide (cs_bl HCZ.out hbY)
                          have HBY := hide (HBZ.out.trans (hbY.mono (sd_lt HCZ.out.rd)))
                          clear hbY n0 n1 n2 n3 n4 n5 n6 f5 f6
                          have HA := hide (cs_add HCY.out hX1)
                          obtain ⟨⟨n0, n1, n2, n3, n4, n5, n6⟩, f5, f6⟩ := ck_cells HCY.out.nd
                          go_wp2_with fail
                          refine HA.out.mono ?_
                          rintro e w9 ⟨rfl, h9, hb9⟩
                          have HQ : Hid (RaS B R C w (rdP (f + 1) (C.drop k) X) (.returned (.int .i64 (X1.length : Int))) w9) := hide (ras_add E.out h9 (HBY.out.trans hb9))
                          clear h9 hb9
                          go_wp2
                          go_ret
                          exact HQ.out
                      · have E : Hid (rdP (f + 1) (C.drop k) X = none) := hide (by rw [HL3.out, if_neg e7])
                        have HT := hide (s_isN B R C (k3) 125 X1 Wg HCg.out.rd e7)
                        go_wp2_with fail
                        refine HT.out.mono ?_
                        rintro e wi ⟨rfl, hi, qi⟩
                        have HCi := hide (cs_r HCg.out qi hi)
                        have HBi := hide (HBg.out.trans (sd_kpB HCg.out.rd qi))
                        clear hi qi HT HCg HBg
                        obtain ⟨_, _, _, _, ⟨-, -, d2, -⟩, ff, -⟩ := sd_cells HCi.out.rd
                        have ff2 := ff 2
                        obtain ⟨CB, bB⟩ := cs_b HCi.out true
                        have HQ := hide (sd_wide CB.rd)
                        have HB9 := hide (HBi.out.trans bB)
                        clear ff CB bB
                        go_wp2
                        go_ret
                        exact ras_bad E.out HQ.out HB9.out
                    · have Ce := cs_r HCc.out qe he
                      obtain ⟨⟨n0, n1, n2, n3, n4, n5, n6⟩, f5, f6⟩ := ck_cells Ce.nd
                      obtain ⟨Cg, bg⟩ := cs_mx Ce v2
                      have HCg := hide Cg
                      have HBg := hide ((HBc.out.trans (sd_kpB HCc.out.rd qe)).trans bg)
                      have E : Hid (rdP (f + 1) (C.drop k) X = none) := hide (by rw [HE3.out, lm_two HN44.out hh hnm2])
                      clear Ce Cg bg he qe hnm2 HCc HBc HL2 HE3
                      go_wp2_with fail
                      obtain ⟨Wg, hWg⟩ : ∃ Wg, we.setCell ⟨N, 6, none⟩ (.int .i64 v2) = Wg := ⟨_, rfl⟩
                      rw [hWg] at HCg HBg ⊢
                      clear hWg n0 n1 n2 n3 n4 n5 n6 f5 f6
                      have HT := hide (s_isB B R C (k3) 125 X1 Wg HCg.out.rd)
                      go_wp2_with fail
                      refine HT.out.mono ?_
                      rintro e wi ⟨rfl, hi, qi⟩
                      have HCi := hide (cs_r HCg.out qi hi)
                      have HBi := hide (HBg.out.trans (sd_kpB HCg.out.rd qi))
                      clear hi qi HT HCg HBg
                      obtain ⟨_, _, _, _, ⟨-, -, d2, -⟩, ff, -⟩ := sd_cells HCi.out.rd
                      have ff2 := ff 2
                      obtain ⟨CB, bB⟩ := cs_b HCi.out true
                      have HQ := hide (sd_wide CB.rd)
                      have HB9 := hide (HBi.out.trans bB)
                      clear ff CB bB
                      go_wp2
                      go_ret
                      exact ras_bad E.out HQ.out HB9.out
              · have t0 := e5
                have HT := hide (s_isN B R C (k2) 44 X1 W8 HC8.out.rd t0)
                go_wp2_with fail
                refine HT.out.mono ?_
                rintro e wa ⟨rfl, ha, qa⟩
                have HCa := hide (cs_r HC8.out qa ha)
                have HBa := hide (HB8.out.trans (sd_kpB HC8.out.rd qa))
                clear ha qa HT HC8 HB8
                by_cases e6 : (C.drop k2).head? = some 125
                · have t1 := tail_cons e6
                  obtain ⟨-, t2, t3⟩ := drop_at t1
                  have E : Hid (rdP (f + 1) (C.drop k) X = some (C.drop (k2 + 1), X1 ++ [cnN aa v v])) := hide (by rw [HE3.out, HL.out, if_pos e6, t2])
                  have HT := hide (s_isY B R C (k2) 125 _ X1 wa HCa.out.rd t1)
                  go_wp2_with fail
                  refine HT.out.mono ?_
                  rintro e wZ ⟨rfl, hZ, qZ⟩
                  have HCZ := hide (cs_r HCa.out qZ hZ)
                  have HBZ := hide (HBa.out.trans (sd_kpB HCa.out.rd qZ))
                  clear hZ qZ HT HCa HBa
                  obtain ⟨⟨n0, n1, n2, n3, n4, n5, n6⟩, f5, f6⟩ := ck_cells HCZ.out.nd
                  have CN := hide (cs_ok aa v v wZ)
                  cases hok : ndOk (cnN aa v v)
                  · rw [hok] at CN
                    have HK := hide hok
                    clear hok
                    go_wp2_with fail
                    refine CN.out.mono ?_
                    rintro e wY ⟨rfl, hbY⟩
                    have HCY := hide (cs_bl HCZ.out hbY)
                    have HBY := hide (HBZ.out.trans (hbY.mono (sd_lt HCZ.out.rd)))
                    obtain ⟨_, _, _, _, ⟨-, -, d2, -⟩, ff, -⟩ := sd_cells HCY.out.rd
                    have ff2 := ff 2
                    obtain ⟨CB, bB⟩ := cs_b HCY.out true
                    have HQ := hide (sd_wide CB.rd)
                    have HB9 := hide (HBY.out.trans bB)
                    clear ff CB bB hbY
                    go_wp2
                    go_ret
                    exact .inr ⟨⟨0, _, X1, rfl, HQ.out⟩, fun u9 X9 h9 => (by rw [E.out] at h9; cases h9; exact .inr ⟨_, by simp, HK.out⟩), HB9.out⟩
                  · rw [hok] at CN
                    clear hok
                    go_wp2_with fail
                    refine CN.out.mono ?_
                    rintro e wY ⟨rfl, hbY⟩
                    have HCY := hide (cs_bl HCZ.out hbY)
                    have HBY := hide (HBZ.out.trans (hbY.mono (sd_lt HCZ.out.rd)))
                    clear hbY n0 n1 n2 n3 n4 n5 n6 f5 f6
                    have HA := hide (cs_add HCY.out hX1)
                    obtain ⟨⟨n0, n1, n2, n3, n4, n5, n6⟩, f5, f6⟩ := ck_cells HCY.out.nd
                    go_wp2_with fail
                    refine HA.out.mono ?_
                    rintro e w9 ⟨rfl, h9, hb9⟩
                    have HQ : Hid (RaS B R C w (rdP (f + 1) (C.drop k) X) (.returned (.int .i64 (X1.length : Int))) w9) := hide (ras_add E.out h9 (HBY.out.trans hb9))
                    clear h9 hb9
                    go_wp2
                    go_ret
                    exact HQ.out
                · have E : Hid (rdP (f + 1) (C.drop k) X = none) := hide (by rw [HE3.out, HL.out, if_neg e6, if_neg e5])
                  have HT := hide (s_isN B R C (k2) 125 X1 wa HCa.out.rd e6)
                  go_wp2_with fail
                  refine HT.out.mono ?_
                  rintro e wc ⟨rfl, hc, qc⟩
                  have HCc := hide (cs_r HCa.out qc hc)
                  have HBc := hide (HBa.out.trans (sd_kpB HCa.out.rd qc))
                  clear hc qc HT HCa HBa
                  obtain ⟨_, _, _, _, ⟨-, -, d2, -⟩, ff, -⟩ := sd_cells HCc.out.rd
                  have ff2 := ff 2
                  obtain ⟨CB, bB⟩ := cs_b HCc.out true
                  have HQ := hide (sd_wide CB.rd)
                  have HB9 := hide (HBc.out.trans bB)
                  clear ff CB bB
                  go_wp2
                  go_ret
                  exact ras_bad E.out HQ.out HB9.out
            · have C6 := cs_r HC5.out q6 h6
              obtain ⟨⟨n0, n1, n2, n3, n4, n5, n6⟩, f5, f6⟩ := ck_cells C6.nd
              obtain ⟨C7, b7⟩ := cs_mn C6 v
              obtain ⟨C8, b8⟩ := cs_mx C7 v
              have HC8 := hide C8
              have HB8 := hide (((HB5.out.trans (sd_kpB HC5.out.rd q6)).trans b7).trans b8)
              have E : Hid (rdP (f + 1) (C.drop k) X = none) := hide (by rw [HE3.out, lm_bad hnm])
              clear C6 C7 C8 b7 b8 h6 q6 HNM HC5 HB5 hnm HE3
              go_wp2_with fail
              obtain ⟨W8, hW8⟩ : ∃ W8, (w6.setCell ⟨N, 5, none⟩ (.int .i64 v)).setCell ⟨N, 6, none⟩ (.int .i64 v) = W8 := ⟨_, rfl⟩
              rw [hW8] at HC8 HB8 ⊢
              clear hW8 n0 n1 n2 n3 n4 n5 n6 f5 f6
              have HT := hide (s_isB B R C (k2) 44 X1 W8 HC8.out.rd)
              go_wp2_with fail
              refine HT.out.mono ?_
              rintro e wa ⟨rfl, ha, qa⟩
              have HCa := hide (cs_r HC8.out qa ha)
              have HBa := hide (HB8.out.trans (sd_kpB HC8.out.rd qa))
              clear ha qa HT HC8 HB8
              have HT := hide (s_isB B R C (k2) 125 X1 wa HCa.out.rd)
              go_wp2_with fail
              refine HT.out.mono ?_
              rintro e wc ⟨rfl, hc, qc⟩
              have HCc := hide (cs_r HCa.out qc hc)
              have HBc := hide (HBa.out.trans (sd_kpB HCa.out.rd qc))
              clear hc qc HT HCa HBa
              obtain ⟨_, _, _, _, ⟨-, -, d2, -⟩, ff, -⟩ := sd_cells HCc.out.rd
              have ff2 := ff 2
              obtain ⟨CB, bB⟩ := cs_b HCc.out true
              have HQ := hide (sd_wide CB.rd)
              have HB9 := hide (HBc.out.trans bB)
              clear ff CB bB
              go_wp2
              go_ret
              exact ras_bad E.out HQ.out HB9.out
          · have E : Hid (rdP (f + 1) (C.drop k) X = some (C.drop k1, X1)) := hide (by rw [HE2.out]; unfold ctP; rw [if_neg e1, if_neg e2, if_neg e3, if_neg e4])
            have HT := hide (s_isN B R C (k1) 123 X1 w4 HC4.out.rd e4)
            go_wp2_with fail
            refine HT.out.mono ?_
            rintro e w5 ⟨rfl, h5, q5⟩
            have HC5 := hide (cs_r HC4.out q5 h5)
            have HB5 := hide (HB4.out.trans (sd_kpB HC4.out.rd q5))
            clear h5 q5 HT HC4 HB4
            have HQ := hide (sd_wide HC5.out.rd)
            go_wp2
            go_ret
            exact .inl ⟨k1, X1, E.out, hX1, by rw [HAA.out]; rfl, HQ.out, HB5.out⟩
end Go.Proofs.YtepommmmmfaihaaDoor
