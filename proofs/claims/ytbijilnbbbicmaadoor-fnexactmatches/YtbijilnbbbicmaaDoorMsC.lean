/-
  Contract of the specification: what a count takes, from a row of places to a row of places.
-/
import Derived.Test.YtbijilnbbbicmaaDoorMsB
namespace Go.Proofs.YtbijilnbbbicmaaDoor
open Go.RowKit Go.Joins
set_option linter.unusedVariables false
set_option linter.unusedSimpArgs false
set_option maxRecDepth 100000 in
set_option maxHeartbeats 8000000 in
theorem t_cnt (X : Rx) (C : List Int) (len m : Nat) (hX : X.len = len) (hlen : len ≤ 120) (hC : C.length = m) (hm : m ≤ 300) (b off cap : Nat) (sa : Option Addr) (sc n : Nat) (hn : n < len) (f : List Bool) (fa : Option Addr) (fc : Nat) (w : World) (hb : b < w.heap.size) (hr : RxRow w b off X w.heap.size) (hsr : RowAt .i64 w sa C w.heap.size) (hf : f.length = m + 1) (hfa : BoAt w fa f w.heap.size) (i q : Nat) (mx : Int) (hk : X.K n = 5) (hA : X.A n = (i : Int)) (hai : i < n) (hMN : X.MN n = (q : Int)) (hMX : X.MX n = mx) (hq20 : q ≤ 20) (hm20 : mx ≤ 20) (hmx : mx = -1 ∨ (q : Int) ≤ mx) (CA0 : StC X C len m b off cap sa sc i) :
    Calls Tryd.prog 12 #[.slice (some ⟨b, off, none⟩) len cap, .int .i64 n, .slice sa m sc, .slice fa ((m : Nat) + 1) fc] w (StA m (tkX X (clX X C) n) f w) := by
  have HT : Hid (tkX X (clX X C) n = ctR q mx (tkX X (clX X C) i)) := hide (by rw [← hMN, ← hMX]; exact tk_cnt hk hA hai)
  have HLE : Hid (∀ a b, tkX X (clX X C) i a b → a ≤ b) := hide (fun a b h => tk_le X (clX X C) (i + 1) i a b (by omega) h)
  obtain ⟨i0, hi0, hz0, hz1, hz2⟩ := info_parts infoBo
  have HR := hide hr
  have HSR := hide hsr
  have HF := hide hf
  have HFA := hide hfa
  have HCL := hide hC
  obtain ⟨ad, cp, hc, hrg⟩ := hr n (by rw [hX]; exact hn)
  obtain ⟨c0, c1, c2, c3, c4, c5, c6⟩ := hc
  have HRg := hide hrg
  have hin : (n : Int) < (len : Int) := by omega
  have hin0 : (0 : Int) ≤ (n : Int) := by omega
  rw [hk] at c0
  rw [hA] at c3
  rw [hMN] at c5
  rw [hMX] at c6
  have CA : Hid (∀ f fa fc (W : World), Below w.heap.size w W → f.length = m + 1 → BoAt W fa f W.heap.size → Calls Tryd.prog 12 #[.slice (some ⟨b, off, none⟩) len cap, .int .i64 (i : Int), .slice sa m sc, .slice fa ((m : Nat) + 1) fc] W (StA m (tkX X (clX X C) i) f W)) := hide (fun f fa fc W hW hf ha => CA0 f fa fc W (Nat.lt_of_lt_of_le hb hW.size) (rxRow_up (rxRow_go HR.out hb hW) hW.size) (row_go9 HSR.out hW) hf ha)
  obtain ⟨R, hR⟩ : ∃ R, tkX X (clX X C) i = R := ⟨_, rfl⟩
  rw [hR] at HT HLE CA
  clear hr hsr hf hfa hC hrg hk hA hMN hMX CA0 hR
  go_enter Tryd.func12, Tryd.ntmps12
  go_upto_region 22 with (first | (at_make; refine wpList_make_full _ rfl _ _ 37 rfl w.heap.size 4 i0 (.bool false) 1 Tryd.underlying37 hi0 hz0 hz1 .i64 .i64 _ _ (m + 1) rfl rfl (by go_num) (by go_num) (by rw [hz2]; omega) (by unfold maxLen; omega) (Nat.le_refl _) ?_; intro w1 hown hgrow; rw [ms_made] at hown; have HX1 : Hid (BoX w.heap.size w1 w.heap.size (m + 1) (m + 1) (List.replicate (m + 1) false)) := hide ⟨by rw [List.length_replicate], hown⟩; have HB1 : Hid (Below w.heap.size w w1) := hide ((Below.refl _ _).grown hgrow (Nat.le_refl _) (fun k h => by cases h)); clear hown hgrow; have c0 := (HB1.out.cell (p := ⟨b, off + n * 7, none⟩) hb).trans c0; have c1 := (HB1.out.cell (p := ⟨b, off + n * 7 + 1, none⟩) hb).trans c1; have c2 := (HB1.out.cell (p := ⟨b, off + n * 7 + 2, none⟩) hb).trans c2; have c3 := (HB1.out.cell (p := ⟨b, off + n * 7 + 3, none⟩) hb).trans c3; have c4 := (HB1.out.cell (p := ⟨b, off + n * 7 + 4, none⟩) hb).trans c4; have c5 := (HB1.out.cell (p := ⟨b, off + n * 7 + 5, none⟩) hb).trans c5; have c6 := (HB1.out.cell (p := ⟨b, off + n * 7 + 6, none⟩) hb).trans c6; have hb1l : b < w1.heap.size := Nat.lt_of_lt_of_le hb HB1.out.size))
  obtain ⟨wy, hwy⟩ : ∃ wy, w1.alloc (.cells #[.int .i64 5, .bool (X.NT n), .slice ad (X.NR n) cp, .int .i64 (i : Int), .int .i64 (X.B n), .int .i64 (q : Int), .int .i64 mx] 41) = wy := ⟨_, rfl⟩
  have HN2 := hide (bx_new w1 5 (X.NT n) ad (X.NR n) cp (i : Int) (X.B n) (q : Int) mx)
  have HB2 := hide (HB1.out.alloc HB1.out.size (.cells #[.int .i64 5, .bool (X.NT n), .slice ad (X.NR n) cp, .int .i64 (i : Int), .int .i64 (X.B n), .int .i64 (q : Int), .int .i64 mx] 41))
  rw [hwy] at HN2 HB2 ⊢
  obtain ⟨NB, hNB⟩ : ∃ NB, w1.heap.size = NB := ⟨_, rfl⟩
  have hNBg : w.heap.size < NB := by rw [← hNB]; exact (boX_at HX1.out).2.1
  rw [hNB] at HN2 ⊢
  clear hwy hNB c0 c1 c2 c3 c4 c5 c6 HX1 HB1 hb1l
  go_wp2_with (at_builtin; refine ms_copy _ (by rfl) _ _ (by rfl) m hm wy rfl (by rfl) f HF.out fa fc (by rfl) (bo_up (bo_go HFA.out HB2.out) HB2.out.size) ?_; intro g9 c9 w9 hx9 hb9; have HX9 := hide (boX_low hx9 HB2.out.size); have HN9 := hide (bx_go HN2.out hb9); have HB9 := hide (HB2.out.trans (hb9.mono HB2.out.size)); clear hx9 hb9)
  go_loopw [15, 16] (fun nv kv wr => ∃ (k g c : Nat) (G : List Bool), k ≤ q ∧ kv = .int .i64 k ∧ nv = .slice (some ⟨g, 0, none⟩) ((m : Nat) + 1) c ∧ Hid (BoX w.heap.size wr g c (m + 1) G) ∧ Hid (BX wr NB 5 (X.NT n) ad (X.NR n) cp (i : Int) (X.B n) (q : Int) mx) ∧ Hid (Below w.heap.size w wr) ∧ Hid (Fwd f G m (cnR R k))) (fun _ kv _ => q - (intOf kv).toNat)
  case atStart => exact ⟨0, g9, c9, f, Nat.zero_le _, rfl, rfl, HX9, HN9, HB9, hide (fwd_eq f m)⟩
  case round =>
    clear HX9 HN9 HB9
    obtain ⟨k, g, c, G, hk, rfl, rfl, HX, HN, HB, HA⟩ := hrel
    obtain ⟨a0, a1, a2, a3, a4, a5, a6⟩ := nodeAt_cells (bx_nd HN.out)
    by_cases hlt : k < q
    · have CC := hide (CA.out G _ c wr HB.out HX.out.1 (boX_bo HX.out))
      go_wp2_with (go_at_call 12; refine CC.out.mono ?_; rintro e w4 ⟨g4, c4, G4, rfl, hx4, hf4, hb4⟩; have HX4 := hide (boX_low hx4 HB.out.size); have HF4 := hide hf4; have HN4 := hide (bx_go HN.out hb4); have HB4 := hide (HB.out.trans (hb4.mono HB.out.size)); clear hx4 hf4 hb4)
      go_roundw
      case rel => exact ⟨k + 1, g4, c4, G4, by omega, by go_num, rfl, HX4, HN4, HB4, hide (fwd_congr (fwd_comp HLE.out HA.out HF4.out) (fun a b => (cn_snoc k a b).symm))⟩
      case measure => simp [intOf]; omega
    · have hkq : k = q := by omega
      subst hkq
      have hNw := bx_lt HN.out
      have hgl : g < wr.heap.size := (boX_at HX.out).2.1
      go_wp2_with (at_builtin; refine ms_copy _ (by rfl) _ _ (by rfl) m hm wr rfl (by rfl) G HX.out.1 (some ⟨g, 0, none⟩) c (by rfl) (boX_bo HX.out) ?_; intro go co w9 hx9 hb9; have hg9 := (boX_at hx9).1; have HX9 := hide (boX_low hx9 HB.out.size); have HY9 := hide (boX_go HX.out hb9); have HN9 := hide (bx_go HN.out hb9); obtain ⟨d0, d1, d2, d3, d4, d5, d6⟩ := nodeAt_cells (bx_nd HN9.out); have HB9 := hide (HB.out.trans (hb9.mono HB.out.size)); clear hx9 hb9)
      have hgo : NB < go := by omega
      clear d0 d1 d2 d3 d4 d5 d6 a0 a1 a2 a3 a4 a5 a6
      go_loopw [15, 17] (fun nv kv wr => ∃ (t gn cn : Nat) (O N : List Bool), kv = .int .i64 ((k : Int) + t) ∧ nv = .slice (some ⟨gn, 0, none⟩) ((m : Nat) + 1) cn ∧ Hid (BoX w.heap.size wr go co (m + 1) O) ∧ Hid (BoX w.heap.size wr gn cn (m + 1) N) ∧ Hid (BX wr NB 5 (X.NT n) ad (X.NR n) cp (i : Int) (X.B n) (k : Int) mx) ∧ Hid (Below w.heap.size w wr) ∧ Hid (CtS mx k R f O N m t) ∧ (mx ≠ -1 → (k : Int) + t ≤ mx) ∧ (mx = -1 → t + lkR O m ≤ m + 1)) (fun _ kv _ => (k + m + 30) - (intOf kv).toNat)
      case atStart => exact ⟨0, g, c, G, G, by simp, rfl, HX9, HY9, HN9, HB9, hide (cts_start HA.out), fun e => by omega, fun e => by have := nf_le (fun j => G[j]?.getD false) (m + 1); show 0 + nf _ _ ≤ _; omega⟩
      case round =>
        clear HX9 HY9 HN9 HB9 HX HN HB HA hg9 hgl hNw
        obtain ⟨t, gn, cn, O, N, rfl, rfl, HX, HY, HN, HB, HS, ht1, ht2⟩ := hrel
        obtain ⟨a0, a1, a2, a3, a4, a5, a6⟩ := nodeAt_cells (bx_nd HN.out)
        have hgol := (boX_at HX.out).2.1
        have hgow := (boX_at HX.out).1
        by_cases hgo1 : mx = -1 ∨ (k : Int) + t < mx
        · have CC := hide (CA.out N _ cn wr HB.out HY.out.1 (boX_bo HY.out))
          have hwrp : IntKind.i64.wrap ((k : Int) + t + 1) = (k : Int) + t + 1 := by
            rw [IntKind.wrap_i64]
            rcases hgo1 with e | e
            · have := ht2 e; omega
            · omega
          by_cases hmx1 : mx = -1
          · subst hmx1
            have hcmp : ¬ ((k : Int) + t < -1) := by omega
            have ht3 := ht2 rfl
            go_wp2_with (go_at_call 12; refine CC.out.mono ?_; rintro e w4 ⟨g4, c4, G4, rfl, hx4, hf4, hb4⟩; have hg4 := (boX_at hx4).1; have HX4 := hide (boX_low hx4 HB.out.size); have HF4 := hide hf4; have HN4 := hide (bx_go HN.out hb4); have HO4 := hide (boX_go HX.out hb4); have HB4 := hide (HB.out.trans (hb4.mono HB.out.size)); clear hx4 hf4 hb4)
            clear a0 a1 a2 a3 a4 a5 a6
            go_loopw [18, 19] (fun mv jv wr => ∃ (j : Nat) (O' : List Bool), j ≤ m + 1 ∧ jv = .int .i64 j ∧ mv = .bool (moB G4 O j) ∧ Hid (BoX w.heap.size wr go co (m + 1) O') ∧ Hid (BoX w.heap.size wr g4 c4 (m + 1) G4) ∧ Hid (BX wr NB 5 (X.NT n) ad (X.NR n) cp (i : Int) (X.B n) (k : Int) (-1)) ∧ Hid (Below w.heap.size w wr) ∧ Hid (MixR O G4 O' m j)) (fun _ jv _ => m + 1 - (intOf jv).toNat)
            case atStart => exact ⟨0, O, Nat.zero_le _, rfl, rfl, HO4, HX4, HN4, HB4, hide (mixR_zero O G4 m)⟩
            case round =>
              clear HO4 HX4 HN4 HB4
              obtain ⟨j, O', hj, rfl, rfl, HXr, HYr, HNr, HBr, HMr⟩ := hrel
              by_cases hlj : j < m + 1
              · have u0 := (boX_at HXr.out).2.2 j hlj
                have uz := boX_frozen HXr.out j
                have y0 := (boX_at HYr.out).2.2 j hlj
                have hji : (j : Int) < ((m : Nat) + 1 : Int) := by omega
                have hj0 : (0 : Int) ≤ (j : Int) := by omega
                have HMN := hide (mixR_next HMr.out HXr.out.1 (by omega))
                have hOj : O'[j]?.getD false = O[j]?.getD false := by have := HMr.out j (by omega); rw [if_neg (by omega)] at this; exact this
                have HMO := hide (moB_succ G4 O j)
                obtain ⟨x, hx⟩ : ∃ x, O[j]?.getD false = x := ⟨_, rfl⟩
                obtain ⟨y, hy⟩ : ∃ y, G4[j]?.getD false = y := ⟨_, rfl⟩
                obtain ⟨mv, hmv⟩ : ∃ mv, moB G4 O j = mv := ⟨_, rfl⟩
                rw [hOj, hx, hy] at HMN
                rw [hx, hy, hmv] at HMO
                rw [hOj, hx] at u0
                rw [hy] at y0
                rw [hmv]
                have HXS := hide (boX_set HXr.out j (x || y))
                have HYS := hide (boX_far HYr.out (p := ⟨go, j, none⟩) (by show go ≠ g4; omega) (.bool (x || y)))
                have HNS := hide (bx_set HNr.out (p := ⟨go, j, none⟩) (by show go ≠ NB; omega) (.bool (x || y)))
                have HBS := hide (HBr.out.setCell (p := ⟨go, j, none⟩) hgow (.bool (x || y)))
                clear hx hy hmv hOj
                cases mv <;> cases x <;> cases y
                all_goals
                  simp only [Bool.false_or, Bool.true_or, Bool.or_false, Bool.or_true, Bool.not_false, Bool.not_true, Bool.and_true, Bool.and_false, Bool.true_and, Bool.false_and] at HMN HXS HYS HNS HBS HMO
                  go_wp2
                  go_roundw
                  case rel => exact ⟨j + 1, _, by omega, by go_num, by rw [HMO.out], HXS, HYS, HNS, HBS, HMN⟩
                  case measure => simp [intOf]; omega
              · have hjm : j = m + 1 := by omega
                subst hjm
                have HD := hide (mixR_done HMr.out)
                obtain ⟨a0, a1, a2, a3, a4, a5, a6⟩ := nodeAt_cells (bx_nd HNr.out)
                have hwl := (boX_at HXr.out).2.1
                cases hmv : moB G4 O (m + 1)
                · have HST : Hid (∀ b, b ≤ m → G4[b]?.getD false = true → O[b]?.getD false = true) := hide (fun b hb h => by
                    cases e : O[b]?.getD false
                    · have := moB_iff.2 ⟨b, (by omega : b < m + 1), h, e⟩
                      rw [hmv] at this; cases this
                    · rfl)
                  clear hmv
                  go_wp2
                  go_ret
                  exact ⟨go, co, O', rfl, HXr.out, by rw [HT.out]; exact cts_done HLE.out HS.out HF4.out HST.out HD.out (.inl rfl), HBr.out⟩
                · have HLK := hide (lk_less HD.out HX.out.1 HXr.out.1 hmv)
                  have HNX := hide (cts_next HLE.out HS.out HF4.out HD.out)
                  clear hmv
                  go_wp2_with (at_builtin; refine ms_copy _ (by rfl) _ _ (by rfl) m hm wr rfl (by rfl) O' HXr.out.1 (some ⟨go, 0, none⟩) co (by rfl) (boX_bo HXr.out) ?_; intro g9 c9 w9 hx9 hb9; have hg9 := (boX_at hx9).1; have HX9 := hide (boX_low hx9 HBr.out.size); have HY9 := hide (boX_go HXr.out hb9); have HN9 := hide (bx_go HNr.out hb9); have HB9 := hide (HBr.out.trans (hb9.mono HBr.out.size)); clear hx9 hb9)
                  go_roundw
                  case rel => exact ⟨t + 1, g9, c9, O', O', by go_num, rfl, HY9, HX9, HN9, HB9, hide (HNX.out.1 rfl), fun e => absurd rfl e, fun e => by have h1 := HLK.out; have h2 := ht3; omega⟩
                  case measure => simp [intOf]; have := ht3; omega
          · have hcmp : (k : Int) + t < mx := by omega
            have hmxb : (mx == -1) = false := by rw [beq_eq_false_iff_ne]; exact hmx1
            go_wp2_with (go_at_call 12; refine CC.out.mono ?_; rintro e w4 ⟨g4, c4, G4, rfl, hx4, hf4, hb4⟩; have hg4 := (boX_at hx4).1; have HX4 := hide (boX_low hx4 HB.out.size); have HF4 := hide hf4; have HN4 := hide (bx_go HN.out hb4); have HO4 := hide (boX_go HX.out hb4); have HB4 := hide (HB.out.trans (hb4.mono HB.out.size)); clear hx4 hf4 hb4)
            clear a0 a1 a2 a3 a4 a5 a6
            go_loopw [18, 19] (fun mv jv wr => ∃ (j : Nat) (O' : List Bool), j ≤ m + 1 ∧ jv = .int .i64 j ∧ mv = .bool (moB G4 O j) ∧ Hid (BoX w.heap.size wr go co (m + 1) O') ∧ Hid (BoX w.heap.size wr g4 c4 (m + 1) G4) ∧ Hid (BX wr NB 5 (X.NT n) ad (X.NR n) cp (i : Int) (X.B n) (k : Int) mx) ∧ Hid (Below w.heap.size w wr) ∧ Hid (MixR O G4 O' m j)) (fun _ jv _ => m + 1 - (intOf jv).toNat)
            case atStart => exact ⟨0, O, Nat.zero_le _, rfl, rfl, HO4, HX4, HN4, HB4, hide (mixR_zero O G4 m)⟩
            case round =>
              clear HO4 HX4 HN4 HB4
              obtain ⟨j, O', hj, rfl, rfl, HXr, HYr, HNr, HBr, HMr⟩ := hrel
              by_cases hlj : j < m + 1
              · have u0 := (boX_at HXr.out).2.2 j hlj
                have uz := boX_frozen HXr.out j
                have y0 := (boX_at HYr.out).2.2 j hlj
                have hji : (j : Int) < ((m : Nat) + 1 : Int) := by omega
                have hj0 : (0 : Int) ≤ (j : Int) := by omega
                have HMN := hide (mixR_next HMr.out HXr.out.1 (by omega))
                have hOj : O'[j]?.getD false = O[j]?.getD false := by have := HMr.out j (by omega); rw [if_neg (by omega)] at this; exact this
                have HMO := hide (moB_succ G4 O j)
                obtain ⟨x, hx⟩ : ∃ x, O[j]?.getD false = x := ⟨_, rfl⟩
                obtain ⟨y, hy⟩ : ∃ y, G4[j]?.getD false = y := ⟨_, rfl⟩
                obtain ⟨mv, hmv⟩ : ∃ mv, moB G4 O j = mv := ⟨_, rfl⟩
                rw [hOj, hx, hy] at HMN
                rw [hx, hy, hmv] at HMO
                rw [hOj, hx] at u0
                rw [hy] at y0
                rw [hmv]
                have HXS := hide (boX_set HXr.out j (x || y))
                have HYS := hide (boX_far HYr.out (p := ⟨go, j, none⟩) (by show go ≠ g4; omega) (.bool (x || y)))
                have HNS := hide (bx_set HNr.out (p := ⟨go, j, none⟩) (by show go ≠ NB; omega) (.bool (x || y)))
                have HBS := hide (HBr.out.setCell (p := ⟨go, j, none⟩) hgow (.bool (x || y)))
                clear hx hy hmv hOj
                cases mv <;> cases x <;> cases y
                all_goals
                  simp only [Bool.false_or, Bool.true_or, Bool.or_false, Bool.or_true, Bool.not_false, Bool.not_true, Bool.and_true, Bool.and_false, Bool.true_and, Bool.false_and] at HMN HXS HYS HNS HBS HMO
                  go_wp2
                  go_roundw
                  case rel => exact ⟨j + 1, _, by omega, by go_num, by rw [HMO.out], HXS, HYS, HNS, HBS, HMN⟩
                  case measure => simp [intOf]; omega
              · have hjm : j = m + 1 := by omega
                subst hjm
                have HD := hide (mixR_done HMr.out)
                obtain ⟨a0, a1, a2, a3, a4, a5, a6⟩ := nodeAt_cells (bx_nd HNr.out)
                have hwl := (boX_at HXr.out).2.1
                cases hmv : moB G4 O (m + 1)
                · have HST : Hid (∀ b, b ≤ m → G4[b]?.getD false = true → O[b]?.getD false = true) := hide (fun b hb h => by
                    cases e : O[b]?.getD false
                    · have := moB_iff.2 ⟨b, (by omega : b < m + 1), h, e⟩
                      rw [hmv] at this; cases this
                    · rfl)
                  clear hmv
                  go_wp2
                  go_ret
                  exact ⟨go, co, O', rfl, HXr.out, by rw [HT.out]; exact cts_done HLE.out HS.out HF4.out HST.out HD.out (.inr (by omega)), HBr.out⟩
                · have HLK := hide (lk_less HD.out HX.out.1 HXr.out.1 hmv)
                  have HNX := hide (cts_next HLE.out HS.out HF4.out HD.out)
                  clear hmv
                  go_wp2
                  go_roundw
                  case rel => exact ⟨t + 1, g4, c4, O', G4, by go_num, rfl, HXr, HYr, HNr, HBr, hide (HNX.out.2 hmx1), fun e => by omega, fun e => absurd e hmx1⟩
                  case measure => simp [intOf]; omega
        · have hcmp : ¬ ((k : Int) + t < mx) := by omega
          have hmx1 : mx ≠ -1 := by omega
          have hmxb : (mx == -1) = false := by rw [beq_eq_false_iff_ne]; exact hmx1
          have hfull : (k : Int) + t = mx := by have := ht1 hmx1; omega
          have HFU := hide hfull
          clear hfull
          go_wp2
          go_ret
          exact ⟨go, co, O, rfl, HX.out, by rw [HT.out]; exact cts_full HS.out HFU.out, HB.out⟩
/-- What a node takes, by the specification. -/
theorem s_step (X : Rx) (C : List Int) (len m : Nat) (hX : X.len = len) (hlen : len ≤ 120) (hC : C.length = m) (hm : m ≤ 300) (hnd : NdOk X len) (hno : ∀ j, j < len → nodeX X j = true) (hcn : ∀ j, j < len → X.K j = 5 → X.MX j = -1 ∨ X.MN j ≤ X.MX j) (b off cap : Nat) (sa : Option Addr) (sc : Nat) : ∀ (d n r : Nat), n < d → n < len → trX X n = some r → StC X C len m b off cap sa sc n
  | 0, n, r, hmn, hn, htr => by omega
  | d + 1, n, r, hmn, hn, htr => by
    have IH := s_step X C len m hX hlen hC hm hnd hno hcn b off cap sa sc d
    intro f fa fc w hb hr hsr hf hfa
    obtain ⟨h5, h2, hk⟩ := hnd n hn
    rcases hk with k1 | k2 | k3 | k4 | k5
    · exact t_empty X C len m hX hlen hC hm b off cap sa sc n hn f fa fc w hb hr hsr hf hfa k1
    · exact t_class X C len m hX hlen hC hm b off cap sa sc n hn f fa fc w hb hr hsr hf hfa k2 (hno n hn) (by have := (h2 k2).2.1; unfold maxLen; omega)
    · obtain ⟨c, hA, hB, ha, hb9, h1, hc, t1, t2⟩ := tr_parts htr (.inl k3)
      exact t_seq X C len m hX hlen hC hm b off cap sa sc n hn f fa fc w hb hr hsr hf hfa _ _ k3 hA hB ha hb9 (IH _ _ (by omega) (by omega) t2) (IH _ _ (by omega) (by omega) t1)
    · obtain ⟨c, hA, hB, ha, hb9, h1, hc, t1, t2⟩ := tr_parts htr (.inr k4)
      exact t_or X C len m hX hlen hC hm b off cap sa sc n hn f fa fc w hb hr hsr hf hfa _ _ k4 hA hB ha hb9 (IH _ _ (by omega) (by omega) t2) (IH _ _ (by omega) (by omega) t1)
    · obtain ⟨hA, ha, t1⟩ := tr_part1 htr k5
      have q5 := h5 k5
      have e1 : X.MN n = ((X.MN n).toNat : Int) := by omega
      exact t_cnt X C len m hX hlen hC hm b off cap sa sc n hn f fa fc w hb hr hsr hf hfa _ (X.MN n).toNat (X.MX n) k5 hA ha e1 rfl (by omega) q5.2.2.1 (by rw [← e1]; exact hcn n hn k5) (IH _ _ (by omega) (by omega) t1)
end Go.Proofs.YtbijilnbbbicmaaDoor
