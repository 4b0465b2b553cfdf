/-
  Contract: a drawn document grows: the walk.
-/
import Derived.Test.YthcggdjkfebemaaGreatDoorB24
namespace Go.Proofs.YthcggdjkfebemaaGreatDoor
open Go.RowKit Go.Joins
set_option linter.unusedVariables false
set_option linter.unusedSimpArgs false
set_option maxRecDepth 100000 in
set_option maxHeartbeats 8000000 in
theorem grow_step (G : Nat) (a : Option Addr) (n cap : Nat) (zs : List Int) (d cp : Nat) (w : World) (ad0 : Option Addr) (m0 c0 : Nat) (D0 : Dc) (up : Int) (hd2 : d ≤ 2) (hcp : cD d = 3 * (1 + cp)) (K : Nat) (hK : K + 3 * (1 + cp) ≤ 1000) (hm0 : 1 ≤ m0) (hm1 : m0 ≤ K) (hrd : RdAt w G a n cap zs) (hdr : DrIt (G + 1) w ad0 m0 c0 D0)
    (hrec : d = 0 ∨ ∀ (w : World) (ad0 : Option Addr) (m0 c0 : Nat) (D0 : Dc) (up : Int), 1 ≤ m0 → m0 ≤ K + 3 * (1 + cp) → RdAt w G a n cap zs → DrIt (G + 1) w ad0 m0 c0 D0 → Calls Tryz.prog 37 #[.pointer (some ⟨G, 0, none⟩), .slice ad0 m0 c0, .int .i64 up, .int .i64 ((d : Int) - 1)] w (fun e w' => ∃ ad m c D, e = .returned (.slice ad m c) ∧ GS G a n cap zs w w' ad m c D ∧ m0 ≤ m ∧ m ≤ m0 + cp)) :
    Calls Tryz.prog 37 #[.pointer (some ⟨G, 0, none⟩), .slice ad0 m0 c0, .int .i64 up, .int .i64 d] w (GrowAns G a n cap zs w m0 d) := by
  obtain ⟨i0, hi, hz0, hz1, hz2⟩ := info_parts infoIt
  obtain ⟨j0, hj, hy0, hy1, hy2⟩ := info_parts infoAt
  have HREC := hide hrec
  have HGS : Hid (GS G a n cap zs w w ad0 m0 c0 D0) := hide ⟨hrd, hdr, Below.refl _ _, keepA_refl w⟩
  clear hrd hdr hrec
  go_enter Tryz.func37, Tryz.ntmps37
  go_wp2_with fail
  refine (d_below G a n cap zs 4 _ (by omega) (by omega) HGS.out.1).mono ?_
  rintro e w1 ⟨x0, hx0, hx1, rfl, hd⟩
  replace HGS := hide (gs_drew HGS.out hd)
  clear hd
  go_wp2
  go_loopw [1, 9] (fun lv iv wr => ∃ (i : Nat) (ad : Option Addr) (m c : Nat) (D : Dc), lv = .slice ad m c ∧ iv = .int .i64 i ∧ GS G a n cap zs w wr ad m c D ∧ m0 ≤ m ∧ i ≤ 3 ∧ 1 ≤ m ∧ m + i * (1 + cp) ≤ m0 + 3 * (1 + cp)) (fun _ iv _ => (intOf iv).toNat)
  case atStart =>
    refine ⟨x0.toNat, ad0, m0, c0, D0, rfl, by congr 1; omega, HGS.out, Nat.le_refl _, by omega, hm0, ?_⟩
    have : x0.toNat * (1 + cp) ≤ 3 * (1 + cp) := Nat.mul_le_mul_right _ (by omega)
    omega
  case round =>
    clear HGS
    obtain ⟨i, ad, m, c, D, rfl, rfl, hgs, hmm, hi3, hm1', hcnt⟩ := hrel
    have HGS := hide hgs
    have hmx : m ≤ 1000 := by omega
    by_cases hi0 : 0 < i
    · obtain ⟨g, hag, hg1, hg2, hrow⟩ := drIt_cells hgs.2.1 (by omega)
      subst hag
      have HCN : Hid (m + (1 + cp) + (i - 1) * (1 + cp) ≤ m0 + 3 * (1 + cp)) := hide (by
        have e : i * (1 + cp) = (1 + cp) + (i - 1) * (1 + cp) := by
          obtain ⟨k, rfl⟩ : ∃ k, i = k + 1 := ⟨i - 1, by omega⟩
          rw [Nat.add_sub_cancel, Nat.add_mul]; omega
        omega)
      obtain ⟨ad9, cp9, ⟨b0, b1, b2, b3⟩, -, -⟩ := hrow (m - 1) (by have := (drIt_dc hgs.2.1).1; omega)
      rw [Nat.zero_add] at b0 b1 b2 b3
      have hI1 : (0 : Int) ≤ (m : Int) - 1 := by omega
      have hI2 : (m : Int) - 1 < (m : Int) := by omega
      have hiI : (0 : Int) < (i : Int) := by omega
      obtain ⟨U, hU⟩ : ∃ U, D.U (m - 1) = U := ⟨_, rfl⟩
      obtain ⟨NM, hNM⟩ : ∃ NM, D.NM (m - 1) = NM := ⟨_, rfl⟩
      obtain ⟨TX, hTX⟩ : ∃ TX, D.TX (m - 1) = TX := ⟨_, rfl⟩
      obtain ⟨AC, hAC⟩ : ∃ AC, D.AC (m - 1) = AC := ⟨_, rfl⟩
      rw [hU] at b0
      rw [hNM] at b1
      rw [hTX] at b2
      rw [hAC] at b3
      clear hrow hU hNM hTX hAC hgs
      go_wp2_with fail
      have HGS1 := hide (gs_alloc HGS.out (.cells #[.int .i64 U, .string NM, .string TX, .slice ad9 AC cp9] IT))
      refine (d_once G a n cap zs 3 _ (by omega) (by omega) HGS1.out.1).mono ?_
      rintro e w2 ⟨b3', rfl, hd⟩
      have HGS2 := hide (gs_drew HGS1.out hd)
      have k9 := cellsAt_cell (w := w2) (G := wr.heap.size) (cs := #[.int .i64 U, .string NM, .string TX, .slice ad9 AC cp9]) ⟨IT, (hd.2.block wr.heap.size (by simp) (fun e => by cases e; exact absurd (gs_size HGS.out) (Nat.lt_irrefl _))).trans (heap_alloc_new wr _)⟩
      have l0 : w2.cell? ⟨wr.heap.size, 0, none⟩ = some (.int .i64 U) := k9 0
      have l1 : w2.cell? ⟨wr.heap.size, 1, none⟩ = some (.string NM) := k9 1
      have hszr := gs_size HGS2.out
      clear hd k9 HGS1 b0 b1 b2 b3
      obtain ⟨ad, hadd⟩ : ∃ ad : Option Addr, some ⟨g, 0, none⟩ = ad := ⟨_, rfl⟩
      rw [hadd] at HGS2 ⊢
      rw [hadd] at HGS
      clear hadd hg1 hg2
      cases b3'
      · skip
        go_wp2_with fail
        refine (d_name G a n cap zs _ HGS2.out.1).mono ?_
        rintro e w3 ⟨nm, hn1, hn5, rfl, hd⟩
        have HGS3 := hide (gs_drew HGS2.out hd)
        have hsz3 := gs_size HGS3.out
        clear hd
        obtain ⟨xs0, hox0, hix0⟩ := HGS3.out.2.1
        have HXS : Hid (XS G a n cap zs w (w3.alloc (.cells #[.int .i64 up, .string nm, .string ⟨#[]⟩, .slice none 0 0] IT)) (w3.alloc (.cells #[.int .i64 up, .string nm, .string ⟨#[]⟩, .slice none 0 0] IT)) ad m c D w3.heap.size up nm none 0 0 (fun _ => ⟨#[]⟩) (fun _ => ⟨#[]⟩)) := hide ⟨rd_alloc HGS3.out.1 _, ⟨xs0, hox0.alloc _, its_keep hix0 (keepA_below (keepA_refl w3) ((Below.refl _ _).alloc (Nat.le_refl _) _))⟩, HGS3.out.2.2.1.alloc (Nat.le_of_lt hsz3) _, keepA_refl _, heap_alloc_new w3 _, ⟨[], ⟨rfl, .inl ⟨rfl, rfl⟩⟩, fun j h => by omega⟩, fun k hk => by omega, hsz3, by simp, keepA_below HGS3.out.2.2.2 ((Below.refl _ _).alloc (Nat.le_refl _) _), fun k hk => (hox0.lt k hk).2⟩
        clear hox0 hix0 xs0
        go_wp2_with fail
        obtain ⟨wX, hwX⟩ : ∃ wX, w3.alloc (.cells #[.int .i64 up, .string nm, .string ⟨#[]⟩, .slice none 0 0] IT) = wX := ⟨_, rfl⟩
        obtain ⟨X, hX⟩ : ∃ X, w3.heap.size = X := ⟨_, rfl⟩
        rw [hwX, hX] at HXS
        rw [hwX, hX]
        clear hX hwX HGS2 HGS3 hsz3
        refine (d_below G a n cap zs 3 _ (by omega) (by omega) HXS.out.1).mono ?_
        rintro e w4 ⟨q, hq0, hq1, rfl, hd⟩
        replace HXS := hide (xs_drew HXS.out hd)
        clear hd
        go_wp2
        go_loopw [13] (fun kv wr => ∃ (k ka ca : Nat) (sa : Option Addr) (N V : Nat → ByteArray), kv = .int .i64 k ∧ k + ka ≤ 2 ∧ Hid (XS G a n cap zs w wX wr ad m c D X up nm sa ka ca N V)) (fun kv _ => (intOf kv).toNat)
        case atStart => exact ⟨q.toNat, 0, 0, none, _, _, by congr 1; omega, by omega, HXS⟩
        case round =>
          clear HXS
          obtain ⟨k, ka, ca, sa, N, V, rfl, hkk, HXS⟩ := hrel
          have hlX := xs_lt HXS.out
          have hGX : G < X := HXS.out.2.2.2.2.2.2.2.1
          by_cases hk : 0 < k
          · go_wp2_with fail
            refine (d_name G a n cap zs _ HXS.out.1).mono ?_
            rintro e w5 ⟨an, han1, han5, rfl, hd⟩
            replace HXS := hide (xs_drew HXS.out hd)
            clear hd
            go_wp2_with fail
            refine (d_once G a n cap zs 4 _ (by omega) (by omega) HXS.out.1).mono ?_
            rintro e w6 ⟨b4, rfl, hd⟩
            replace HXS := hide (xs_drew HXS.out hd)
            clear hd
            cases b4
            all_goals
              have hadd : ¬ 9223372036854775807 < 2 + an.size := by omega
              go_wp2
              first
                | (obtain ⟨an2, han2, hsz2⟩ : ∃ an2 : ByteArray, (⟨#[112, 58]⟩ : ByteArray) ++ an = an2 ∧ an2.size ≤ 8 := ⟨_, rfl, by rw [ByteArray.size_append]; show 2 + an.size ≤ 8; omega⟩; rw [han2]; clear han2)
                | (obtain ⟨an2, han2, hsz2⟩ : ∃ an2 : ByteArray, an = an2 ∧ an2.size ≤ 8 := ⟨_, rfl, by omega⟩; rw [han2]; clear han2)
              have hS0 : w6.drew.cell? ⟨X, 3, none⟩ = some (.slice sa ka ca) := xs_cell (xs_dr HXS.out) 3
              go_region_law (first
                  | (go_simp; go_at_call 41; refine (d_text G a n cap zs _ (xs_dr HXS.out).1).mono ?_; rintro e w7 ⟨tx, htx, rfl, hd⟩; have HT1 := hide (xs_drew (xs_dr HXS.out) hd); obtain ⟨ys, hown7, hp7⟩ := HT1.out.2.2.2.2.2.1; have HOW := hide hown7; have HP7 := hide hp7; have hN7 := xs_lt HT1.out; have hc7 : w7.cell? ⟨X, 3, none⟩ = some (.slice sa ka ca) := xs_cell HT1.out 3; have hc7a : ∀ o, (w7.alloc o).cell? ⟨X, 3, none⟩ = some (.slice sa ka ca) := fun o => xs_cell (xs_alloc HT1.out o) 3; clear hd hown7 hp7)
                  | (refine step_append_lies _ (by rfl) _ _ _ (by rfl) (X + 1) AT j0 _ 2 32 Tryz.underlying39 hj hy0 hy1 hy2 rfl (by omega) (.slice sa ka ca) ka ys (by rfl) (HOW.out.alloc _) ⟨w7.heap.size, 0, none⟩ 1 1 [.string an2, .string tx] (by rfl) (by rfl) (World.news_of_block (cs := #[.string an2, .string tx]) (t := AT) (fr := (0, 0)) (heap_alloc_new w7 _)) (by simp [Value.oneCell']) (by omega) (by unfold maxLen; omega) (by omega) (by simp; omega) (w7.heap.size + 1) (by simp) ?_; intro gg cap' w8 hown8 hgrow8 hat8 hlt8; have HT2 := hide (xs_grown (xs_alloc HT1.out _) (HOW.out.alloc _) hgrow8 hown8 (pairs_putF HP7.out HOW.out.1 an2 tx) (small_putF HT1.out.2.2.2.2.2.2.1 hsz2 (by omega))); have hfz : w8.frozen? ⟨X, 3, none⟩ = false := (World.frozen?_of_block (hgrow8.block X (by simp; omega) (fun e => by have := (HOW.out.lt X e.symm).1; omega))).trans (xs_frozen (xs_alloc HT1.out _) 3); have hcz : w8.cell? ⟨X, 3, none⟩ = some (.slice sa ka ca) := (World.cell?_of_block (hgrow8.block X (by simp; omega) (fun e => by have := (HOW.out.lt X e.symm).1; omega))).trans (hc7a _); clear hown8 hgrow8 hat8)
                  | (fail))
              all_goals
                go_wp2
                go_roundw
                case rel => exact ⟨k - 1, ka + 1, cap', some ⟨gg, 0, none⟩, _, _, by congr 1; omega, by omega, HT2⟩
                case measure => simp [intOf]; omega
          · have hk0 : k = 0 := by omega
            subst hk0
            have x3 : wr.cell? ⟨X, 3, none⟩ = some (.slice sa ka ca) := xs_cell HXS.out 3
            obtain ⟨ys, hoy, hpy⟩ := HXS.out.2.2.2.2.2.1
            have HOY := hide hoy
            have HPY := hide hpy
            have hsmall := HXS.out.2.2.2.2.2.2.1
            have CA := hide (s_attrs sa ka ca N V wr (by omega) (fun j hj => by have := hsmall j hj; omega) (atD_at (atD_own hoy hpy)))
            clear hoy hpy hsmall
            go_wp2_with fail
            refine CA.out.mono ?_
            rintro e w5 ⟨rfl, hb5⟩
            have HXS5 := hide (xs_below HXS.out hb5)
            have HOY5 := hide (gOwn_after HOY.out hb5)
            clear hb5 x3
            have hl5 := xs_lt HXS5.out
            have x0 : w5.cell? ⟨X, 0, none⟩ = some (.int .i64 up) := xs_cell HXS5.out 0
            have x1 : w5.cell? ⟨X, 1, none⟩ = some (.string nm) := xs_cell HXS5.out 1
            have x2 : w5.cell? ⟨X, 2, none⟩ = some (.string ⟨#[]⟩) := xs_cell HXS5.out 2
            have x3 : w5.cell? ⟨X, 3, none⟩ = some (.slice sa ka ca) := xs_cell HXS5.out 3
            have f3 := xs_frozen HXS5.out 3
            have hmI : (m : Int) ≤ 1000 := by omega
            cases hab : attrsB ka N V
            · have hka : 1 ≤ ka := by
                rcases Nat.eq_zero_or_pos ka with h | h
                · subst h; rw [show attrsB 0 N V = true from rfl] at hab; cases hab
                · exact h
              have hca : ka ≤ ca := own_cap HOY5.out
              obtain ⟨gy, hgy⟩ := own_addr HOY5.out (by omega)
              subst hgy
              have hc1 : (1 : Int) ≤ (ca : Int) := by omega
              have HXS6 := hide (xs_store HXS5.out (own_less HOY5.out hka) (pairs_less HPY.out hka) (fun j hj => HXS5.out.2.2.2.2.2.2.1 j (by omega)))
              obtain ⟨xs, hox, hix⟩ := HXS6.out.2.1
              have HOX := hide hox
              have HIX := hide (its_keep hix HXS6.out.2.2.2.1)
              obtain ⟨zs6, hoz, hpz⟩ := HXS6.out.2.2.2.2.2.1
              have HAD := hide (atD_own hoz hpz)
              have y0 : (w5.setCell ⟨X, 3, none⟩ (.slice (some ⟨gy, 0, none⟩) 1 ca)).cell? ⟨X, 0, none⟩ = some (.int .i64 up) := xs_cell HXS6.out 0
              have y1 : (w5.setCell ⟨X, 3, none⟩ (.slice (some ⟨gy, 0, none⟩) 1 ca)).cell? ⟨X, 1, none⟩ = some (.string nm) := xs_cell HXS6.out 1
              have y2 : (w5.setCell ⟨X, 3, none⟩ (.slice (some ⟨gy, 0, none⟩) 1 ca)).cell? ⟨X, 2, none⟩ = some (.string ⟨#[]⟩) := xs_cell HXS6.out 2
              have y3 : (w5.setCell ⟨X, 3, none⟩ (.slice (some ⟨gy, 0, none⟩) 1 ca)).cell? ⟨X, 3, none⟩ = some (.slice (some ⟨gy, 0, none⟩) 1 ca) := xs_cell HXS6.out 3
              clear hox hix hoz hpz
              by_cases hdz : d = 0
              · have hdI : ¬ (0 : Int) < (d : Int) := by omega
                clear hdz
                go_wp2_with (first | (at_builtin; refine wpList_append_own _ rfl (.tmp 87) (.tmp 89) 24 rfl (G + 1) IT i0 (.agg #[.int .i64 0, .string ⟨#[]⟩, .string ⟨#[]⟩, .slice none 0 0]) 4 64 Tryz.underlying24 hi hz0 hz1 hz2 rfl (by decide) _ _ _ rfl (HOX.out.alloc _) ⟨w5.heap.size, 0, none⟩ 1 1 [.int .i64 up, .string nm, .string ⟨#[]⟩, .slice (some ⟨gy, 0, none⟩) 1 ca] rfl rfl (fun j u hj => gFour_newS w5 _ _ _ _ _ _ _ j u hj) (gItem_list _ _ _ _ _ _) (by unfold maxLen; omega) (by omega) (by simp; omega) ?_; intro v2 w9 hown2 hgrow2 _; obtain ⟨ad2, c2', hv2⟩ := gOwn_shape hown2; rw [hv2] at hown2 ⊢; clear hv2; have HO9 := hide hown2; have HG9 := hide hgrow2; clear hown2 hgrow2))
                have HG := hide (gs_put HXS6.out.1 HOX.out HIX.out HXS6.out.2.2.1 (keepA_trans HXS6.out.2.2.2.2.2.2.2.2.2.1 HXS6.out.2.2.2.1) HO9.out HG9.out HAD.out (by omega) (by omega) (by decide) (by omega) (fun j hj => HXS6.out.2.2.2.2.2.2.1 j hj))
                go_roundw
                case rel => exact ⟨i - 1, ad2, m + 1, c2', _, rfl, by congr 1; omega, HG.out, by omega, by omega, by omega, by have := HCN.out; omega⟩
                case measure => simp [intOf]; omega
              · have hdI : (0 : Int) < (d : Int) := by omega
                have HR9 := hide (rec_of HREC.out hdz)
                go_wp2_with (first | (at_builtin; refine wpList_append_own _ rfl (.tmp 87) (.tmp 89) 24 rfl (G + 1) IT i0 (.agg #[.int .i64 0, .string ⟨#[]⟩, .string ⟨#[]⟩, .slice none 0 0]) 4 64 Tryz.underlying24 hi hz0 hz1 hz2 rfl (by decide) _ _ _ rfl (HOX.out.alloc _) ⟨w5.heap.size, 0, none⟩ 1 1 [.int .i64 up, .string nm, .string ⟨#[]⟩, .slice (some ⟨gy, 0, none⟩) 1 ca] rfl rfl (fun j u hj => gFour_newS w5 _ _ _ _ _ _ _ j u hj) (gItem_list _ _ _ _ _ _) (by unfold maxLen; omega) (by omega) (by simp; omega) ?_; intro v2 w9 hown2 hgrow2 _; obtain ⟨ad2, c2', hv2⟩ := gOwn_shape hown2; rw [hv2] at hown2 ⊢; clear hv2; have HO9 := hide hown2; have HG9 := hide hgrow2; clear hown2 hgrow2))
                have HG := hide (gs_put HXS6.out.1 HOX.out HIX.out HXS6.out.2.2.1 (keepA_trans HXS6.out.2.2.2.2.2.2.2.2.2.1 HXS6.out.2.2.2.1) HO9.out HG9.out HAD.out (by omega) (by omega) (by decide) (by omega) (fun j hj => HXS6.out.2.2.2.2.2.2.1 j hj))
                refine (d_once G a n cap zs 2 _ (by omega) (by omega) HG.out.1).mono ?_
                rintro e w10 ⟨bo, rfl, hd⟩
                have HG2 := hide (gs_drew HG.out hd)
                clear hd
                cases bo
                · go_wp2
                  go_roundw
                  case rel => exact ⟨i - 1, ad2, m + 1, c2', _, rfl, by congr 1; omega, HG2.out, by omega, by omega, by omega, by have := HCN.out; omega⟩
                  case measure => simp [intOf]; omega
                · go_wp2_with fail
                  refine (HR9.out w10 ad2 (m + 1) c2' _ (m : Int) (by omega) (by have := HCN.out; omega) HG2.out.1 HG2.out.2.1).mono ?_
                  rintro e w11 ⟨ad3, m3, c3, D3, rfl, hg3, hm3, hm4⟩
                  have HG3 := hide (gs_trans HG2.out hg3)
                  clear hg3
                  go_wp2
                  go_roundw
                  case rel => exact ⟨i - 1, ad3, m3, c3, D3, rfl, by congr 1; omega, HG3.out, by omega, by omega, by omega, by have := HCN.out; omega⟩
                  case measure => simp [intOf]; omega
            · obtain ⟨xs, hox, hix⟩ := HXS5.out.2.1
              have HOX := hide hox
              have HIX := hide (its_keep hix HXS5.out.2.2.2.1)
              have HAD := hide (atD_own HOY5.out HPY.out)
              have hca : ka ≤ ca := own_cap HOY5.out
              clear hox hix
              by_cases hdz : d = 0
              · have hdI : ¬ (0 : Int) < (d : Int) := by omega
                clear hdz
                go_wp2_with (first | (at_builtin; refine wpList_append_own _ rfl (.tmp 87) (.tmp 89) 24 rfl (G + 1) IT i0 (.agg #[.int .i64 0, .string ⟨#[]⟩, .string ⟨#[]⟩, .slice none 0 0]) 4 64 Tryz.underlying24 hi hz0 hz1 hz2 rfl (by decide) _ _ _ rfl (HOX.out.alloc _) ⟨w5.heap.size, 0, none⟩ 1 1 [.int .i64 up, .string nm, .string ⟨#[]⟩, .slice sa ka ca] rfl rfl (fun j u hj => gFour_new w5 _ _ _ _ _ j u hj) (gItem_list _ _ _ _ _ _) (by unfold maxLen; omega) (by omega) (by simp; omega) ?_; intro v2 w9 hown2 hgrow2 _; obtain ⟨ad2, c2', hv2⟩ := gOwn_shape hown2; rw [hv2] at hown2 ⊢; clear hv2; have HO9 := hide hown2; have HG9 := hide hgrow2; clear hown2 hgrow2))
                have HG := hide (gs_put HXS5.out.1 HOX.out HIX.out HXS5.out.2.2.1 (keepA_trans HXS5.out.2.2.2.2.2.2.2.2.2.1 HXS5.out.2.2.2.1) HO9.out HG9.out HAD.out hca (by omega) (by decide) (by omega) (fun j hj => HXS5.out.2.2.2.2.2.2.1 j hj))
                go_roundw
                case rel => exact ⟨i - 1, ad2, m + 1, c2', _, rfl, by congr 1; omega, HG.out, by omega, by omega, by omega, by have := HCN.out; omega⟩
                case measure => simp [intOf]; omega
              · have hdI : (0 : Int) < (d : Int) := by omega
                have HR9 := hide (rec_of HREC.out hdz)
                go_wp2_with (first | (at_builtin; refine wpList_append_own _ rfl (.tmp 87) (.tmp 89) 24 rfl (G + 1) IT i0 (.agg #[.int .i64 0, .string ⟨#[]⟩, .string ⟨#[]⟩, .slice none 0 0]) 4 64 Tryz.underlying24 hi hz0 hz1 hz2 rfl (by decide) _ _ _ rfl (HOX.out.alloc _) ⟨w5.heap.size, 0, none⟩ 1 1 [.int .i64 up, .string nm, .string ⟨#[]⟩, .slice sa ka ca] rfl rfl (fun j u hj => gFour_new w5 _ _ _ _ _ j u hj) (gItem_list _ _ _ _ _ _) (by unfold maxLen; omega) (by omega) (by simp; omega) ?_; intro v2 w9 hown2 hgrow2 _; obtain ⟨ad2, c2', hv2⟩ := gOwn_shape hown2; rw [hv2] at hown2 ⊢; clear hv2; have HO9 := hide hown2; have HG9 := hide hgrow2; clear hown2 hgrow2))
                have HG := hide (gs_put HXS5.out.1 HOX.out HIX.out HXS5.out.2.2.1 (keepA_trans HXS5.out.2.2.2.2.2.2.2.2.2.1 HXS5.out.2.2.2.1) HO9.out HG9.out HAD.out hca (by omega) (by decide) (by omega) (fun j hj => HXS5.out.2.2.2.2.2.2.1 j hj))
                refine (d_once G a n cap zs 2 _ (by omega) (by omega) HG.out.1).mono ?_
                rintro e w10 ⟨bo, rfl, hd⟩
                have HG2 := hide (gs_drew HG.out hd)
                clear hd
                cases bo
                · go_wp2
                  go_roundw
                  case rel => exact ⟨i - 1, ad2, m + 1, c2', _, rfl, by congr 1; omega, HG2.out, by omega, by omega, by omega, by have := HCN.out; omega⟩
                  case measure => simp [intOf]; omega
                · go_wp2_with fail
                  refine (HR9.out w10 ad2 (m + 1) c2' _ (m : Int) (by omega) (by have := HCN.out; omega) HG2.out.1 HG2.out.2.1).mono ?_
                  rintro e w11 ⟨ad3, m3, c3, D3, rfl, hg3, hm3, hm4⟩
                  have HG3 := hide (gs_trans HG2.out hg3)
                  clear hg3
                  go_wp2
                  go_roundw
                  case rel => exact ⟨i - 1, ad3, m3, c3, D3, rfl, by congr 1; omega, HG3.out, by omega, by omega, by omega, by have := HCN.out; omega⟩
                  case measure => simp [intOf]; omega
      · cases e1 : NM.toList.isEmpty
        · skip
          go_wp2_with fail
          refine (d_text G a n cap zs _ HGS2.out.1).mono ?_
          rintro e w4 ⟨s, hs4, rfl, hd⟩
          have HGS4 := hide (gs_drew HGS2.out hd)
          have hsz4 := gs_size HGS4.out
          clear hd
          cases hse : s.toList.isEmpty
          · obtain ⟨xs, hox, hix⟩ := HGS4.out.2.1
            have HOX := hide hox
            have HIX := hide hix
            clear hox hix
            go_wp2_with (first | (at_builtin; refine wpList_append_own _ rfl (.tmp 46) (.tmp 50) 24 rfl (G + 1) IT i0 (.agg #[.int .i64 0, .string ⟨#[]⟩, .string ⟨#[]⟩, .slice none 0 0]) 4 64 Tryz.underlying24 hi hz0 hz1 hz2 rfl (by decide) _ _ _ rfl (HOX.out.alloc _) ⟨w4.heap.size, 0, none⟩ 1 1 [.int .i64 up, .string ⟨#[]⟩, .string s, .slice none 0 0] rfl rfl (fun j u hj => gFour_new w4 _ _ _ _ _ j u hj) (gItem_list _ _ _ _ _ _) (by unfold maxLen; omega) (by omega) (by simp; omega) ?_; intro v2 w9 hown2 hgrow2 _; obtain ⟨ad2, c2', hv2⟩ := gOwn_shape hown2; rw [hv2] at hown2 ⊢; clear hv2; have HO9 := hide hown2; have HG9 := hide hgrow2; clear hown2 hgrow2))
            go_roundw
            case rel =>
              exact ⟨i - 1, ad2, m + 1, c2', _, rfl, by congr 1; omega, gs_put HGS4.out.1 HOX.out HIX.out HGS4.out.2.2.1 HGS4.out.2.2.2 HO9.out HG9.out (an := fun _ => ⟨#[]⟩) (av := fun _ => ⟨#[]⟩) (fun h => absurd h (Nat.lt_irrefl _)) (Nat.le_refl _) (by decide) (by omega) (by omega) (fun k hk => by omega), by omega, by omega, by omega, by have := HCN.out; omega⟩
            case measure => simp [intOf]; omega
          · go_wp2
            go_roundw
            case rel => exact ⟨i - 1, ad, m, c, D, rfl, by congr 1; omega, HGS4.out, by omega, by omega, by omega, by have := HCN.out; omega⟩
            case measure => simp [intOf]; omega
        · cases e2 : (U == up)
          · skip
            go_wp2_with fail
            refine (d_text G a n cap zs _ HGS2.out.1).mono ?_
            rintro e w4 ⟨s, hs4, rfl, hd⟩
            have HGS4 := hide (gs_drew HGS2.out hd)
            have hsz4 := gs_size HGS4.out
            clear hd
            cases hse : s.toList.isEmpty
            · obtain ⟨xs, hox, hix⟩ := HGS4.out.2.1
              have HOX := hide hox
              have HIX := hide hix
              clear hox hix
              go_wp2_with (first | (at_builtin; refine wpList_append_own _ rfl (.tmp 46) (.tmp 50) 24 rfl (G + 1) IT i0 (.agg #[.int .i64 0, .string ⟨#[]⟩, .string ⟨#[]⟩, .slice none 0 0]) 4 64 Tryz.underlying24 hi hz0 hz1 hz2 rfl (by decide) _ _ _ rfl (HOX.out.alloc _) ⟨w4.heap.size, 0, none⟩ 1 1 [.int .i64 up, .string ⟨#[]⟩, .string s, .slice none 0 0] rfl rfl (fun j u hj => gFour_new w4 _ _ _ _ _ j u hj) (gItem_list _ _ _ _ _ _) (by unfold maxLen; omega) (by omega) (by simp; omega) ?_; intro v2 w9 hown2 hgrow2 _; obtain ⟨ad2, c2', hv2⟩ := gOwn_shape hown2; rw [hv2] at hown2 ⊢; clear hv2; have HO9 := hide hown2; have HG9 := hide hgrow2; clear hown2 hgrow2))
              go_roundw
              case rel =>
                exact ⟨i - 1, ad2, m + 1, c2', _, rfl, by congr 1; omega, gs_put HGS4.out.1 HOX.out HIX.out HGS4.out.2.2.1 HGS4.out.2.2.2 HO9.out HG9.out (an := fun _ => ⟨#[]⟩) (av := fun _ => ⟨#[]⟩) (fun h => absurd h (Nat.lt_irrefl _)) (Nat.le_refl _) (by decide) (by omega) (by omega) (fun k hk => by omega), by omega, by omega, by omega, by have := HCN.out; omega⟩
              case measure => simp [intOf]; omega
            · go_wp2
              go_roundw
              case rel => exact ⟨i - 1, ad, m, c, D, rfl, by congr 1; omega, HGS4.out, by omega, by omega, by omega, by have := HCN.out; omega⟩
              case measure => simp [intOf]; omega
          · skip
            go_wp2_with fail
            refine (d_name G a n cap zs _ HGS2.out.1).mono ?_
            rintro e w3 ⟨nm, hn1, hn5, rfl, hd⟩
            have HGS3 := hide (gs_drew HGS2.out hd)
            have hsz3 := gs_size HGS3.out
            clear hd
            obtain ⟨xs0, hox0, hix0⟩ := HGS3.out.2.1
            have HXS : Hid (XS G a n cap zs w (w3.alloc (.cells #[.int .i64 up, .string nm, .string ⟨#[]⟩, .slice none 0 0] IT)) (w3.alloc (.cells #[.int .i64 up, .string nm, .string ⟨#[]⟩, .slice none 0 0] IT)) ad m c D w3.heap.size up nm none 0 0 (fun _ => ⟨#[]⟩) (fun _ => ⟨#[]⟩)) := hide ⟨rd_alloc HGS3.out.1 _, ⟨xs0, hox0.alloc _, its_keep hix0 (keepA_below (keepA_refl w3) ((Below.refl _ _).alloc (Nat.le_refl _) _))⟩, HGS3.out.2.2.1.alloc (Nat.le_of_lt hsz3) _, keepA_refl _, heap_alloc_new w3 _, ⟨[], ⟨rfl, .inl ⟨rfl, rfl⟩⟩, fun j h => by omega⟩, fun k hk => by omega, hsz3, by simp, keepA_below HGS3.out.2.2.2 ((Below.refl _ _).alloc (Nat.le_refl _) _), fun k hk => (hox0.lt k hk).2⟩
            clear hox0 hix0 xs0
            go_wp2_with fail
            obtain ⟨wX, hwX⟩ : ∃ wX, w3.alloc (.cells #[.int .i64 up, .string nm, .string ⟨#[]⟩, .slice none 0 0] IT) = wX := ⟨_, rfl⟩
            obtain ⟨X, hX⟩ : ∃ X, w3.heap.size = X := ⟨_, rfl⟩
            rw [hwX, hX] at HXS
            rw [hwX, hX]
            clear hX hwX HGS2 HGS3 hsz3
            refine (d_below G a n cap zs 3 _ (by omega) (by omega) HXS.out.1).mono ?_
            rintro e w4 ⟨q, hq0, hq1, rfl, hd⟩
            replace HXS := hide (xs_drew HXS.out hd)
            clear hd
            go_wp2
            go_loopw [13] (fun kv wr => ∃ (k ka ca : Nat) (sa : Option Addr) (N V : Nat → ByteArray), kv = .int .i64 k ∧ k + ka ≤ 2 ∧ Hid (XS G a n cap zs w wX wr ad m c D X up nm sa ka ca N V)) (fun kv _ => (intOf kv).toNat)
            case atStart => exact ⟨q.toNat, 0, 0, none, _, _, by congr 1; omega, by omega, HXS⟩
            case round =>
              clear HXS
              obtain ⟨k, ka, ca, sa, N, V, rfl, hkk, HXS⟩ := hrel
              have hlX := xs_lt HXS.out
              have hGX : G < X := HXS.out.2.2.2.2.2.2.2.1
              by_cases hk : 0 < k
              · go_wp2_with fail
                refine (d_name G a n cap zs _ HXS.out.1).mono ?_
                rintro e w5 ⟨an, han1, han5, rfl, hd⟩
                replace HXS := hide (xs_drew HXS.out hd)
                clear hd
                go_wp2_with fail
                refine (d_once G a n cap zs 4 _ (by omega) (by omega) HXS.out.1).mono ?_
                rintro e w6 ⟨b4, rfl, hd⟩
                replace HXS := hide (xs_drew HXS.out hd)
                clear hd
                cases b4
                all_goals
                  have hadd : ¬ 9223372036854775807 < 2 + an.size := by omega
                  go_wp2
                  first
                    | (obtain ⟨an2, han2, hsz2⟩ : ∃ an2 : ByteArray, (⟨#[112, 58]⟩ : ByteArray) ++ an = an2 ∧ an2.size ≤ 8 := ⟨_, rfl, by rw [ByteArray.size_append]; show 2 + an.size ≤ 8; omega⟩; rw [han2]; clear han2)
                    | (obtain ⟨an2, han2, hsz2⟩ : ∃ an2 : ByteArray, an = an2 ∧ an2.size ≤ 8 := ⟨_, rfl, by omega⟩; rw [han2]; clear han2)
                  have hS0 : w6.drew.cell? ⟨X, 3, none⟩ = some (.slice sa ka ca) := xs_cell (xs_dr HXS.out) 3
                  go_region_law (first
                      | (go_simp; go_at_call 41; refine (d_text G a n cap zs _ (xs_dr HXS.out).1).mono ?_; rintro e w7 ⟨tx, htx, rfl, hd⟩; have HT1 := hide (xs_drew (xs_dr HXS.out) hd); obtain ⟨ys, hown7, hp7⟩ := HT1.out.2.2.2.2.2.1; have HOW := hide hown7; have HP7 := hide hp7; have hN7 := xs_lt HT1.out; have hc7 : w7.cell? ⟨X, 3, none⟩ = some (.slice sa ka ca) := xs_cell HT1.out 3; have hc7a : ∀ o, (w7.alloc o).cell? ⟨X, 3, none⟩ = some (.slice sa ka ca) := fun o => xs_cell (xs_alloc HT1.out o) 3; clear hd hown7 hp7)
                      | (refine step_append_lies _ (by rfl) _ _ _ (by rfl) (X + 1) AT j0 _ 2 32 Tryz.underlying39 hj hy0 hy1 hy2 rfl (by omega) (.slice sa ka ca) ka ys (by rfl) (HOW.out.alloc _) ⟨w7.heap.size, 0, none⟩ 1 1 [.string an2, .string tx] (by rfl) (by rfl) (World.news_of_block (cs := #[.string an2, .string tx]) (t := AT) (fr := (0, 0)) (heap_alloc_new w7 _)) (by simp [Value.oneCell']) (by omega) (by unfold maxLen; omega) (by omega) (by simp; omega) (w7.heap.size + 1) (by simp) ?_; intro gg cap' w8 hown8 hgrow8 hat8 hlt8; have HT2 := hide (xs_grown (xs_alloc HT1.out _) (HOW.out.alloc _) hgrow8 hown8 (pairs_putF HP7.out HOW.out.1 an2 tx) (small_putF HT1.out.2.2.2.2.2.2.1 hsz2 (by omega))); have hfz : w8.frozen? ⟨X, 3, none⟩ = false := (World.frozen?_of_block (hgrow8.block X (by simp; omega) (fun e => by have := (HOW.out.lt X e.symm).1; omega))).trans (xs_frozen (xs_alloc HT1.out _) 3); have hcz : w8.cell? ⟨X, 3, none⟩ = some (.slice sa ka ca) := (World.cell?_of_block (hgrow8.block X (by simp; omega) (fun e => by have := (HOW.out.lt X e.symm).1; omega))).trans (hc7a _); clear hown8 hgrow8 hat8)
                      | (fail))
                  all_goals
                    go_wp2
                    go_roundw
                    case rel => exact ⟨k - 1, ka + 1, cap', some ⟨gg, 0, none⟩, _, _, by congr 1; omega, by omega, HT2⟩
                    case measure => simp [intOf]; omega
              · have hk0 : k = 0 := by omega
                subst hk0
                have x3 : wr.cell? ⟨X, 3, none⟩ = some (.slice sa ka ca) := xs_cell HXS.out 3
                obtain ⟨ys, hoy, hpy⟩ := HXS.out.2.2.2.2.2.1
                have HOY := hide hoy
                have HPY := hide hpy
                have hsmall := HXS.out.2.2.2.2.2.2.1
                have CA := hide (s_attrs sa ka ca N V wr (by omega) (fun j hj => by have := hsmall j hj; omega) (atD_at (atD_own hoy hpy)))
                clear hoy hpy hsmall
                go_wp2_with fail
                refine CA.out.mono ?_
                rintro e w5 ⟨rfl, hb5⟩
                have HXS5 := hide (xs_below HXS.out hb5)
                have HOY5 := hide (gOwn_after HOY.out hb5)
                clear hb5 x3
                have hl5 := xs_lt HXS5.out
                have x0 : w5.cell? ⟨X, 0, none⟩ = some (.int .i64 up) := xs_cell HXS5.out 0
                have x1 : w5.cell? ⟨X, 1, none⟩ = some (.string nm) := xs_cell HXS5.out 1
                have x2 : w5.cell? ⟨X, 2, none⟩ = some (.string ⟨#[]⟩) := xs_cell HXS5.out 2
                have x3 : w5.cell? ⟨X, 3, none⟩ = some (.slice sa ka ca) := xs_cell HXS5.out 3
                have f3 := xs_frozen HXS5.out 3
                have hmI : (m : Int) ≤ 1000 := by omega
                cases hab : attrsB ka N V
                · have hka : 1 ≤ ka := by
                    rcases Nat.eq_zero_or_pos ka with h | h
                    · subst h; rw [show attrsB 0 N V = true from rfl] at hab; cases hab
                    · exact h
                  have hca : ka ≤ ca := own_cap HOY5.out
                  obtain ⟨gy, hgy⟩ := own_addr HOY5.out (by omega)
                  subst hgy
                  have hc1 : (1 : Int) ≤ (ca : Int) := by omega
                  have HXS6 := hide (xs_store HXS5.out (own_less HOY5.out hka) (pairs_less HPY.out hka) (fun j hj => HXS5.out.2.2.2.2.2.2.1 j (by omega)))
                  obtain ⟨xs, hox, hix⟩ := HXS6.out.2.1
                  have HOX := hide hox
                  have HIX := hide (its_keep hix HXS6.out.2.2.2.1)
                  obtain ⟨zs6, hoz, hpz⟩ := HXS6.out.2.2.2.2.2.1
                  have HAD := hide (atD_own hoz hpz)
                  have y0 : (w5.setCell ⟨X, 3, none⟩ (.slice (some ⟨gy, 0, none⟩) 1 ca)).cell? ⟨X, 0, none⟩ = some (.int .i64 up) := xs_cell HXS6.out 0
                  have y1 : (w5.setCell ⟨X, 3, none⟩ (.slice (some ⟨gy, 0, none⟩) 1 ca)).cell? ⟨X, 1, none⟩ = some (.string nm) := xs_cell HXS6.out 1
                  have y2 : (w5.setCell ⟨X, 3, none⟩ (.slice (some ⟨gy, 0, none⟩) 1 ca)).cell? ⟨X, 2, none⟩ = some (.string ⟨#[]⟩) := xs_cell HXS6.out 2
                  have y3 : (w5.setCell ⟨X, 3, none⟩ (.slice (some ⟨gy, 0, none⟩) 1 ca)).cell? ⟨X, 3, none⟩ = some (.slice (some ⟨gy, 0, none⟩) 1 ca) := xs_cell HXS6.out 3
                  clear hox hix hoz hpz
                  by_cases hdz : d = 0
                  · have hdI : ¬ (0 : Int) < (d : Int) := by omega
                    clear hdz
                    go_wp2_with (first | (at_builtin; refine wpList_append_own _ rfl (.tmp 87) (.tmp 89) 24 rfl (G + 1) IT i0 (.agg #[.int .i64 0, .string ⟨#[]⟩, .string ⟨#[]⟩, .slice none 0 0]) 4 64 Tryz.underlying24 hi hz0 hz1 hz2 rfl (by decide) _ _ _ rfl (HOX.out.alloc _) ⟨w5.heap.size, 0, none⟩ 1 1 [.int .i64 up, .string nm, .string ⟨#[]⟩, .slice (some ⟨gy, 0, none⟩) 1 ca] rfl rfl (fun j u hj => gFour_newS w5 _ _ _ _ _ _ _ j u hj) (gItem_list _ _ _ _ _ _) (by unfold maxLen; omega) (by omega) (by simp; omega) ?_; intro v2 w9 hown2 hgrow2 _; obtain ⟨ad2, c2', hv2⟩ := gOwn_shape hown2; rw [hv2] at hown2 ⊢; clear hv2; have HO9 := hide hown2; have HG9 := hide hgrow2; clear hown2 hgrow2))
                    have HG := hide (gs_put HXS6.out.1 HOX.out HIX.out HXS6.out.2.2.1 (keepA_trans HXS6.out.2.2.2.2.2.2.2.2.2.1 HXS6.out.2.2.2.1) HO9.out HG9.out HAD.out (by omega) (by omega) (by decide) (by omega) (fun j hj => HXS6.out.2.2.2.2.2.2.1 j hj))
                    go_roundw
                    case rel => exact ⟨i - 1, ad2, m + 1, c2', _, rfl, by congr 1; omega, HG.out, by omega, by omega, by omega, by have := HCN.out; omega⟩
                    case measure => simp [intOf]; omega
                  · have hdI : (0 : Int) < (d : Int) := by omega
                    have HR9 := hide (rec_of HREC.out hdz)
                    go_wp2_with (first | (at_builtin; refine wpList_append_own _ rfl (.tmp 87) (.tmp 89) 24 rfl (G + 1) IT i0 (.agg #[.int .i64 0, .string ⟨#[]⟩, .string ⟨#[]⟩, .slice none 0 0]) 4 64 Tryz.underlying24 hi hz0 hz1 hz2 rfl (by decide) _ _ _ rfl (HOX.out.alloc _) ⟨w5.heap.size, 0, none⟩ 1 1 [.int .i64 up, .string nm, .string ⟨#[]⟩, .slice (some ⟨gy, 0, none⟩) 1 ca] rfl rfl (fun j u hj => gFour_newS w5 _ _ _ _ _ _ _ j u hj) (gItem_list _ _ _ _ _ _) (by unfold maxLen; omega) (by omega) (by simp; omega) ?_; intro v2 w9 hown2 hgrow2 _; obtain ⟨ad2, c2', hv2⟩ := gOwn_shape hown2; rw [hv2] at hown2 ⊢; clear hv2; have HO9 := hide hown2; have HG9 := hide hgrow2; clear hown2 hgrow2))
                    have HG := hide (gs_put HXS6.out.1 HOX.out HIX.out HXS6.out.2.2.1 (keepA_trans HXS6.out.2.2.2.2.2.2.2.2.2.1 HXS6.out.2.2.2.1) HO9.out HG9.out HAD.out (by omega) (by omega) (by decide) (by omega) (fun j hj => HXS6.out.2.2.2.2.2.2.1 j hj))
                    refine (d_once G a n cap zs 2 _ (by omega) (by omega) HG.out.1).mono ?_
                    rintro e w10 ⟨bo, rfl, hd⟩
                    have HG2 := hide (gs_drew HG.out hd)
                    clear hd
                    cases bo
                    · go_wp2
                      go_roundw
                      case rel => exact ⟨i - 1, ad2, m + 1, c2', _, rfl, by congr 1; omega, HG2.out, by omega, by omega, by omega, by have := HCN.out; omega⟩
                      case measure => simp [intOf]; omega
                    · go_wp2_with fail
                      refine (HR9.out w10 ad2 (m + 1) c2' _ (m : Int) (by omega) (by have := HCN.out; omega) HG2.out.1 HG2.out.2.1).mono ?_
                      rintro e w11 ⟨ad3, m3, c3, D3, rfl, hg3, hm3, hm4⟩
                      have HG3 := hide (gs_trans HG2.out hg3)
                      clear hg3
                      go_wp2
                      go_roundw
                      case rel => exact ⟨i - 1, ad3, m3, c3, D3, rfl, by congr 1; omega, HG3.out, by omega, by omega, by omega, by have := HCN.out; omega⟩
                      case measure => simp [intOf]; omega
                · obtain ⟨xs, hox, hix⟩ := HXS5.out.2.1
                  have HOX := hide hox
                  have HIX := hide (its_keep hix HXS5.out.2.2.2.1)
                  have HAD := hide (atD_own HOY5.out HPY.out)
                  have hca : ka ≤ ca := own_cap HOY5.out
                  clear hox hix
                  by_cases hdz : d = 0
                  · have hdI : ¬ (0 : Int) < (d : Int) := by omega
                    clear hdz
                    go_wp2_with (first | (at_builtin; refine wpList_append_own _ rfl (.tmp 87) (.tmp 89) 24 rfl (G + 1) IT i0 (.agg #[.int .i64 0, .string ⟨#[]⟩, .string ⟨#[]⟩, .slice none 0 0]) 4 64 Tryz.underlying24 hi hz0 hz1 hz2 rfl (by decide) _ _ _ rfl (HOX.out.alloc _) ⟨w5.heap.size, 0, none⟩ 1 1 [.int .i64 up, .string nm, .string ⟨#[]⟩, .slice sa ka ca] rfl rfl (fun j u hj => gFour_new w5 _ _ _ _ _ j u hj) (gItem_list _ _ _ _ _ _) (by unfold maxLen; omega) (by omega) (by simp; omega) ?_; intro v2 w9 hown2 hgrow2 _; obtain ⟨ad2, c2', hv2⟩ := gOwn_shape hown2; rw [hv2] at hown2 ⊢; clear hv2; have HO9 := hide hown2; have HG9 := hide hgrow2; clear hown2 hgrow2))
                    have HG := hide (gs_put HXS5.out.1 HOX.out HIX.out HXS5.out.2.2.1 (keepA_trans HXS5.out.2.2.2.2.2.2.2.2.2.1 HXS5.out.2.2.2.1) HO9.out HG9.out HAD.out hca (by omega) (by decide) (by omega) (fun j hj => HXS5.out.2.2.2.2.2.2.1 j hj))
                    go_roundw
                    case rel => exact ⟨i - 1, ad2, m + 1, c2', _, rfl, by congr 1; omega, HG.out, by omega, by omega, by omega, by have := HCN.out; omega⟩
                    case measure => simp [intOf]; omega
                  · have hdI : (0 : Int) < (d : Int) := by omega
                    have HR9 := hide (rec_of HREC.out hdz)
                    go_wp2_with (first | (at_builtin; refine wpList_append_own _ rfl (.tmp 87) (.tmp 89) 24 rfl (G + 1) IT i0 (.agg #[.int .i64 0, .string ⟨#[]⟩, .string ⟨#[]⟩, .slice none 0 0]) 4 64 Tryz.underlying24 hi hz0 hz1 hz2 rfl (by decide) _ _ _ rfl (HOX.out.alloc _) ⟨w5.heap.size, 0, none⟩ 1 1 [.int .i64 up, .string nm, .string ⟨#[]⟩, .slice sa ka ca] rfl rfl (fun j u hj => gFour_new w5 _ _ _ _ _ j u hj) (gItem_list _ _ _ _ _ _) (by unfold maxLen; omega) (by omega) (by simp; omega) ?_; intro v2 w9 hown2 hgrow2 _; obtain ⟨ad2, c2', hv2⟩ := gOwn_shape hown2; rw [hv2] at hown2 ⊢; clear hv2; have HO9 := hide hown2; have HG9 := hide hgrow2; clear hown2 hgrow2))
                    have HG := hide (gs_put HXS5.out.1 HOX.out HIX.out HXS5.out.2.2.1 (keepA_trans HXS5.out.2.2.2.2.2.2.2.2.2.1 HXS5.out.2.2.2.1) HO9.out HG9.out HAD.out hca (by omega) (by decide) (by omega) (fun j hj => HXS5.out.2.2.2.2.2.2.1 j hj))
                    refine (d_once G a n cap zs 2 _ (by omega) (by omega) HG.out.1).mono ?_
                    rintro e w10 ⟨bo, rfl, hd⟩
                    have HG2 := hide (gs_drew HG.out hd)
                    clear hd
                    cases bo
                    · go_wp2
                      go_roundw
                      case rel => exact ⟨i - 1, ad2, m + 1, c2', _, rfl, by congr 1; omega, HG2.out, by omega, by omega, by omega, by have := HCN.out; omega⟩
                      case measure => simp [intOf]; omega
                    · go_wp2_with fail
                      refine (HR9.out w10 ad2 (m + 1) c2' _ (m : Int) (by omega) (by have := HCN.out; omega) HG2.out.1 HG2.out.2.1).mono ?_
                      rintro e w11 ⟨ad3, m3, c3, D3, rfl, hg3, hm3, hm4⟩
                      have HG3 := hide (gs_trans HG2.out hg3)
                      clear hg3
                      go_wp2
                      go_roundw
                      case rel => exact ⟨i - 1, ad3, m3, c3, D3, rfl, by congr 1; omega, HG3.out, by omega, by omega, by omega, by have := HCN.out; omega⟩
                      case measure => simp [intOf]; omega
    · have hi00 : i = 0 := by omega
      subst hi00
      go_wp2
      go_ret
      exact ⟨ad, m, c, D, rfl, hgs, hmm, by rw [hcp]; omega⟩
end Go.Proofs.YthcggdjkfebemaaGreatDoor
