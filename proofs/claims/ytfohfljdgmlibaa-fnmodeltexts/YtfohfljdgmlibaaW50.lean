/-
  Texts put together: SpQ, MxW.
-/
import Derived.Test.YtfohfljdgmlibaaW18
import Derived.Test.YtfohfljdgmlibaaW48
import Derived.Test.YtfohfljdgmlibaaW34
import Derived.Test.YtfohfljdgmlibaaW49
/-
  Contracts of the laws' helpers: sameInts, and sameParts where the rows are alike.
-/
namespace Go.Proofs.Ytfohfljdgmlibaa
open Go.RowKit Go.Joins
set_option linter.unusedVariables false
set_option linter.unusedSimpArgs false
set_option linter.unusedVariables false
set_option linter.unusedSimpArgs false
set_option maxHeartbeats 1000000 in
theorem l_sameInts (a1 a2 : Option Addr) (n m c1 c2 : Nat) (xs ys : List Int) (w : World) (hx : xs.length = n) (hy : ys.length = m) (hn : n ≤ 1048576) (hm : m ≤ 1048576) (h1 : RowAt .i64 w a1 xs w.heap.size) (h2 : RowAt .i64 w a2 ys w.heap.size) :
    Calls Try.prog 30 #[.slice a1 n c1, .slice a2 m c2] w fun e w' => e = .returned (.bool (decide (xs = ys))) ∧ ∃ q, w' = w.drewN q := by
  have HX : Hid (xs.length = n) := hx
  have HY : Hid (ys.length = m) := hy
  have H1 : Hid (RowAt .i64 w a1 xs w.heap.size) := h1
  have H2 : Hid (RowAt .i64 w a2 ys w.heap.size) := h2
  clear hx hy h1 h2
  by_cases hnm : n = m
  · subst hnm
    go_enter Try.func30, Try.ntmps30
    go_wp2
    go_loopw [5] (fun i wr => ∃ k : Nat, k ≤ n ∧ i = .int .i64 k ∧ (∃ q, wr = w.drewN q) ∧ ∀ j, j < k → xs[j]?.getD 0 = ys[j]?.getD 0) (fun i _ => n - (intOf i).toNat)
    case atStart => exact ⟨0, Nat.zero_le _, rfl, ⟨0, rfl⟩, fun j h => by omega⟩
    case round =>
      obtain ⟨k, hk, rfl, ⟨q, rfl⟩, hsame⟩ := hrel
      have HS := hide hsame
      clear hsame
      by_cases hlt : k < n
      · obtain ⟨b, off, rfl, hbs, hc⟩ := rowAt_cell H1.out k (by rw [HX.out]; exact hlt)
        obtain ⟨b', off', rfl, hbs', hc'⟩ := rowAt_cell H2.out k (by rw [HY.out]; exact hlt)
        have hc1 := hc k (by rw [HX.out]; exact hlt)
        have hc2 := hc' k (by rw [HY.out]; exact hlt)
        have hi : (k : Int) < (n : Int) := by omega
        have hi0 : (0 : Int) ≤ (k : Int) := by omega
        clear hc hc'
        cases hb : (xs[k]?.getD 0 != ys[k]?.getD 0)
        · go_wp2
          go_quiet (fail)
          go_wp2
          go_roundw
          case rel =>
            refine ⟨k + 1, by omega, by go_num, ⟨q + nq, by simp⟩, fun j hj => ?_⟩
            by_cases e : j = k
            · subst e; simpa using hb
            · exact HS.out j (by omega)
          case measure => simp [intOf]; omega
        · go_wp2
          go_quiet (fail)
          go_wp2
          go_ret
          exact ⟨ret_bool (eqB_f _ _ (fun e => by rw [e] at hb; simp at hb)), q + nq, by simp⟩
      · go_wp2
        go_ret
        exact ⟨ret_bool (eqB_t _ _ (get_ext xs ys (by rw [HX.out, HY.out]) (fun j hj => HS.out j (by have := HX.out; omega)))), _, rfl⟩
  · have hne : ((n : Int) != (m : Int)) = true := by simp; omega
    go_enter Try.func30, Try.ntmps30
    go_wp2
    go_ret
    exact ⟨ret_bool (eqB_f _ _ (fun e => by have := HX.out; have := HY.out; subst e; omega)), 0, rfl⟩

theorem l_sameYes (a1 a2 : Option Addr) (n c1 c2 : Nat) (xs : List Int) (w : World) (hx : xs.length = n) (hn : n ≤ 1048576) (h1 : RowAt .i64 w a1 xs w.heap.size) (h2 : RowAt .i64 w a2 xs w.heap.size) :
    Calls Try.prog 30 #[.slice a1 n c1, .slice a2 n c2] w fun e w' => e = .returned (.bool true) ∧ Below w.heap.size w w' := by
  refine (l_sameInts a1 a2 n n c1 c2 xs xs w hx hx hn hn h1 h2).mono ?_
  rintro e w' ⟨rfl, q, rfl⟩
  exact ⟨by rw [decide_eq_true rfl], drewN_below9 _ _⟩
set_option maxRecDepth 100000 in
set_option maxHeartbeats 4000000 in
theorem l_sameParts (D : Pn) (n : Nat) (a1 a2 : Option Addr) (c1 c2 : Nat) (w : World) (hX : D.n = n) (hn : n ≤ 1048576) (hnr : ∀ j, j < n → (D.KL j).length ≤ 1048576) (h1 : PnAt w a1 D w.heap.size) (h2 : PnAt w a2 D w.heap.size) :
    Calls Try.prog 12 #[.slice a1 n c1, .slice a2 n c2] w fun e w' => e = .returned (.bool true) ∧ Below w.heap.size w w' := by
  have HX := hide hX
  have HNR := hide hnr
  have H1 := hide h1
  have H2 := hide h2
  clear h1 h2 hnr hX
  go_enter Try.func12, Try.ntmps12
  go_wp2
  go_loopw [5] (fun i wr => ∃ k : Nat, k ≤ n ∧ i = .int .i64 k ∧ Below w.heap.size w wr) (fun i _ => n - (intOf i).toNat)
  case atStart => exact ⟨0, Nat.zero_le _, rfl, Below.refl _ _⟩
  case round =>
    obtain ⟨k, hk, rfl, hb⟩ := hrel
    by_cases hlt : k < n
    · obtain ⟨b, off, rfl, hbs, hc⟩ := H1.out (by rw [HX.out]; omega)
      obtain ⟨b', off', rfl, hbs', hc'⟩ := H2.out (by rw [HX.out]; omega)
      obtain ⟨ad, cp, hk1, hr1, -⟩ := hc k (by rw [HX.out]; omega)
      obtain ⟨ad', cp', hk2, hr2, -⟩ := hc' k (by rw [HX.out]; omega)
      have hnk := HNR.out k hlt
      have XX : Hid (EQP w wr b (off + k * 4) b' (off' + k * 4) D k ad cp ad' cp') := ⟨hb, ⟨hbs, hbs'⟩, pnCells_go hk1 hbs hb, pnCells_go hk2 hbs' hb, rwAt_go hr1 hb, rwAt_go hr2 hb⟩
      have hi : (k : Int) < (n : Int) := by omega
      have hi0 : (0 : Int) ≤ (k : Int) := by omega
      clear hc hc' hb hk1 hk2 hr1 hr2
      go_wp2
      go_region_held3 (fun w' => EQP w w' b (off + k * 4) b' (off' + k * 4) D k ad cp ad' cp' ∧ (w'.cell? ⟨b, off + k * 4, none⟩ = some (.int .i64 (D.K k)) ∧ w'.cell? ⟨b, off + k * 4 + 1, none⟩ = some (.string (D.NM k)) ∧ w'.cell? ⟨b, off + k * 4 + 2, none⟩ = some (.slice ad (D.KL k).length cp) ∧ w'.cell? ⟨b, off + k * 4 + 3, none⟩ = some (.int .i64 (D.OC k))) ∧ w'.cell? ⟨b', off' + k * 4, none⟩ = some (.int .i64 (D.K k)) ∧ w'.cell? ⟨b', off' + k * 4 + 1, none⟩ = some (.string (D.NM k)) ∧ w'.cell? ⟨b', off' + k * 4 + 2, none⟩ = some (.slice ad' (D.KL k).length cp') ∧ w'.cell? ⟨b', off' + k * 4 + 3, none⟩ = some (.int .i64 (D.OC k))) (first | assumption | exact eqp_all (eqp_drew XX.out) | exact eqp_all XX.out) (first | (go_at_call 30; refine (l_sameYes _ _ _ _ _ (D.KL k) _ rfl hnk (eqp_r1 (And.left (by assumption))) (eqp_r2 (And.left (by assumption)))).mono ?_; rintro e w2 ⟨rfl, hb2⟩; have X2 := hide (eqp_go (eqp_drew XX.out) hb2); replace XX := X2; clear X2 hb2))
      all_goals
        go_wp2
        go_roundw
        case rel => exact ⟨k + 1, by omega, by go_num, XX.out.1⟩
        case measure => simp [intOf]; omega
    · go_wp2
      go_ret
      exact ⟨rfl, hb⟩
end Go.Proofs.Ytfohfljdgmlibaa

/-
  The walk of FnModelTexts: whatever the code is, a right model comes back from its text, and what is read has just the bytes that it was read from.
-/
namespace Go.Proofs.Ytfohfljdgmlibaa
open Go.RowKit Go.Joins
set_option linter.unusedVariables false
set_option linter.unusedSimpArgs false
theorem src_belowX {w w' : World} {a : Option Addr} {zs : List Int} (h : SrcAt w a zs w.heap.size) (hb : Below w.heap.size w w') : SrcAt w' a zs w'.heap.size := by
  intro hne
  obtain ⟨b, off, e, hb1, hc⟩ := h hne
  exact ⟨b, off, e, Nat.lt_of_lt_of_le hb1 hb.size, fun j hj => (hb.cell (p := ⟨b, off + j, none⟩) hb1).trans (hc j hj)⟩
/-- What a drawn model's text is read as. -/
theorem mx_back (D : Pn) (w : World) : Calls Try.prog 9 #[.string (mtV D)] w fun e w' => (pkB D = true ∧ ∃ ad c, e = .returned (.tuple #[.slice ad D.n c, .bool true]) ∧ PO w.heap.size (fun j => w.heap.size ≤ j) w' ad D.n c D ∧ Below w.heap.size w w') ∨ (pkB D = false ∧ e = .returned (.tuple #[.slice none 0 0, .bool false]) ∧ Below w.heap.size w w') := by
  have hz := mtV_size D
  refine (i_model (mtV D) w (by omega)).mono ?_
  intro e w' ha
  cases hp : pkB D
  · refine .inr ⟨rfl, ?_⟩
    rcases ha with ⟨t, ad, m, c, h1, h2, -⟩ | ⟨-, h2, h3⟩
    · rw [mtV_no hp] at h1
      have := (rm_small h1 h2).2
      simp at this
    · exact ⟨h2, h3⟩
  · refine .inl ⟨rfl, ?_⟩
    obtain ⟨r1, r2, r3, r4⟩ := rm_text hp
    rw [mtV_yes hp] at ha
    rcases ha with ⟨t, ad, m, c, h1, h2, h3, h4, h5, h6⟩ | ⟨h1, -⟩
    · obtain ⟨e9, -⟩ := rd_one _ t _ _ _ r1 h1
      subst e9
      have hm : m = D.n := by omega
      subst hm
      exact ⟨ad, c, h3, po_congr h4 r3.symm (fun j hj => (r2.2 j (by omega)).1) (fun j hj => (r2.2 j (by omega)).2.1) (fun j hj => (r2.2 j (by omega)).2.2.1) (fun j hj => (r2.2 j (by omega)).2.2.2), h6⟩
    · have := h1 _ r1
      rw [r4] at this
      cases this
set_option maxRecDepth 100000 in
set_option maxHeartbeats 8000000 in
theorem texts_walk (a : Option Addr) (n cap : Nat) (zs : List Int) (w : World) (hl : zs.length = n) (hz : ∀ x ∈ zs, 0 ≤ x ∧ x ≤ 255) (hn : n ≤ 1048576) (hs : SrcAt w a zs w.heap.size) :
    Calls Try.prog 3 #[.slice a n cap] w fun e w' => e = .returned (.bool true) ∧ Below w.heap.size w w' := by
  have HS := hide hs
  have HL := hide hl
  have HZ := hide hz
  have hn' : ¬ (1048576 : Int) < (n : Int) := by omega
  clear hs hl hz
  go_enter Try.func3, Try.ntmps3
  go_wp2_with (go_at_call 6; go_in)
  refine (d_modelText a n cap zs _ HL.out HZ.out hn HS.out).mono ?_
  rintro e w1 ⟨ad, m, c, D, rfl, hD, hb1⟩
  have HD1 := hide hD
  have HB1 := hide hb1
  have hDn := hD.1
  subst hDn
  clear hD hb1
  have CS := hide (fun (W : World) (h : DmX W ad D.n D) => s_modeltext D D.n ad c W h.1 h.2.1 h.2.2.2)
  have CP := hide (fun (W : World) (h : DmX W ad D.n D) => i_particle D D.n ad c W h.1 h.2.1 h.2.2.2)
  have CI := hide (i_modeltext D D.n ad c w1 HD1.out.1 HD1.out.2.1 HD1.out.2.2.2)
  have CR := hide (fun (W : World) => mx_back D W)
  obtain ⟨T, hT⟩ : ∃ T, mtV D = T := ⟨_, rfl⟩
  rw [hT] at CS CI CR
  clear hT
  go_wp2_with fail
  refine CI.out.mono ?_
  rintro e w2 ⟨rfl, hb2⟩
  have HB2 := hide (HB1.out.trans (hb2.mono HB1.out.size))
  have HD2 := hide (dmx_go HD1.out hb2)
  clear hb2 CI HD1
  cases hpk : pkB D
  · rw [hpk] at CP
    go_wp2_with fail
    refine (CR.out _).mono ?_
    rintro e w3 (⟨h, -⟩ | ⟨-, rfl, hb3⟩)
    · rw [hpk] at h; cases h
    have HB3 := hide (HB2.out.trans (hb3.mono HB2.out.size))
    have HD3 := hide (dmx_go HD2.out hb3)
    clear hb3 HD2 CR hpk
    go_wp2_with fail
    refine (CS.out _ HD3.out).mono ?_
    rintro e w4 ⟨rfl, hb4⟩
    have HB4 := hide (HB3.out.trans (hb4.mono HB3.out.size))
    have HD4 := hide (dmx_go HD3.out hb4)
    clear hb4 HD3 CS
    go_wp2_with fail
    refine (CP.out _ HD4.out).mono ?_
    rintro e w5 ⟨rfl, hb5⟩
    have HB5 := hide (HB4.out.trans (hb5.mono HB4.out.size))
    clear hb5 HD4 CP HB1 HB2 HB3 HB4
    go_wp2_with fail
    refine (d_readModel a n cap zs _ HL.out HZ.out hn (src_belowX HS.out HB5.out)).mono ?_
    rintro e w7 ⟨t, rfl, ht, hb7⟩
    have HB7 := hide (HB5.out.trans (hb7.mono HB5.out.size))
    clear hb7 HB5
    obtain ⟨V, okV, vn, hvn, hkl, hu, ho⟩ := md_uni t
    have CX := hide (fun (W : World) => (x_model t W (by omega)).mono (hu W))
    have CJ := hide (fun (W : World) => (i_model t W (by omega)).mono (hu W))
    unfold MdU at CX CJ
    have HVN := hide hvn
    have HO := hide ho
    clear hvn hu ho
    go_wp2_with fail
    refine (CJ.out _).mono ?_
    rintro e w8 ⟨adx, cx, rfl, hox, hb8⟩
    have HB8 := hide (HB7.out.trans (hb8.mono HB7.out.size))
    have OX8 := hide hox
    clear hb8 hox
    go_wp2_with fail
    refine (CX.out _).mono ?_
    rintro e w9 ⟨ady, cy, rfl, -, hb9⟩
    have HB9 := hide (HB8.out.trans (hb9.mono HB8.out.size))
    have OX9 := hide (po_below OX8.out hb9)
    clear hb9 OX8 CX CJ
    cases okV
    · go_wp2
      go_ret
      exact ⟨rfl, HB9.out⟩
    · have hT9 : mtV V = t := by
        rcases HO.out with ⟨-, t9, h1, h2, rfl⟩ | ⟨h, -⟩
        · rw [mtV_yes h2, rm_back h1 h2]
        · cases h
      have CM := hide (i_modeltext V vn adx cx w9 HVN.out (po_tot OX9.out (by omega)) (po_at OX9.out).2)
      rw [hT9] at CM
      clear hT9 HO
      go_wp2_with fail
      refine CM.out.mono ?_
      rintro e w10 ⟨rfl, hb10⟩
      have HB10 := hide (HB9.out.trans (hb10.mono HB9.out.size))
      clear hb10
      go_wp2
      go_ret
      exact ⟨rfl, HB10.out⟩
  · rw [hpk] at CP
    go_wp2_with fail
    refine (CR.out _).mono ?_
    rintro e w3 (⟨-, adq, cq, rfl, hoq, hb3⟩ | ⟨h, -⟩)
    rotate_left
    · rw [hpk] at h; cases h
    have HB3 := hide (HB2.out.trans (hb3.mono HB2.out.size))
    have HD3 := hide (dmx_go HD2.out hb3)
    have OQ3 := hide hoq
    clear hb3 HD2 CR hoq
    go_wp2_with fail
    refine (CS.out _ HD3.out).mono ?_
    rintro e w4 ⟨rfl, hb4⟩
    have HB4 := hide (HB3.out.trans (hb4.mono HB3.out.size))
    have HD4 := hide (dmx_go HD3.out hb4)
    have OQ4 := hide (po_below OQ3.out hb4)
    clear hb4 HD3 CS OQ3
    go_wp2_with fail
    refine (CP.out _ HD4.out).mono ?_
    rintro e w5 ⟨rfl, hb5⟩
    have HB5' := hide (HB4.out.trans (hb5.mono HB4.out.size))
    have HD5 := hide (dmx_go HD4.out hb5)
    have OQ5 := hide (po_below OQ4.out hb5)
    have hle : D.n ≤ 40 := HD5.out.2.2.1
    clear hb5 HD4 CP OQ4
    go_wp2_with fail
    refine (l_sameParts D D.n adq ad cq c _ rfl (by omega) (fun j hj => by have := (pn_sz HD5.out.2.1).2 j hj; omega) (po_at OQ5.out).2 HD5.out.2.2.2).mono ?_
    rintro e w6 ⟨rfl, hb6⟩
    have HB5 := hide (HB5'.out.trans (hb6.mono HB5'.out.size))
    clear hb6 HB5' HD5 OQ5 HB1 HB2 HB3 HB4 hpk hle
    go_wp2_with fail
    refine (d_readModel a n cap zs _ HL.out HZ.out hn (src_belowX HS.out HB5.out)).mono ?_
    rintro e w7 ⟨t, rfl, ht, hb7⟩
    have HB7 := hide (HB5.out.trans (hb7.mono HB5.out.size))
    clear hb7 HB5
    obtain ⟨V, okV, vn, hvn, hkl, hu, ho⟩ := md_uni t
    have CX := hide (fun (W : World) => (x_model t W (by omega)).mono (hu W))
    have CJ := hide (fun (W : World) => (i_model t W (by omega)).mono (hu W))
    unfold MdU at CX CJ
    have HVN := hide hvn
    have HO := hide ho
    clear hvn hu ho
    go_wp2_with fail
    refine (CJ.out _).mono ?_
    rintro e w8 ⟨adx, cx, rfl, hox, hb8⟩
    have HB8 := hide (HB7.out.trans (hb8.mono HB7.out.size))
    have OX8 := hide hox
    clear hb8 hox
    go_wp2_with fail
    refine (CX.out _).mono ?_
    rintro e w9 ⟨ady, cy, rfl, -, hb9⟩
    have HB9 := hide (HB8.out.trans (hb9.mono HB8.out.size))
    have OX9 := hide (po_below OX8.out hb9)
    clear hb9 OX8 CX CJ
    cases okV
    · go_wp2
      go_ret
      exact ⟨rfl, HB9.out⟩
    · have hT9 : mtV V = t := by
        rcases HO.out with ⟨-, t9, h1, h2, rfl⟩ | ⟨h, -⟩
        · rw [mtV_yes h2, rm_back h1 h2]
        · cases h
      have CM := hide (i_modeltext V vn adx cx w9 HVN.out (po_tot OX9.out (by omega)) (po_at OX9.out).2)
      rw [hT9] at CM
      clear hT9 HO
      go_wp2_with fail
      refine CM.out.mono ?_
      rintro e w10 ⟨rfl, hb10⟩
      have HB10 := hide (HB9.out.trans (hb10.mono HB9.out.size))
      clear hb10
      go_wp2
      go_ret
      exact ⟨rfl, HB10.out⟩
end Go.Proofs.Ytfohfljdgmlibaa
