/-
  Texts put together: RsG92, RsGel.
-/
import Derived.Test.YtepommmmmfaihaaDoorC37
/-
  Contract of the specification's reader of expressions: an atom behind a backslash.
-/
namespace Go.Proofs.YtepommmmmfaihaaDoor
open Go.RowKit Go.Joins
set_option linter.unusedVariables false
set_option linter.unusedSimpArgs false
set_option maxRecDepth 100000 in
set_option maxHeartbeats 8000000 in
theorem s_atom92 (n : Nat) (hC : ∀ m, m < n → ChS m) (B R : Nat) (C : List Int) (k : Nat) (X : List Nd) (w : World) (f : Nat) (hlt : k < C.length) (hn : C.length - k ≤ n) (hg : 4 * (C.length - k) + 1 ≤ f + 1) (hX : X.length ≤ 120) (h : SD (fun j => B ≤ j) B R w C k false X) (c : Int) (hr : C.drop k = c :: C.drop (k + 1)) (e1 : ¬ c = 40) (e2 : ¬ c = 91) (e3 : ¬ c = 46) (e4 : c = 92) :
    Calls Tryd.prog 65 #[.pointer (some ⟨R, 0, none⟩)] w (RaS B R C w (rdA (f + 1) (c :: C.drop (k + 1)) X)) := by
  have H0 := hide h
  have hB := sd_lt h
  have hC4 := h.1.2.2
  obtain ⟨b, off, tc, ad, cp, c0, c1, c2, c3, f1, f2, ck, -⟩ := sd_here h hr
  have hch := chB_cases (sd_ch h c (by rw [← List.take_append_drop k C, hr]; simp))
  have hd : decide ((k : Int) ≥ (C.length : Int)) = false := decide_eq_false (by omega)
  have hi0 : (0 : Int) ≤ (k : Int) := by omega
  have hi1 : (k : Int) < (C.length : Int) := by omega
  have hi2 : ¬ (C.length : Int) ≤ (k : Int) := by omega
  have hw : IntKind.i64.wrap ((k : Int) + 1) = (k : Int) + 1 := by rw [IntKind.wrap_i64]; omega
  clear h hr
  have b1 : (c == 40) = false := by simp [e1]
  have b2 : (c == 91) = false := by simp [e2]
  have b3 : (c == 46) = false := by simp [e3]
  have HE : Hid (rdA (f + 1) (c :: C.drop (k + 1)) X = bsP (C.drop (k + 1)) X) := hide (by rw [rdA, if_neg e1, if_neg e2, if_neg e3, if_pos e4])
  subst e4
  clear e1 b1 e2 b2 e3 b3
  go_enter Tryd.func65, Tryd.ntmps65
  go_wp2
  go_quiet (fail)
  revert nq; intro n1
  have H1 := hide (sd_k1 (sd_dr H0.out n1) hlt)
  have HB1 : Hid (Below B w ((w.drewN n1).setCell ⟨R, 1, none⟩ (.int .i64 ((k : Int) + 1)))) := hide (sd_kpB H0.out (kp_trS (kp_drewN w _) (kp_r _ R 1 _)))
  go_wp2_with fail
  obtain ⟨W, hW⟩ : ∃ W, (w.drewN n1).setCell ⟨R, 1, none⟩ (.int .i64 ((k : Int) + 1)) = W := ⟨_, rfl⟩
  rw [hW] at H1 HB1 ⊢
  clear hW c0 c1 c2 c3 f1 f2 ck hd hi0 hi1 hi2 hw H0
  cases hr2 : C.drop (k + 1) with
  | nil =>
    have hk : C.length ≤ k + 1 := List.drop_eq_nil_iff.1 hr2
    have E : Hid (rdA (f + 1) (92 :: C.drop (k + 1)) X = none) := hide (by rw [HE.out, hr2]; rfl)
    obtain ⟨ta, tc, ad, cp, ⟨c0, c1, c2, c3⟩, ff, -⟩ := sd_cells H1.out
    have f2 := ff 2
    have ek : ((k + 1 : Nat) : Int) = (k : Int) + 1 := by omega
    rw [ek] at c1
    have hd : decide ((k : Int) + 1 ≥ (C.length : Int)) = true := decide_eq_true (by omega)
    have hi2 : (C.length : Int) ≤ (k : Int) + 1 := by omega
    clear ek ff hr2 HE
    go_quiet (fail)
    go_wp2
    go_ret
    exact ras_bad E.out (sd_b (sd_dr H1.out _) true) (HB1.out.trans (sd_kpB H1.out (kp_trS (kp_drewN W _) (kp_r _ R 2 _))))
  | cons d r2 =>
    obtain ⟨b, off, tc, ad, cp, c0, c1, c2, c3, f1, f2, ck, hlt2⟩ := sd_here H1.out hr2
    obtain ⟨-, hr3, -⟩ := drop_at hr2
    have hdc := chB_cases (sd_ch H1.out d (by rw [← List.take_append_drop (k + 1) C, hr2]; simp))
    have HE1 : Hid (rdA (f + 1) (92 :: C.drop (k + 1)) X = bsP (d :: r2) X) := hide (by rw [HE.out, hr2])
    have HR3 := hide hr3
    have ek : ((k + 1 : Nat) : Int) = (k : Int) + 1 := by omega
    rw [ek] at c1
    have hd : decide ((k : Int) + 1 ≥ (C.length : Int)) = false := decide_eq_false (by omega)
    have hi0 : (0 : Int) ≤ (k : Int) + 1 := by omega
    have hi1 : (k : Int) + 1 < (C.length : Int) := by omega
    have hi2 : ¬ (C.length : Int) ≤ (k : Int) + 1 := by omega
    have hi3 : ((k : Int) + 1).toNat = k + 1 := by omega
    have hw : IntKind.i64.wrap ((k : Int) + 1 + 1) = (k : Int) + 1 + 1 := by rw [IntKind.wrap_i64]; omega
    clear ek hr2 hr3 HE
    go_quiet (fail)
    revert nq; intro n1
    go_wp2
    go_quiet (fail)
    revert nq; intro n2
    have H2 := hide (sd_k1 (sd_dr H1.out (n1 + n2)) hlt2)
    have HB2 : Hid (Below B w ((W.drewN (n1 + n2)).setCell ⟨R, 1, none⟩ (.int .i64 ((k : Int) + 1 + 1)))) := hide (HB1.out.trans (sd_kpB H1.out (kp_trS (kp_drewN W _) (kp_r _ R 1 _))))
    have ek : ((k + 1 : Nat) : Int) + 1 = (k : Int) + 1 + 1 := by omega
    rw [ek] at H2
    go_wp2_with fail
    obtain ⟨W2, hW2⟩ : ∃ W2, (W.drewN (n1 + n2)).setCell ⟨R, 1, none⟩ (.int .i64 ((k : Int) + 1 + 1)) = W2 := ⟨_, rfl⟩
    rw [hW2] at H2 HB2 ⊢
    clear hW2 c0 c1 c2 c3 f1 f2 ck hd hi0 hi1 hi2 hi3 hw ek H1 HB1
    refine (s_many d W2).mono ?_
    intro e w3 hm
    have hB2 := sd_lt H2.out
    by_cases hl : 0 < (ltR d).length
    · unfold MnA at hm
      rw [if_pos hl] at hm
      obtain ⟨na, rfl, ho, hk, hb3⟩ := hm
      have E : Hid (rdA (f + 1) (92 :: C.drop (k + 1)) X = some (C.drop (k + 1 + 1), X ++ [clN (capB d) (ltR d)])) := hide (by rw [HE1.out, bsP, if_pos hl, HR3.out])
      have hl5 : (ltR d).length ≤ 500 := by unfold ltR; split <;> (try split) <;> (try split) <;> simp
      obtain ⟨L, hL⟩ : ∃ L, ltR d = L := ⟨_, rfl⟩
      obtain ⟨cb, hcb⟩ : ∃ cb, capB d = cb := ⟨_, rfl⟩
      rw [hL, hcb] at E
      rw [hL] at ho hk hl hl5
      have bA := (Below.refl w3.heap.size w3).alloc (Nat.le_refl _) (.cells #[.int .i64 2, .bool cb, .slice na L.length L.length, .int .i64 0, .int .i64 0, .int .i64 0, .int .i64 0] 43)
      have HS4 := hide (sd_bl (sd_bl (sd_small H2.out) hb3) bA)
      have HB4 := hide (HB2.out.trans ((hb3.mono hB2).trans (bA.mono (by have := hb3.size; omega))))
      have HO4 := hide (own_kp ho (kp_alloc (S := fun _ => False) w3 (.cells #[.int .i64 2, .bool cb, .slice na L.length L.length, .int .i64 0, .int .i64 0, .int .i64 0, .int .i64 0] 43)) (fun _ _ x => x))
      have HA := hide (s_add B R C (k + 1 + 1) X (clN cb L) na L.length _ hX hl5 HS4.out (fun j hj => hj.1) HO4.out (fun q hq => ⟨Nat.le_trans hB2 (hk q hq), fun h10 => by have := hk q hq; have := h10.2; omega⟩))
      rw [hL, hcb]
      clear hL hcb ho hk hb3 bA HS4 HO4 HE1 HR3
      go_wp2_with fail
      refine HA.out.mono ?_
      rintro e w5 ⟨rfl, h5, hb5⟩
      have HQ : Hid (RaS B R C w (rdA (f + 1) (92 :: C.drop (k + 1)) X) (.returned (.int .i64 (X.length : Int))) w5) := hide (ras_add E.out h5 (HB4.out.trans hb5))
      clear h5 hb5
      go_wp2
      go_ret
      exact HQ.out
    · unfold MnA at hm
      rw [if_neg hl] at hm
      obtain ⟨rfl, hb3⟩ := hm
      have bA := (Below.refl w3.heap.size w3).alloc (Nat.le_refl _) (.cells #[.int .i64 0, .bool false, .slice none 0 0, .int .i64 0, .int .i64 0, .int .i64 0, .int .i64 0] 43)
      have HS4 := hide (sd_bl (sd_bl H2.out hb3) bA)
      have HB4 := hide (HB2.out.trans ((hb3.mono hB2).trans (bA.mono (by have := hb3.size; omega))))
      have CE := hide (fun W => s_esc d W)
      have HE2 : Hid (rdA (f + 1) (92 :: C.drop (k + 1)) X = match esP (d :: r2) with
        | none => none
        | some (d, r') => some (r', X ++ [clsN d])) := hide (by rw [HE1.out, bsP, if_neg hl]; rfl)
      clear hb3 bA HE1
      rcases es_of (c := d) (r := r2) (by omega) with ⟨he, hn9⟩ | ⟨he, hn9⟩
      · have E : Hid (rdA (f + 1) (92 :: C.drop (k + 1)) X = none) := hide (by rw [HE2.out, he])
        obtain ⟨x, hx⟩ : ∃ x, esC d = x := ⟨_, rfl⟩
        rw [hx] at CE hn9
        clear HE2 he hx
        go_wp2_with fail
        refine (CE.out _).mono ?_
        rintro e w9 ⟨rfl, h9⟩
        rw [h9]
        clear h9 w9
        obtain ⟨_, _, _, _, ⟨-, -, d2, -⟩, ff, -⟩ := sd_cells HS4.out
        have ff2 := ff 2
        obtain ⟨W5, hW5⟩ : ∃ W5, w3.alloc (.cells #[.int .i64 0, .bool false, .slice none 0 0, .int .i64 0, .int .i64 0, .int .i64 0, .int .i64 0] 43) = W5 := ⟨_, rfl⟩
        rw [hW5] at HS4 HB4 d2 ff2 ⊢
        clear hW5 ff
        go_wp2
        go_ret
        exact ras_bad E.out (sd_b HS4.out true) (HB4.out.trans (sd_kpB HS4.out (kp_r _ R 2 _)))
      · have E : Hid (rdA (f + 1) (92 :: C.drop (k + 1)) X = some (C.drop (k + 1 + 1), X ++ [clsN (esC d)])) := hide (by have h9 := HE2.out; rw [he, HR3.out] at h9; exact h9)
        obtain ⟨x, hx⟩ : ∃ x, esC d = x := ⟨_, rfl⟩
        rw [hx] at CE hn9 E
        have hn10 : ¬ x < 0 := by omega
        clear HE2 he hx
        go_wp2_with fail
        refine (CE.out _).mono ?_
        rintro e w9 ⟨rfl, h9⟩
        rw [h9]
        clear h9 w9
        obtain ⟨W5, hW5⟩ : ∃ W5, w3.alloc (.cells #[.int .i64 0, .bool false, .slice none 0 0, .int .i64 0, .int .i64 0, .int .i64 0, .int .i64 0] 43) = W5 := ⟨_, rfl⟩
        rw [hW5] at HS4 HB4 ⊢
        clear hW5
        go_wp2_with fail
        refine (s_addL false [(x, x)] #[.int .i64 x, .int .i64 x] 1 rfl rfl (by omega) hX HS4.out).mono ?_
        rintro e w6 ⟨rfl, h6, hb6⟩
        have HQ : Hid (RaS B R C w (rdA (f + 1) (92 :: C.drop (k + 1)) X) (.returned (.int .i64 (X.length : Int))) w6) := hide (ras_add E.out h6 (HB4.out.trans hb6))
        clear h6 hb6
        go_wp2
        go_ret
        exact HQ.out
end Go.Proofs.YtepommmmmfaihaaDoor

/-
  Contract of the specification's reader of expressions: an atom: a sign that stands for itself.
-/
namespace Go.Proofs.YtepommmmmfaihaaDoor
open Go.RowKit Go.Joins
set_option linter.unusedVariables false
set_option linter.unusedSimpArgs false
set_option maxRecDepth 100000 in
set_option maxHeartbeats 8000000 in
theorem s_atomel (n : Nat) (hC : ∀ m, m < n → ChS m) (B R : Nat) (C : List Int) (k : Nat) (X : List Nd) (w : World) (f : Nat) (hlt : k < C.length) (hn : C.length - k ≤ n) (hg : 4 * (C.length - k) + 1 ≤ f + 1) (hX : X.length ≤ 120) (h : SD (fun j => B ≤ j) B R w C k false X) (c : Int) (hr : C.drop k = c :: C.drop (k + 1)) (e1 : ¬ c = 40) (e2 : ¬ c = 91) (e3 : ¬ c = 46) (e4 : ¬ c = 92) :
    Calls Tryd.prog 65 #[.pointer (some ⟨R, 0, none⟩)] w (RaS B R C w (rdA (f + 1) (c :: C.drop (k + 1)) X)) := by
  have H0 := hide h
  have hB := sd_lt h
  have hC4 := h.1.2.2
  obtain ⟨b, off, tc, ad, cp, c0, c1, c2, c3, f1, f2, ck, -⟩ := sd_here h hr
  have hch := chB_cases (sd_ch h c (by rw [← List.take_append_drop k C, hr]; simp))
  have hd : decide ((k : Int) ≥ (C.length : Int)) = false := decide_eq_false (by omega)
  have hi0 : (0 : Int) ≤ (k : Int) := by omega
  have hi1 : (k : Int) < (C.length : Int) := by omega
  have hi2 : ¬ (C.length : Int) ≤ (k : Int) := by omega
  have hw : IntKind.i64.wrap ((k : Int) + 1) = (k : Int) + 1 := by rw [IntKind.wrap_i64]; omega
  clear h hr
  have b1 : (c == 40) = false := by simp [e1]
  have b2 : (c == 91) = false := by simp [e2]
  have b3 : (c == 46) = false := by simp [e3]
  have b4 : (c == 92) = false := by simp [e4]
  have HE : Hid (rdA (f + 1) (c :: C.drop (k + 1)) X = if isS sgO c = true then none else some (C.drop (k + 1), X ++ [clsN c])) := hide (by rw [rdA, if_neg e1, if_neg e2, if_neg e3, if_neg e4])
  have HS := hide (fun W => s_meta c W)
  obtain ⟨q, hq⟩ : ∃ q, isS sgO c = q := ⟨_, rfl⟩
  rw [hq] at HS HE
  clear hq e1 e2 e3 e4
  go_enter Tryd.func65, Tryd.ntmps65
  go_wp2
  go_quiet (fail)
  revert nq; intro n1
  have H1 := hide (sd_k1 (sd_dr H0.out n1) hlt)
  have HB1 : Hid (Below B w ((w.drewN n1).setCell ⟨R, 1, none⟩ (.int .i64 ((k : Int) + 1)))) := hide (sd_kpB H0.out (kp_trS (kp_drewN w _) (kp_r _ R 1 _)))
  go_wp2_with fail
  obtain ⟨W, hW⟩ : ∃ W, (w.drewN n1).setCell ⟨R, 1, none⟩ (.int .i64 ((k : Int) + 1)) = W := ⟨_, rfl⟩
  rw [hW] at H1 HB1 ⊢
  clear hW c0 c1 c2 c3 f1 f2 ck hd hi0 hi1 hi2 hw H0
  refine (HS.out _).mono ?_
  rintro e w9 ⟨rfl, h9⟩
  rw [h9]
  clear h9 w9
  cases q
  · have E : Hid (rdA (f + 1) (c :: C.drop (k + 1)) X = some (C.drop (k + 1), X ++ [clsN c])) := hide (by rw [HE.out]; rfl)
    clear HE
    go_wp2_with fail
    refine (s_addL false [(c, c)] #[.int .i64 c, .int .i64 c] 1 rfl rfl (by omega) hX H1.out).mono ?_
    rintro e w6 ⟨rfl, h6, hb6⟩
    have HQ : Hid (RaS B R C w (rdA (f + 1) (c :: C.drop (k + 1)) X) (.returned (.int .i64 (X.length : Int))) w6) := hide (ras_add E.out h6 (HB1.out.trans hb6))
    clear h6 hb6
    go_wp2
    go_ret
    exact HQ.out
  · have E : Hid (rdA (f + 1) (c :: C.drop (k + 1)) X = none) := hide (by rw [HE.out]; rfl)
    obtain ⟨_, _, _, _, ⟨-, -, d2, -⟩, ff, -⟩ := sd_cells H1.out
    have ff2 := ff 2
    clear HE ff
    go_wp2
    go_ret
    exact ras_bad E.out (sd_b H1.out true) (HB1.out.trans (sd_kpB H1.out (kp_r _ R 2 _)))
end Go.Proofs.YtepommmmmfaihaaDoor
