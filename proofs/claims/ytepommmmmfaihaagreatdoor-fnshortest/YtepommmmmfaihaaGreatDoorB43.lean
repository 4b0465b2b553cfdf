/-
  Contract of the specification's reader of expressions: an atom: a sign that stands for itself.
-/
import Derived.Test.YtepommmmmfaihaaGreatDoorB42
namespace Go.Proofs.YtepommmmmfaihaaGreatDoor
open Go.RowKit Go.Joins
set_option linter.unusedVariables false
set_option linter.unusedSimpArgs false
set_option maxRecDepth 100000 in
set_option maxHeartbeats 8000000 in
theorem s_atomel (n : Nat) (hC : ∀ m, m < n → ChS m) (B R : Nat) (C : List Int) (k : Nat) (X : List Nd) (w : World) (f : Nat) (hlt : k < C.length) (hn : C.length - k ≤ n) (hg : 4 * (C.length - k) + 1 ≤ f + 1) (hX : X.length ≤ 120) (h : SD (fun j => B ≤ j) B R w C k false X) (c : Int) (hr : C.drop k = c :: C.drop (k + 1)) (e1 : ¬ c = 40) (e2 : ¬ c = 91) (e3 : ¬ c = 46) (e4 : ¬ c = 92) :
    Calls Tryz.prog 101 #[.pointer (some ⟨R, 0, none⟩)] w (RaS B R C w (rdA (f + 1) (c :: C.drop (k + 1)) X)) := by
  have H0 := hide h
  have hB := sd_lt h
  have hC4 := h.1.2.2
  obtain ⟨b, off, tc, ad, cp, c0, c1, c2, c3, f1, f2, ck, -⟩ := sd_here h hr
  have hch := chB_cases (sd_ch h c (by rw [← List.take_append_drop k C, hr]; simp))
  have hd : decide ((k : Int) ≥ (C.length : Int)) = false := decide_eq_false (by omega)
  have hi0 : (0 : Int) ≤ (k : Int) := by omega
  have hi1 : (k : Int) < (C.length : Int) := by omega
  have hi2 : ¬ (C.length : Int) ≤ (k : Int) := by omega
  have hw : IntKind.i64.wrap ((k : Int) + 1) = (k : Int) + 1 := by rw [IntKind.wrap_i64]; omega
  clear h hr
  have b1 : (c == 40) = false := by simp [e1]
  have b2 : (c == 91) = false := by simp [e2]
  have b3 : (c == 46) = false := by simp [e3]
  have b4 : (c == 92) = false := by simp [e4]
  have HE : Hid (rdA (f + 1) (c :: C.drop (k + 1)) X = if isS sgO c = true then none else some (C.drop (k + 1), X ++ [clsN c])) := hide (by rw [rdA, if_neg e1, if_neg e2, if_neg e3, if_neg e4])
  have HS := hide (fun W => s_meta c W)
  obtain ⟨q, hq⟩ : ∃ q, isS sgO c = q := ⟨_, rfl⟩
  rw [hq] at HS HE
  clear hq e1 e2 e3 e4
  go_enter Tryz.func101, Tryz.ntmps101
  go_wp2
  go_quiet (fail)
  revert nq; intro n1
  have H1 := hide (sd_k1 (sd_dr H0.out n1) hlt)
  have HB1 : Hid (Below B w ((w.drewN n1).setCell ⟨R, 1, none⟩ (.int .i64 ((k : Int) + 1)))) := hide (sd_kpB H0.out (kp_trS (kp_drewN w _) (kp_r _ R 1 _)))
  go_wp2_with fail
  obtain ⟨W, hW⟩ : ∃ W, (w.drewN n1).setCell ⟨R, 1, none⟩ (.int .i64 ((k : Int) + 1)) = W := ⟨_, rfl⟩
  rw [hW] at H1 HB1 ⊢
  clear hW c0 c1 c2 c3 f1 f2 ck hd hi0 hi1 hi2 hw H0
  refine (HS.out _).mono ?_
  rintro e w9 ⟨rfl, h9⟩
  rw [h9]
  clear h9 w9
  cases q
  · have E : Hid (rdA (f + 1) (c :: C.drop (k + 1)) X = some (C.drop (k + 1), X ++ [clsN c])) := hide (by rw [HE.out]; rfl)
    clear HE
    go_wp2_with fail
    refine (s_addL false [(c, c)] #[.int .i64 c, .int .i64 c] 1 rfl rfl (by omega) hX H1.out).mono ?_
    rintro e w6 ⟨rfl, h6, hb6⟩
    have HQ : Hid (RaS B R C w (rdA (f + 1) (c :: C.drop (k + 1)) X) (.returned (.int .i64 (X.length : Int))) w6) := hide (ras_add E.out h6 (HB1.out.trans hb6))
    clear h6 hb6
    go_wp2
    go_ret
    exact HQ.out
  · have E : Hid (rdA (f + 1) (c :: C.drop (k + 1)) X = none) := hide (by rw [HE.out]; rfl)
    obtain ⟨_, _, _, _, ⟨-, -, d2, -⟩, ff, -⟩ := sd_cells H1.out
    have ff2 := ff 2
    clear HE ff
    go_wp2
    go_ret
    exact ras_bad E.out (sd_b H1.out true) (HB1.out.trans (sd_kpB H1.out (kp_r _ R 2 _)))
end Go.Proofs.YtepommmmmfaihaaGreatDoor
