/-
  Contracts of the specification's reader of expressions: a character within brackets, a number.
-/
import Derived.Test.YtepommmmmfaihaaDoorC33
namespace Go.Proofs.YtepommmmmfaihaaDoor
open Go.RowKit Go.Joins
set_option linter.unusedVariables false
set_option linter.unusedSimpArgs false
theorem kp_trS {R : Nat} {w w1 w2 : World} (h : Kp (fun j => j = R) w w1) (k : Kp (fun j => j = R) w1 w2) : Kp (fun j => j = R) w w2 := h.trans k (fun _ _ hj => hj)
/-- What a part answers: a value, or it is bad. -/
def ChA (S : Nat → Prop) (B R : Nat) (C : List Int) (k : Nat) (X : List Nd) (w : World) (o : Option (Int × List Int)) (e : Ending) (w' : World) : Prop := match o with
  | some (v, r) => ∃ k', r = C.drop k' ∧ k < k' ∧ e = .returned (.int .i64 v) ∧ SD S B R w' C k' false X ∧ Kp (fun j => j = R) w w'
  | none => ∃ v k', e = .returned (.int .i64 v) ∧ SD S B R w' C k' true X ∧ Kp (fun j => j = R) w w'
set_option maxRecDepth 100000 in
set_option maxHeartbeats 4000000 in
theorem s_charB {S : Nat → Prop} (B R : Nat) (C : List Int) (k : Nat) (X : List Nd) (w : World) (h : SD S B R w C k false X) :
    Calls Tryd.prog 71 #[.pointer (some ⟨R, 0, none⟩)] w (ChA S B R C k X w (inP (C.drop k))) := by
  have H0 := hide h
  have h4 := h.1.2.2
  have h5 := h.1.2.1
  cases hr : C.drop k with
  | nil =>
    have hk : C.length ≤ k := List.drop_eq_nil_iff.1 hr
    obtain ⟨ta, tc, ad, cp, ⟨c0, c1, c2, c3⟩, f, -⟩ := sd_cells h
    have f2 := f 2
    have hd : decide ((k : Int) ≥ (C.length : Int)) = true := decide_eq_true (by omega)
    have hi2 : (C.length : Int) ≤ (k : Int) := by omega
    clear h hr f
    go_enter Tryd.func71, Tryd.ntmps71
    go_wp2
    go_quiet (fail)
    go_wp2
    go_ret
    exact ⟨0, k, rfl, sd_b (sd_dr H0.out _) true, (kp_drewN w _).trans (kp_r _ R 2 _) (fun j _ hj => hj)⟩
  | cons c r =>
    obtain ⟨b, off, tc, ad, cp, c0, c1, c2, c3, f1, f2, ck, hlt⟩ := sd_here h hr
    obtain ⟨-, hr1, -⟩ := drop_at hr
    have hch := sd_ch h c (by rw [← List.take_append_drop k C, hr]; simp)
    have hd : decide ((k : Int) ≥ (C.length : Int)) = false := decide_eq_false (by omega)
    have hi0 : (0 : Int) ≤ (k : Int) := by omega
    have hi1 : (k : Int) < (C.length : Int) := by omega
    have hi2 : ¬ (C.length : Int) ≤ (k : Int) := by omega
    have hw : IntKind.i64.wrap ((k : Int) + 1) = (k : Int) + 1 := by rw [IntKind.wrap_i64]; omega
    clear h
    by_cases e1 : c = 92
    · subst e1
      have E0 : Hid (inP (92 :: r) = esP r) := hide (by rw [inP, if_pos rfl])
      go_enter Tryd.func71, Tryd.ntmps71
      go_wp2
      go_quiet (fail)
      revert nq; intro n1
      go_wp2
      go_quiet (fail)
      revert nq; intro n2
      go_wp2
      have H1 := hide (sd_k1 (sd_dr H0.out (n1 + n2)) hlt)
      have K1 : Hid (Kp (fun j => j = R) w ((w.drewN (n1 + n2)).setCell ⟨R, 1, none⟩ (.int .i64 ((k : Int) + 1)))) := hide ((kp_drewN w _).trans (kp_r _ R 1 _) (fun j _ hj => hj))
      obtain ⟨W, hW⟩ : ∃ W, (w.drewN (n1 + n2)).setCell ⟨R, 1, none⟩ (.int .i64 ((k : Int) + 1)) = W := ⟨_, rfl⟩
      rw [hW] at H1 K1 ⊢
      clear hW c0 c1 c2 c3 f1 f2 ck hd hi0 hi1 hi2 hw
      cases hr2 : C.drop (k + 1) with
      | nil =>
        have hk : C.length ≤ k + 1 := List.drop_eq_nil_iff.1 hr2
        have E1 : Hid (inP (92 :: r) = none) := hide (by rw [E0.out, hr1, hr2]; rfl)
        obtain ⟨ta, tc, ad, cp, ⟨c0, c1, c2, c3⟩, f, -⟩ := sd_cells H1.out
        have f2 := f 2
        have ek : ((k + 1 : Nat) : Int) = (k : Int) + 1 := by omega
        rw [ek] at c1
        have hd : decide ((k : Int) + 1 ≥ (C.length : Int)) = true := decide_eq_true (by omega)
        have hi2 : (C.length : Int) ≤ (k : Int) + 1 := by omega
        clear ek f hr2 hr1 hr
        go_quiet (fail)
        go_wp2
        go_ret
        rw [E1.out]
        exact ⟨0, k + 1, rfl, sd_b (sd_dr H1.out _) true, kp_trS (kp_trS K1.out (kp_drewN W _)) (kp_r _ R 2 _)⟩
      | cons d r2 =>
        obtain ⟨b, off, tc, ad, cp, c0, c1, c2, c3, f1, f2, ck, hlt2⟩ := sd_here H1.out hr2
        obtain ⟨-, hr3, -⟩ := drop_at hr2
        have hdc := chB_cases (sd_ch H1.out d (by rw [← List.take_append_drop (k + 1) C, hr2]; simp))
        have ek : ((k + 1 : Nat) : Int) = (k : Int) + 1 := by omega
        rw [ek] at c1
        have hd : decide ((k : Int) + 1 ≥ (C.length : Int)) = false := decide_eq_false (by omega)
        have hi0 : (0 : Int) ≤ (k : Int) + 1 := by omega
        have hi1 : (k : Int) + 1 < (C.length : Int) := by omega
        have hi2 : ¬ (C.length : Int) ≤ (k : Int) + 1 := by omega
        have hi3 : ((k : Int) + 1).toNat = k + 1 := by omega
        have hw : IntKind.i64.wrap ((k : Int) + 1 + 1) = (k : Int) + 1 + 1 := by rw [IntKind.wrap_i64]; omega
        have CE := hide (fun W => s_esc d W)
        rcases es_of (c := d) (r := r2) (by omega) with ⟨he, hn⟩ | ⟨he, hn⟩
        · have E1 : Hid (inP (92 :: r) = none) := hide (by rw [E0.out, hr1, hr2, he])
          obtain ⟨x, hx⟩ : ∃ x, esC d = x := ⟨_, rfl⟩
          rw [hx] at CE hn
          have hnd : decide (x < 0) = true := decide_eq_true hn
          clear ek hr2 hr1 hr he hx
          go_quiet (first | (go_at_call 69; exact Calls.quiet_of_same (CE.out _)))
          go_wp2
          go_ret
          rw [E1.out]
          exact ⟨0, k + 1, rfl, sd_b (sd_dr H1.out _) true, kp_trS (kp_trS K1.out (kp_drewN W _)) (kp_r _ R 2 _)⟩
        · have E1 : Hid (inP (92 :: r) = some (esC d, r2)) := hide (by rw [E0.out, hr1, hr2, he])
          have HR3 := hide hr3
          obtain ⟨x, hx⟩ : ∃ x, esC d = x := ⟨_, rfl⟩
          rw [hx] at CE hn E1
          have hnd : decide (x < 0) = false := decide_eq_false (by omega)
          have HR2 := hide hr2
          clear ek hr2 hr1 hr he hx hr3
          go_quiet (first | (go_at_call 69; exact Calls.quiet_of_same (CE.out _)))
          revert nq; intro n1
          go_wp2
          have H2 := hide (sd_dr H1.out n1)
          have K2 : Hid (Kp (fun j => j = R) w (W.drewN n1)) := hide (kp_trS K1.out (kp_drewN W _))
          obtain ⟨W2, hW2⟩ : ∃ W2, W.drewN n1 = W2 := ⟨_, rfl⟩
          rw [hW2] at H2 K2 ⊢
          clear hW2 c0 c1 c2 c3 f1 f2 ck
          obtain ⟨b, off, tc, ad, cp, c0, c1, c2, c3, f1, f2, ck, -⟩ := sd_here H2.out HR2.out
          have ek : ((k + 1 : Nat) : Int) = (k : Int) + 1 := by omega
          rw [ek] at c1
          clear ek HR2
          go_quiet (first | (go_at_call 69; exact Calls.quiet_of_same (CE.out _)))
          revert nq; intro n2
          go_wp2
          go_ret
          rw [E1.out]
          have h9 := sd_k1 (sd_dr H2.out n2) hlt2
          have ek : ((k + 1 : Nat) : Int) + 1 = (k : Int) + 1 + 1 := by omega
          rw [ek] at h9
          exact ⟨k + 1 + 1, HR3.out, by omega, rfl, h9, kp_trS (kp_trS K2.out (kp_drewN W2 _)) (kp_r _ R 1 _)⟩
    · have b0 : (c == 92) = false := by simp [e1]
      have E0 : Hid (inP (c :: r) = if isS sgI c = true then none else some (c, r)) := hide (by rw [inP, if_neg e1])
      have HR1 := hide hr1
      by_cases e2 : c = 91 ∨ c = 93 ∨ c = 45 ∨ c = 94
      · have E1 : Hid (inP (c :: r) = none) := hide (by
          rw [E0.out, if_pos]
          rcases e2 with rfl | rfl | rfl | rfl <;> decide)
        clear E0 hr1 hr e1
        rcases e2 with rfl | rfl | rfl | rfl
        all_goals
          go_enter Tryd.func71, Tryd.ntmps71
          go_wp2
          go_quiet (fail)
          revert nq; intro n1
          go_wp2
          go_quiet (fail)
          revert nq; intro n2
          go_wp2
          go_ret
          rw [E1.out]
          exact ⟨_, k + 1, rfl, sd_b (sd_k1 (sd_dr H0.out (n1 + n2)) hlt) true, kp_trS (kp_trS (kp_drewN w _) (kp_r _ R 1 _)) (kp_r _ R 2 _)⟩
      · have b1 : (c == 91) = false := by simp; omega
        have b2 : (c == 93) = false := by simp; omega
        have b3 : (c == 45) = false := by simp; omega
        have b4 : (c == 94) = false := by simp; omega
        have E1 : Hid (inP (c :: r) = some (c, r)) := hide (by
          rw [E0.out, if_neg]
          unfold isS sgI
          simp
          omega)
        clear E0 hr1 hr e1 e2
        go_enter Tryd.func71, Tryd.ntmps71
        go_wp2
        go_quiet (fail)
        revert nq; intro n1
        go_wp2
        go_quiet (fail)
        revert nq; intro n2
        go_wp2
        go_ret
        rw [E1.out]
        exact ⟨k + 1, HR1.out, by omega, rfl, sd_k1 (sd_dr H0.out (n1 + n2)) hlt, kp_trS (kp_drewN w _) (kp_r _ R 1 _)⟩
end Go.Proofs.YtepommmmmfaihaaDoor
