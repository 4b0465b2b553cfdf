/-
  Contract of the specification: a count's text.
-/
import Derived.Test.YtdkldcobgjagkaaDoorTeC
import Derived.Deep.RegionHeld3
namespace Go.Proofs.YtdkldcobgjagkaaDoor
open Go.RowKit Go.Joins
set_option linter.unusedVariables false
set_option linter.unusedSimpArgs false
theorem int_cmp (a b : Int) : (a == b) = decide (a = b) := by
  rw [Bool.eq_iff_iff, beq_iff_eq, decide_eq_true_iff]
theorem nd_next {w w1 w2 : World} {G : Nat} {kd : Int} {nt : Bool} {a : Option Addr} {n c : Nat} {A B mn mx : Int} (h : NodeAt w1 G kd nt a n c A B mn mx ∧ Below w.heap.size w w1) (k : Below w1.heap.size w1 w2) : NodeAt w2 G kd nt a n c A B mn mx ∧ Below w.heap.size w w2 := ⟨nodeAt_go h.1 k, h.2.trans (k.mono h.2.size)⟩
set_option maxRecDepth 100000 in
set_option maxHeartbeats 8000000 in
theorem s_cnt (kd : Int) (nt : Bool) (ad : Option Addr) (n cp : Nat) (A B mn mx : Int) (w : World) (h : 0 ≤ mn ∧ mn ≤ 20 ∧ mx ≤ 20 ∧ -1 ≤ mx) :
    Calls Tryd.prog 44 #[.agg #[.int .i64 kd, .bool nt, .slice ad n cp, .int .i64 A, .int .i64 B, .int .i64 mn, .int .i64 mx]] w fun e w' => e = .returned (.string (cnT mn mx)) ∧ Below w.heap.size w w' := by
  obtain ⟨h0, h1, h2, h3⟩ := h
  have st := fun o : Obj => (Below.refl w.heap.size w).alloc (Nat.le_refl _) o
  have CM : Hid (∀ w9, Calls Tryd.prog 62 #[.int .i64 mn] w9 fun e w' => e = .returned (.string (itB mn)) ∧ Below w9.heap.size w9 w') := hide (fun w9 => s_decT mn w9 h0 h1)
  have z1 := itB_size h0 h1
  have HV : Hid (cnT mn mx = if mn = 0 ∧ mx = 1 then ⟨#[63]⟩ else if mn = 0 ∧ mx = -1 then ⟨#[42]⟩ else if mn = 1 ∧ mx = -1 then ⟨#[43]⟩ else
    if mn = mx then ⟨#[123]⟩ ++ itB mn ++ ⟨#[125]⟩ else if mx = -1 then ⟨#[123]⟩ ++ itB mn ++ ⟨#[44, 125]⟩ else ⟨#[123]⟩ ++ itB mn ++ ⟨#[44]⟩ ++ itB mx ++ ⟨#[125]⟩) := hide rfl
  by_cases p1 : mn = 0 ∧ mx = 1
  · obtain ⟨rfl, rfl⟩ := p1
    go_enter Tryd.func44, Tryd.ntmps44
    go_wp2
    go_ret
    exact ⟨rfl, st _⟩
  · by_cases p2 : mn = 0 ∧ mx = -1
    · obtain ⟨rfl, rfl⟩ := p2
      go_enter Tryd.func44, Tryd.ntmps44
      go_wp2
      go_ret
      exact ⟨rfl, st _⟩
    · by_cases p3 : mn = 1 ∧ mx = -1
      · obtain ⟨rfl, rfl⟩ := p3
        go_enter Tryd.func44, Tryd.ntmps44
        go_wp2
        go_ret
        exact ⟨rfl, st _⟩
      · rw [if_neg p1, if_neg p2, if_neg p3] at HV
        obtain ⟨D, hD⟩ : ∃ D, itB mn = D := ⟨_, rfl⟩
        have b1 : (mn == 0) = true → (mx == 1) = false := fun e => by rw [beq_iff_eq] at e; rw [beq_eq_false_iff_ne]; omega
        have b2 : (mn == 0) = true → (mx == -1) = false := fun e => by rw [beq_iff_eq] at e; rw [beq_eq_false_iff_ne]; omega
        have b3 : (mn == 1) = true → (mx == -1) = false := fun e => by rw [beq_iff_eq] at e; rw [beq_eq_false_iff_ne]; omega
        have H1 := hide b1
        have H2 := hide b2
        have H3 := hide b3
        clear p1 p2 p3 b1 b2 b3
        by_cases p4 : mn = mx
        · rw [if_pos p4, hD] at HV
          rw [hD] at CM z1
          have e4 : (mn == mx) = true := by rw [beq_iff_eq]; exact p4
          subst p4
          have hm1 : (mn == -1) = false := by rw [beq_eq_false_iff_ne]; omega
          have a1 : ¬ 9223372036854775807 < 1 + D.size := by omega
          have a2 : ¬ 9223372036854775807 < 1 + D.size + 1 := by omega
          clear hD
          have hc : ((mn == 0) = true ∧ (mn == 1) = false) ∨ ((mn == 0) = false ∧ (mn == 1) = true) ∨ ((mn == 0) = false ∧ (mn == 1) = false) := by
            rw [int_cmp, int_cmp]
            by_cases h9 : mn = 0
            · subst h9; exact .inl ⟨by decide, by decide⟩
            · by_cases h8 : mn = 1
              · subst h8; exact .inr (.inl ⟨by decide, by decide⟩)
              · exact .inr (.inr ⟨decide_eq_false h9, decide_eq_false h8⟩)
          rcases hc with ⟨c0, c1⟩ | ⟨c0, c1⟩ | ⟨c0, c1⟩
          all_goals
            go_enter Tryd.func44, Tryd.ntmps44
            go_wp2_with (go_at_call 62; refine (CM.out _).mono ?_; rintro e w2 ⟨rfl, hb2⟩; have HB2 := hide ((st _).trans (hb2.mono (st _).size)); clear hb2)
            go_ret
            exact ⟨ret_s9 HV.out.symm, HB2.out⟩
        · rw [if_neg p4] at HV
          have e4 : (mn == mx) = false := by rw [beq_eq_false_iff_ne]; exact p4
          by_cases p5 : mx = -1
          · rw [if_pos p5, hD] at HV
            rw [hD] at CM z1
            have e5 : (mx == -1) = true := by rw [beq_iff_eq]; exact p5
            have e6 : (mx == 1) = false := by rw [beq_eq_false_iff_ne]; omega
            have c0 : (mn == 0) = false := by
              cases c0 : (mn == 0)
              · rfl
              · exact absurd (e5.symm.trans (H2.out c0)) (by decide)
            have c1 : (mn == 1) = false := by
              cases c1 : (mn == 1)
              · rfl
              · exact absurd (e5.symm.trans (H3.out c1)) (by decide)
            have a1 : ¬ 9223372036854775807 < 1 + D.size := by omega
            have a2 : ¬ 9223372036854775807 < 1 + D.size + 2 := by omega
            clear hD p4 p5
            go_enter Tryd.func44, Tryd.ntmps44
            go_wp2_with (go_at_call 62; refine (CM.out _).mono ?_; rintro e w2 ⟨rfl, hb2⟩; have HB2 := hide ((st _).trans (hb2.mono (st _).size)); clear hb2)
            go_ret
            exact ⟨ret_s9 HV.out.symm, HB2.out⟩
          · rw [if_neg p5, hD] at HV
            have CX : Hid (∀ w9, Calls Tryd.prog 62 #[.int .i64 mx] w9 fun e w' => e = .returned (.string (itB mx)) ∧ Below w9.heap.size w9 w') := hide (fun w9 => s_decT mx w9 (by omega) h2)
            have z2 := itB_size (n := mx) (by omega) h2
            obtain ⟨E, hE⟩ : ∃ E, itB mx = E := ⟨_, rfl⟩
            rw [hE] at HV CX z2
            rw [hD] at CM z1
            have e5 : (mx == -1) = false := by rw [beq_eq_false_iff_ne]; exact p5
            have a1 : ¬ 9223372036854775807 < 1 + D.size := by omega
            have a2 : ¬ 9223372036854775807 < 1 + D.size + 1 := by omega
            have a3 : ¬ 9223372036854775807 < 1 + D.size + 1 + E.size := by omega
            have a4 : ¬ 9223372036854775807 < 1 + D.size + 1 + E.size + 1 := by omega
            clear hD hE p4 p5
            have hc : ((mn == 0) = true ∧ (mn == 1) = false ∧ (mx == 1) = false) ∨ ((mn == 0) = false ∧ (mn == 1) = true) ∨ ((mn == 0) = false ∧ (mn == 1) = false) := by
              by_cases h9 : mn = 0
              · exact .inl ⟨by rw [beq_iff_eq]; exact h9, by rw [beq_eq_false_iff_ne]; omega, H1.out (by rw [beq_iff_eq]; exact h9)⟩
              · by_cases h8 : mn = 1
                · exact .inr (.inl ⟨by rw [beq_eq_false_iff_ne]; omega, by rw [beq_iff_eq]; exact h8⟩)
                · exact .inr (.inr ⟨by rw [beq_eq_false_iff_ne]; exact h9, by rw [beq_eq_false_iff_ne]; exact h8⟩)
            have HW0 := fun T => nodeAt_new w kd nt ad n cp A B mn mx T
            have KP : ∀ w', NodeAt w' w.heap.size kd nt ad n cp A B mn mx → Below w.heap.size w w' → (NodeAt w' w.heap.size kd nt ad n cp A B mn mx ∧ Below w.heap.size w w') ∧ w'.cell? ⟨w.heap.size, 5, none⟩ = some (.int .i64 mn) ∧ w'.cell? ⟨w.heap.size, 6, none⟩ = some (.int .i64 mx) := fun w' h k => ⟨⟨h, k⟩, (nodeAt_cells h).2.2.2.2.2.1, (nodeAt_cells h).2.2.2.2.2.2⟩
            have HKP := hide KP
            clear KP
            rcases hc with ⟨c0, c1, c2⟩ | ⟨c0, c1⟩ | ⟨c0, c1⟩
            all_goals
              go_enter Tryd.func44, Tryd.ntmps44
              go_wp2
              go_region_held3 (fun w' => (NodeAt w' w.heap.size kd nt ad n cp A B mn mx ∧ Below w.heap.size w w') ∧ w'.cell? ⟨w.heap.size, 5, none⟩ = some (.int .i64 mn) ∧ w'.cell? ⟨w.heap.size, 6, none⟩ = some (.int .i64 mx)) (first | assumption | exact HKP.out _ (nodeAt_drewN (HW0 _) 1) (te_drew (st _) 1) | exact HKP.out _ (HW0 _) (st _) | exact HKP.out _ HTA.out.1 HTA.out.2 | exact HKP.out _ HTB.out.1 HTB.out.2) (first | (go_at_call_of 62 (Value.int .i64 mn); refine (CM.out _).mono ?_; rintro e w2 ⟨rfl, hb2⟩; have HTA := hide (nd_next (And.left (by assumption)) hb2); clear hb2) | (go_at_call_of 62 (Value.int .i64 mx); refine (CX.out _).mono ?_; rintro e w2 ⟨rfl, hb2⟩; have HTB := hide (nd_next (And.left (by assumption)) hb2); clear hb2))
              all_goals
                go_wp2
                all_goals
                  go_ret
                  exact ⟨ret_s9 HV.out.symm, (And.right (And.left (by assumption)))⟩
end Go.Proofs.YtdkldcobgjagkaaDoor
