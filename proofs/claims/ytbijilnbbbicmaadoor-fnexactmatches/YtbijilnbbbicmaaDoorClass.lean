/-
  Contracts: rows of ranges, classes: what the specification's and the program's tests answer at each; nothing old has turned.
-/
import Derived.Test.YtbijilnbbbicmaaDoorNodeS
import Derived.Test.YtbijilnbbbicmaaDoorRngEq
namespace Go.Proofs.YtbijilnbbbicmaaDoor
open Go.RowKit Go.Joins
set_option linter.unusedVariables false
set_option linter.unusedSimpArgs false
theorem rgB_l {l h : Int} (e : chB l = false) : rgB l h = false := by simp [rgB, e]
theorem rgB_h {l h : Int} (e : chB h = false) : rgB l h = false := by simp [rgB, e]
theorem rgB_o {l h : Int} (e : h < l) : rgB l h = false := by
  have e' : ¬ l ≤ h := by omega
  simp [rgB, e']
theorem rgB_y {l h : Int} (e1 : chB l = true) (e2 : chB h = true) (e : l ≤ h) : rgB l h = true := by simp [rgB, e1, e2, e]
theorem drew_below (w : World) (q : Nat) : Below w.heap.size w (w.drewN q) := by
  induction q with
  | zero => exact Below.refl _ _
  | succ q ih => exact ih.drew
set_option maxHeartbeats 2000000 in
theorem i_ranges (a : Option Addr) (n c : Nat) (L H : Nat → Int) (w : World) (hn : n ≤ maxLen) (hr : RngAt w a n L H w.heap.size) :
    Calls Tryd.prog 36 #[.slice a n c] w fun e w' => e = .returned (.bool (rowB n L H)) ∧ Below w.heap.size w w' := by
  unfold maxLen at hn
  have HR := hide hr
  clear hr
  by_cases h12 : 1 ≤ n ∧ n ≤ 12
  · obtain ⟨g1, g2⟩ := h12
    go_enter Tryd.func36, Tryd.ntmps36
    go_wp2
    go_loopw [15] (fun i wr => ∃ k : Nat, k ≤ n ∧ i = .int .i64 k ∧ Below w.heap.size w wr ∧ Hid (∀ j, j < k → rgB (L j) (H j) = true)) (fun i _ => n - (intOf i).toNat)
    case atStart => exact ⟨0, Nat.zero_le _, rfl, Below.refl _ _, fun j h => by omega⟩
    case round =>
      obtain ⟨k, hk, rfl, hb, HM⟩ := hrel
      by_cases hlt : k < n
      · obtain ⟨b, off, rfl, hbs, hc⟩ := HR.out (by omega)
        have hc1 : wr.cell? ⟨b, off + k * 2, none⟩ = some (.int .i64 (L k)) := (hb.cell hbs).trans (hc k hlt).1
        have hc2 : wr.cell? ⟨b, off + k * 2 + 1, none⟩ = some (.int .i64 (H k)) := (hb.cell hbs).trans (hc k hlt).2
        have HB := hide hb
        clear hc hb
        cases el : chB (L k)
        · go_wp2_with (go_at_call_of 45 (L k); refine (i_chF _ _ el).mono ?_; rintro e w' ⟨rfl, rfl⟩)
          go_ret
          exact ⟨ret_bool (by simp [rowB, rgsB_no hlt (rgB_l el)]), HB.out.alloc HB.out.size _⟩
        · cases eh : chB (H k)
          · go_wp2_with (first | (go_at_call_of 45 (L k); refine (i_chT _ _ el).mono ?_; rintro e w' ⟨rfl, rfl⟩) | (go_at_call_of 45 (H k); refine (i_chF _ _ eh).mono ?_; rintro e w' ⟨rfl, rfl⟩))
            go_ret
            exact ⟨ret_bool (by simp [rowB, rgsB_no hlt (rgB_h (l := L k) eh)]), HB.out.alloc HB.out.size _⟩
          · by_cases ho : L k ≤ H k
            · go_wp2_with (first | (go_at_call_of 45 (L k); refine (i_chT _ _ el).mono ?_; rintro e w' ⟨rfl, rfl⟩) | (go_at_call_of 45 (H k); refine (i_chT _ _ eh).mono ?_; rintro e w' ⟨rfl, rfl⟩))
              go_roundw
              case rel =>
                refine ⟨k + 1, by omega, by go_num, HB.out.alloc HB.out.size _, fun j hj => ?_⟩
                by_cases e : j = k
                · subst e; exact rgB_y el eh ho
                · exact HM.out j (by omega)
              case measure => simp [intOf]; omega
            · go_wp2_with (first | (go_at_call_of 45 (L k); refine (i_chT _ _ el).mono ?_; rintro e w' ⟨rfl, rfl⟩) | (go_at_call_of 45 (H k); refine (i_chT _ _ eh).mono ?_; rintro e w' ⟨rfl, rfl⟩))
              go_ret
              exact ⟨ret_bool (by simp [rowB, rgsB_no hlt (rgB_o (by omega))]), HB.out.alloc HB.out.size _⟩
      · go_wp2
        go_ret
        exact ⟨ret_bool (by rw [rowB, rgsB_yes (fun j h => HM.out j (by omega)), decide_eq_true (⟨g1, g2⟩ : 1 ≤ n ∧ n ≤ 12)]; rfl), hb⟩
  · have e : rowB n L H = false := by simp only [rowB, decide_eq_false h12, Bool.false_and]
    rw [e]
    go_enter Tryd.func36, Tryd.ntmps36
    by_cases g : n = 0
    · go_wp2
      go_ret
      exact ⟨rfl, Below.refl _ _⟩
    · have g2 : 12 < n := by omega
      have g3 : (12 : Int) < (n : Int) := by omega
      go_wp2
      go_ret
      exact ⟨rfl, Below.refl _ _⟩
end Go.Proofs.YtbijilnbbbicmaaDoor
