/-
  Contract: where the piece of a node begins, by the specification, at every list of nodes and every place of it.
-/
import Derived.Test.YtbijilnbbbicmaaDoorRxMath
import Derived.Test.YtbijilnbbbicmaaDoorChecked
import Derived.WalkKit
import Derived.WalkLawsBesides
import Derived.Below
namespace Go.Proofs.YtbijilnbbbicmaaDoor
open Go.RowKit
set_option linter.unusedVariables false
set_option linter.unusedSimpArgs false
/-- Of a row of nodes: their kinds and the numbers that they name. -/
def NodesAt (w : World) (b off len : Nat) (K A B : Nat → Int) : Prop := ∀ j, j < len → w.cell? ⟨b, off + j * 7, none⟩ = some (.int .i64 (K j)) ∧ w.cell? ⟨b, off + j * 7 + 3, none⟩ = some (.int .i64 (A j)) ∧ w.cell? ⟨b, off + j * 7 + 4, none⟩ = some (.int .i64 (B j))
def twoK (K : Nat → Int) (j : Nat) : Bool := decide (K j = 3 ∨ K j = 4)
def cntK (K : Nat → Int) (j : Nat) : Bool := decide (K j = 5)
def trI (K A B : Nat → Int) (n : Nat) : Int := match tr (twoK K) (cntK K) A B n with | some f => (f : Int) | none => -1
theorem trI_le (K A B : Nat → Int) (n : Nat) : trI K A B n ≤ n := by
  unfold trI
  cases h : tr (twoK K) (cntK K) A B n with
  | none => show (-1 : Int) ≤ n; omega
  | some f => have := tr_le _ _ _ _ h; show (f : Int) ≤ n; omega
theorem trI_ge (K A B : Nat → Int) (n : Nat) : -1 ≤ trI K A B n := by
  unfold trI
  cases h : tr (twoK K) (cntK K) A B n with
  | none => show (-1 : Int) ≤ -1; omega
  | some f => show (-1 : Int) ≤ f; omega
theorem ret_i {a b : Int} (h : a = b) : Ending.returned (.int .i64 a) = .returned (.int .i64 b) := by rw [h]
theorem trI_two {K A B : Nat → Int} {n : Nat} (h : K n = 3 ∨ K n = 4) : trI K A B n = if n = 0 ∨ B n ≠ (n : Int) - 1 then -1 else if trI K A B (n - 1) < 1 ∨ A n ≠ trI K A B (n - 1) - 1 then -1 else trI K A B (trI K A B (n - 1) - 1).toNat := by
  have h2 : twoK K n = true := decide_eq_true h
  conv => lhs; unfold trI
  rw [tr_two _ _ _ _ h2]
  by_cases h0 : n = 0 ∨ B n ≠ (n : Int) - 1
  · rw [if_pos h0, if_pos h0]
  · rw [if_neg h0, if_neg h0]
    cases hr : tr (twoK K) (cntK K) A B (n - 1) with
    | none =>
      have e : trI K A B (n - 1) = -1 := by unfold trI; rw [hr]
      rw [e, if_pos (by omega)]
    | some c =>
      have e : trI K A B (n - 1) = c := by unfold trI; rw [hr]
      rw [e]
      dsimp only
      by_cases h1 : c = 0 ∨ A n ≠ (c : Int) - 1
      · rw [if_pos h1, if_pos (by omega)]
      · rw [if_neg h1, if_neg (by omega), show ((c : Int) - 1).toNat = c - 1 by omega]
        rfl
theorem trI_cnt {K A B : Nat → Int} {n : Nat} (h : K n = 5) : trI K A B n = if n = 0 ∨ A n ≠ (n : Int) - 1 then -1 else trI K A B (n - 1) := by
  have h2 : ¬ twoK K n = true := by unfold twoK; simp; omega
  have h3 : cntK K n = true := decide_eq_true h
  conv => lhs; unfold trI
  rw [tr_cnt _ _ _ _ h2 h3]
  by_cases h0 : n = 0 ∨ A n ≠ (n : Int) - 1
  · rw [if_pos h0, if_pos h0]
  · rw [if_neg h0, if_neg h0]; rfl
theorem trI_leaf {K A B : Nat → Int} {n : Nat} (h : ¬ (K n = 3 ∨ K n = 4)) (h' : ¬ K n = 5) : trI K A B n = n := by
  unfold trI
  rw [tr_leaf _ _ _ _ (by unfold twoK; simpa using h) (by unfold cntK; simpa using h')]
set_option maxHeartbeats 1000000 in
theorem s_tree_neg (v : Value) (w : World) : Calls Tryd.prog 21 #[v, .int .i64 (-1)] w fun e w' => e = .returned (.int .i64 (-1)) ∧ w' = w := by
  go_enter Tryd.func21, Tryd.ntmps21
  go_wp2
  go_ret
  exact ⟨rfl, rfl⟩
set_option maxRecDepth 100000 in
set_option maxHeartbeats 4000000 in
theorem s_tree (b off len cap : Nat) (K A B : Nat → Int) (w : World) (hlen : len ≤ 1048576) (hN : NodesAt w b off len K A B) : ∀ (m n : Nat), n < m → n < len →
    Calls Tryd.prog 21 #[.slice (some ⟨b, off, none⟩) len cap, .int .i64 n] w fun e w' => e = .returned (.int .i64 (trI K A B n)) ∧ w' = w
  | 0, n, hm, hn => by omega
  | m + 1, n, hm, hn => by
    have IH : Hid (∀ k : Nat, k < m → k < len → Calls Tryd.prog 21 #[.slice (some ⟨b, off, none⟩) len cap, .int .i64 k] w fun e w' => e = .returned (.int .i64 (trI K A B k)) ∧ w' = w) := hide (fun k hk hl => s_tree b off len cap K A B w hlen hN m k hk hl)
    obtain ⟨c0, c3, c4⟩ := hN n hn
    have hi : (n : Int) < (len : Int) := by omega
    have hi0 : (0 : Int) ≤ (n : Int) := by omega
    have hi1 : ¬ (n : Int) < 0 := by omega
    obtain ⟨x, hx⟩ : ∃ x, K n = x := ⟨_, rfl⟩
    obtain ⟨y, hy⟩ : ∃ y, A n = y := ⟨_, rfl⟩
    obtain ⟨z, hz⟩ : ∃ z, B n = z := ⟨_, rfl⟩
    rw [hx] at c0
    rw [hy] at c3
    rw [hz] at c4
    by_cases h2 : K n = 3 ∨ K n = 4
    · have HE := hide (trI_two (A := A) (B := B) h2)
      by_cases hb : z = (n : Int) - 1
      · by_cases h0 : n = 0
        · subst h0
          simp only [Nat.zero_mul, Nat.add_zero] at c0 c3 c4
          have HR : Hid (trI K A B 0 = -1) := hide (by rw [HE.out, if_pos (.inl rfl)])
          subst hb
          rcases h2 with h2 | h2
          all_goals
            rw [hx] at h2
            subst h2
            clear HE hx hy hz
            go_enter Tryd.func21, Tryd.ntmps21
            go_wp2_with fail
            refine (s_tree_neg _ _).mono ?_
            rintro e w' ⟨rfl, rfl⟩
            go_wp2
            go_ret
            exact ⟨ret_i (by rw [HR.out]), rfl⟩
        · have t1 := trI_le K A B (n - 1)
          have t2 := trI_ge K A B (n - 1)
          obtain ⟨t, ht⟩ : ∃ t, trI K A B (n - 1) = t := ⟨_, rfl⟩
          rw [ht] at t1 t2
          have HE2 : Hid (trI K A B n = if t < 1 ∨ y ≠ t - 1 then -1 else trI K A B (t - 1).toNat) := hide (by rw [HE.out, if_neg (by rw [hz]; omega), ht, hy])
          have HTT := hide ht
          have hb2 : (z != (n : Int) - 1) = false := by simp; omega
          subst hb
          rcases h2 with h2 | h2
          all_goals
            rw [hx] at h2
            subst h2
            clear HE hx hy hz ht
            go_enter Tryd.func21, Tryd.ntmps21
            go_wp2_with fail
            rw [show ((n : Int) - 1) = ((n - 1 : Nat) : Int) by omega]
            refine (IH.out (n - 1) (by omega) (by omega)).mono ?_
            rintro e w' ⟨rfl, rfl⟩
            rw [HTT.out]
            by_cases q1 : t < 1
            · go_wp2
              go_ret
              exact ⟨ret_i (HE2.out.trans (if_pos (.inl q1))).symm, rfl⟩
            · by_cases q2 : y = t - 1
              · have q3 : (y != t - 1) = false := by simp; omega
                have HK := hide (IH.out (t - 1).toNat (by omega) (by omega))
                have HF : Hid (trI K A B n = trI K A B (t - 1).toNat) := hide (by rw [HE2.out, if_neg (by omega)])
                go_wp2_with fail
                rw [show t - 1 = (((t - 1).toNat : Nat) : Int) by omega]
                refine HK.out.mono ?_
                rintro e w' ⟨rfl, rfl⟩
                go_wp2
                go_ret
                exact ⟨ret_i (by rw [HF.out, show t.toNat - 1 = (t - 1).toNat by omega]), rfl⟩
              · have q3 : (y != t - 1) = true := by simp; omega
                go_wp2
                go_ret
                exact ⟨ret_i (HE2.out.trans (if_pos (.inr q2))).symm, rfl⟩
      · have HR : Hid (trI K A B n = -1) := hide (by rw [HE.out, if_pos (.inr (by rw [hz]; exact hb))])
        have hb2 : (z != (n : Int) - 1) = true := by simp; omega
        rcases h2 with h2 | h2
        all_goals
          rw [hx] at h2
          subst h2
          clear HE hx hy hz
          go_enter Tryd.func21, Tryd.ntmps21
          go_wp2
          go_ret
          exact ⟨ret_i (by rw [HR.out]), rfl⟩
    · by_cases h5 : K n = 5
      · have HE := hide (trI_cnt (A := A) (B := B) h5)
        rw [hx] at h5
        subst h5
        by_cases hb : y = (n : Int) - 1
        · by_cases h0 : n = 0
          · subst h0
            simp only [Nat.zero_mul, Nat.add_zero] at c0 c3 c4
            have HR : Hid (trI K A B 0 = -1) := hide (by rw [HE.out, if_pos (.inl rfl)])
            subst hb
            clear HE hx hy hz h2
            go_enter Tryd.func21, Tryd.ntmps21
            go_wp2_with fail
            refine (s_tree_neg _ _).mono ?_
            rintro e w' ⟨rfl, rfl⟩
            go_wp2
            go_ret
            exact ⟨ret_i (by rw [HR.out]), rfl⟩
          · have HR : Hid (trI K A B n = trI K A B (n - 1)) := hide (by rw [HE.out, if_neg (by rw [hy]; omega)])
            have hb2 : (y != (n : Int) - 1) = false := by simp; omega
            subst hb
            clear HE hx hy hz h2
            go_enter Tryd.func21, Tryd.ntmps21
            go_wp2_with fail
            rw [show ((n : Int) - 1) = ((n - 1 : Nat) : Int) by omega]
            refine (IH.out (n - 1) (by omega) (by omega)).mono ?_
            rintro e w' ⟨rfl, rfl⟩
            go_wp2
            go_ret
            exact ⟨ret_i (by rw [HR.out]), rfl⟩
        · have HR : Hid (trI K A B n = -1) := hide (by rw [HE.out, if_pos (.inr (by rw [hy]; exact hb))])
          have hb2 : (y != (n : Int) - 1) = true := by simp; omega
          clear HE hx hy hz h2
          go_enter Tryd.func21, Tryd.ntmps21
          go_wp2
          go_ret
          exact ⟨ret_i (by rw [HR.out]), rfl⟩
      · have HR := hide (trI_leaf (A := A) (B := B) h2 h5)
        have n3 : (x == 3) = false := by rw [← hx]; simp; omega
        have n4 : (x == 4) = false := by rw [← hx]; simp; omega
        have n5 : (x == 5) = false := by rw [← hx]; simp; omega
        clear h2 h5 hx hy hz
        go_enter Tryd.func21, Tryd.ntmps21
        go_wp2
        go_ret
        exact ⟨ret_i (by rw [HR.out]), rfl⟩
end Go.Proofs.YtbijilnbbbicmaaDoor
