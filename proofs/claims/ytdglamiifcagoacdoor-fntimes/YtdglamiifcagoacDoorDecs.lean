/-
  Contracts: what the specification's and the program's DecOk and their helpers answer at every number; nothing old has turned.
-/
import Derived.Test.YtdglamiifcagoacDoorBase
import Derived.Test.YtdglamiifcagoacDoorDecMath
import Derived.Test.YtdglamiifcagoacDoorChecked
import Derived.WalkKit
import Derived.Below
namespace Go.Proofs.YtdglamiifcagoacDoor
open Go.RowKit
set_option linter.unusedSimpArgs false
set_option linter.unusedVariables false
theorem cases_dig (c : Int) : c ≤ 47 ∨ (48 ≤ c ∧ c ≤ 57) ∨ 58 ≤ c := by omega

set_option maxHeartbeats 2000000 in
theorem s_dig (c : Int) (w : World) : Calls Tryd.prog 42 #[.int .u8 c] w fun e w' => e = .returned (.bool (digitB c)) ∧ w' = w := by
  rcases cases_dig c with h | ⟨h, h'⟩ | h
  all_goals
    go_enter Tryd.func42, Tryd.ntmps42
    go_wp2
    go_ret
    exact ⟨ret_bool (by first | decide | (rw [Bool.eq_iff_iff]; simp only [digitB, Bool.or_eq_true, Bool.and_eq_true, decide_eq_true_eq, beq_iff_eq, true_iff, false_iff, iff_true, iff_false, Bool.false_eq_true]; omega)), rfl⟩
set_option maxHeartbeats 2000000 in
theorem s_in (n a b : Int) (w : World) : Calls Tryd.prog 31 #[.int .i64 n, .int .i64 a, .int .i64 b] w fun e w' => e = .returned (.bool (decide (a ≤ n ∧ n ≤ b))) ∧ w' = w := by
  by_cases h1 : a ≤ n <;> by_cases h2 : n ≤ b
  all_goals
    go_enter Tryd.func31, Tryd.ntmps31
    go_wp2
    go_ret
    exact ⟨ret_bool (by simp [h1, h2]), rfl⟩
set_option maxHeartbeats 2000000 in
theorem i_in (n a b : Int) (w : World) : Calls Tryd.prog 25 #[.int .i64 n, .int .i64 a, .int .i64 b] w fun e w' => e = .returned (.bool (decide (a ≤ n ∧ n ≤ b))) ∧ w' = w := by
  by_cases h1 : a ≤ n <;> by_cases h2 : n ≤ b
  all_goals
    go_enter Tryd.func25, Tryd.ntmps25
    go_wp2
    go_ret
    exact ⟨ret_bool (by simp [h1, h2]), rfl⟩
set_option maxHeartbeats 1000000 in
theorem s_digs (s : ByteArray) (w : World) (hs : s.size ≤ maxLen) : Calls Tryd.prog 30 #[.string s] w fun e w' => e = .returned (.bool (digsB s)) ∧ w' = w := by
  unfold maxLen at hs
  go_enter Tryd.func30, Tryd.ntmps30
  go_wp2
  go_loop [3] (fun i => ∃ k : Nat, k ≤ s.size ∧ i = .int .i64 k ∧ ∀ j (h : j < s.size), j < k → digitB (s[j].toNat : Int) = true) (fun i => s.size - (intOf i).toNat)
  case atStart => exact ⟨0, by omega, rfl, fun j h b => by omega⟩
  case round =>
    obtain ⟨k, hk, rfl, hm⟩ := hrel
    have HM := hide hm
    clear hm
    by_cases hlt : k < s.size
    · cases hb : digitB (s[k].toNat : Int)
      · go_wp2_with (go_at_call 42; refine (s_dig _ _).mono ?_; rintro e w' ⟨rfl, rfl⟩)
        go_ret
        exact ⟨ret_bool (digsB_no s k hlt hb).symm, rfl⟩
      · go_wp2_with (go_at_call 42; refine (s_dig _ _).mono ?_; rintro e w' ⟨rfl, rfl⟩)
        go_round
        case rel =>
          refine ⟨k + 1, by omega, by go_num, fun j h b => ?_⟩
          by_cases e : j = k
          · subst e; exact hb
          · exact HM.out j h (by omega)
        case measure => simp [intOf]; omega
    · go_wp2
      go_ret
      exact ⟨ret_bool (digsB_yes s (fun j h => HM.out j h (by omega))).symm, rfl⟩
theorem dig_lo {c : Int} (h : c < 48) : digitB c = false := by simp only [digitB, decide_eq_false_iff_not]; omega
theorem dig_hi {c : Int} (h : 57 < c) : digitB c = false := by simp only [digitB, decide_eq_false_iff_not]; omega
theorem dig_in {c : Int} (h : 48 ≤ c) (h' : c ≤ 57) : digitB c = true := by simp only [digitB, decide_eq_true_eq]; omega
set_option maxHeartbeats 1000000 in
theorem i_digs (s : ByteArray) (w : World) (hs : s.size ≤ maxLen) : Calls Tryd.prog 24 #[.string s] w fun e w' => e = .returned (.bool (digsB s)) ∧ w' = w := by
  unfold maxLen at hs
  go_enter Tryd.func24, Tryd.ntmps24
  go_wp2
  go_loop [3] (fun i => ∃ k : Nat, k ≤ s.size ∧ i = .int .i64 k ∧ ∀ j (h : j < s.size), j < k → digitB (s[j].toNat : Int) = true) (fun i => s.size - (intOf i).toNat)
  case atStart => exact ⟨0, by omega, rfl, fun j h b => by omega⟩
  case round =>
    obtain ⟨k, hk, rfl, hm⟩ := hrel
    have HM := hide hm
    clear hm
    by_cases hlt : k < s.size
    · rcases cases_dig (s[k].toNat : Int) with h | ⟨h, h'⟩ | h
      · go_wp2
        go_ret
        exact ⟨ret_bool (digsB_no s k hlt (dig_lo (by omega))).symm, rfl⟩
      · go_wp2
        go_round
        case rel =>
          refine ⟨k + 1, by omega, by go_num, fun j hj b => ?_⟩
          by_cases e : j = k
          · subst e; exact dig_in h h'
          · exact HM.out j hj (by omega)
        case measure => simp [intOf]; omega
      · go_wp2
        go_ret
        exact ⟨ret_bool (digsB_no s k hlt (dig_hi (by omega))).symm, rfl⟩
    · go_wp2
      go_ret
      exact ⟨ret_bool (digsB_yes s (fun j h => HM.out j h (by omega))).symm, rfl⟩


theorem s0_ne (s : ByteArray) (h : 0 < s.size) : ((s[0].toNat : Int) = 48) ∨ ¬ ((s[0].toNat : Int) = 48) := by omega
set_option maxHeartbeats 1000000 in
theorem s_decok (neg : Bool) (s : ByteArray) (sc : Int) (w : World) (hs : s.size ≤ maxLen) : Calls Tryd.prog 15 #[.agg #[.bool neg, .string s, .int .i64 sc]] w fun e w' => e = .returned (.bool (decB neg s sc)) ∧ Below w.heap.size w w' := by
  have HS := hide hs
  unfold maxLen at hs
  by_cases h60 : 60 < s.size
  · go_enter Tryd.func15, Tryd.ntmps15
    go_wp2
    go_ret
    exact ⟨ret_bool (decB_long neg s sc h60).symm, (Below.refl _ _).alloc (Nat.le_refl _) _⟩
  · cases hd : digsB s
    · go_enter Tryd.func15, Tryd.ntmps15
      go_wp2_with (go_at_call 30; refine (s_digs _ _ HS.out).mono ?_; rintro e w' ⟨rfl, rfl⟩)
      go_ret
      exact ⟨ret_bool (decB_digs neg s sc hd).symm, (Below.refl _ _).alloc (Nat.le_refl _) _⟩
    · by_cases hsc : 0 ≤ sc ∧ sc ≤ 60
      · have hscd : decide (0 ≤ sc ∧ sc ≤ 60) = true := by simpa using hsc
        by_cases h0 : s.size = 0
        · have hv := decB_none neg s sc h0
          have HV := hide hv
          clear hv
          cases neg
          all_goals
            by_cases hz : sc = 0
            all_goals
              go_enter Tryd.func15, Tryd.ntmps15
              go_wp2_with (first | (go_at_call 30; refine (s_digs _ _ HS.out).mono ?_; rintro e w' ⟨rfl, rfl⟩) | (go_at_call 31; refine (s_in _ _ _ _).mono ?_; rintro e w' ⟨rfl, rfl⟩))
              go_ret
              exact ⟨ret_bool (by rw [HV.out]; simp [hz]), (Below.refl _ _).alloc (Nat.le_refl _) _⟩
        · have hp : 0 < s.size := by omega
          have hv := decB_some neg s sc hp (by omega) hd hsc.1 hsc.2
          have HV := hide hv
          clear hv
          by_cases hf : (s[0].toNat : Int) = 48
          all_goals
            by_cases hz : sc = 0
            all_goals
              by_cases hl : (s[s.size - 1].toNat : Int) = 48
              all_goals
                go_enter Tryd.func15, Tryd.ntmps15
                go_wp2_with (first | (go_at_call 30; refine (s_digs _ _ HS.out).mono ?_; rintro e w' ⟨rfl, rfl⟩) | (go_at_call 31; refine (s_in _ _ _ _).mono ?_; rintro e w' ⟨rfl, rfl⟩))
                go_ret
                exact ⟨ret_bool (by rw [HV.out]; simp [hz, hf, hl]), (Below.refl _ _).alloc (Nat.le_refl _) _⟩
      · have hscd : decide (0 ≤ sc ∧ sc ≤ 60) = false := by simpa using hsc
        go_enter Tryd.func15, Tryd.ntmps15
        go_wp2_with (first | (go_at_call 30; refine (s_digs _ _ HS.out).mono ?_; rintro e w' ⟨rfl, rfl⟩) | (go_at_call 31; refine (s_in _ _ _ _).mono ?_; rintro e w' ⟨rfl, rfl⟩))
        go_ret
        exact ⟨ret_bool (decB_scale neg s sc (by omega)).symm, (Below.refl _ _).alloc (Nat.le_refl _) _⟩
set_option maxHeartbeats 1000000 in
theorem i_decok (neg : Bool) (s : ByteArray) (sc : Int) (w : World) (hs : s.size ≤ maxLen) : Calls Tryd.prog 11 #[.agg #[.bool neg, .string s, .int .i64 sc]] w fun e w' => e = .returned (.bool (decB neg s sc)) ∧ Below w.heap.size w w' := by
  have HS := hide hs
  unfold maxLen at hs
  by_cases h0 : s.size = 0
  · have hv := decB_none neg s sc h0
    have HV := hide hv
    clear hv
    have hse : s = ByteArray.empty := ByteArray.size_eq_zero_iff.1 h0
    subst hse
    cases neg
    all_goals
      by_cases hz : sc = 0
      all_goals
        go_enter Tryd.func11, Tryd.ntmps11
        go_wp2
        go_ret
        exact ⟨ret_bool (by rw [HV.out]; simp [hz]), (Below.refl _ _).alloc (Nat.le_refl _) _⟩
  · have hp : 0 < s.size := by omega
    by_cases h60 : 60 < s.size
    · go_enter Tryd.func11, Tryd.ntmps11
      go_wp2
      go_ret
      exact ⟨ret_bool (decB_long neg s sc h60).symm, (Below.refl _ _).alloc (Nat.le_refl _) _⟩
    · cases hd : digsB s
      · go_enter Tryd.func11, Tryd.ntmps11
        go_wp2_with (go_at_call 24; refine (i_digs _ _ HS.out).mono ?_; rintro e w' ⟨rfl, rfl⟩)
        go_ret
        exact ⟨ret_bool (decB_digs neg s sc hd).symm, (Below.refl _ _).alloc (Nat.le_refl _) _⟩
      · by_cases hf : (s[0].toNat : Int) = 48
        · go_enter Tryd.func11, Tryd.ntmps11
          go_wp2_with (go_at_call 24; refine (i_digs _ _ HS.out).mono ?_; rintro e w' ⟨rfl, rfl⟩)
          go_ret
          exact ⟨ret_bool (decB_first neg s sc hp (by omega)).symm, (Below.refl _ _).alloc (Nat.le_refl _) _⟩
        · have hfb : ((s[0].toNat : Int) == 48) = false := by simpa using hf
          have h60b : decide (60 < (s.size : Int)) = false := by simp; omega
          have h60c : (s.size : Int) ≤ 60 := by omega
          by_cases hsc : 1 ≤ sc ∧ sc ≤ 60
          · have hscd : decide (1 ≤ sc ∧ sc ≤ 60) = true := by simpa using hsc
            have hz : ¬ sc = 0 := by omega
            have hv := decB_some neg s sc hp (by omega) hd (by omega) (by omega)
            have HV := hide hv
            clear hv
            by_cases hl : (s[s.size - 1].toNat : Int) = 48
            all_goals
              go_enter Tryd.func11, Tryd.ntmps11
              go_wp2_with (first | (go_at_call 24; refine (i_digs _ _ HS.out).mono ?_; rintro e w' ⟨rfl, rfl⟩) | (go_at_call 25; refine (i_in _ _ _ _).mono ?_; rintro e w' ⟨rfl, rfl⟩))
              go_ret
              exact ⟨ret_bool (by rw [HV.out]; simp [hz, hf, hl]), (Below.refl _ _).alloc (Nat.le_refl _) _⟩
          · by_cases hz : sc = 0
            · subst hz
              have hv := decB_some neg s 0 hp (by omega) hd (by omega) (by omega)
              have HV := hide hv
              clear hv
              go_enter Tryd.func11, Tryd.ntmps11
              go_wp2_with (first | (go_at_call 24; refine (i_digs _ _ HS.out).mono ?_; rintro e w' ⟨rfl, rfl⟩))
              go_ret
              exact ⟨ret_bool (by rw [HV.out]; simp [hf]), (Below.refl _ _).alloc (Nat.le_refl _) _⟩
            · have hscd : decide (1 ≤ sc ∧ sc ≤ 60) = false := by simpa using hsc
              go_enter Tryd.func11, Tryd.ntmps11
              go_wp2_with (first | (go_at_call 24; refine (i_digs _ _ HS.out).mono ?_; rintro e w' ⟨rfl, rfl⟩) | (go_at_call 25; refine (i_in _ _ _ _).mono ?_; rintro e w' ⟨rfl, rfl⟩))
              go_ret
              exact ⟨ret_bool (by rw [decB_scale neg s sc (by omega)]; simpa using hz), (Below.refl _ _).alloc (Nat.le_refl _) _⟩
end Go.Proofs.YtdglamiifcagoacDoor
