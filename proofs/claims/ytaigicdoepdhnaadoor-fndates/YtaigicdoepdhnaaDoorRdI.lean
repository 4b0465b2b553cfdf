/-
  Contracts: numbers of a few digits and a text's shape, by the specification and by the program.
-/
import Derived.Test.YtaigicdoepdhnaaDoorRdMath
import Derived.Test.YtaigicdoepdhnaaDoorChecked
import Derived.Deep.QuietTactic
import Derived.BigQuiet
namespace Go.Proofs.YtaigicdoepdhnaaDoor
open Go.RowKit
set_option linter.unusedSimpArgs false
set_option linter.unusedVariables false
theorem dig_lo {c : Int} (h : c < 48) : digitB c = false := by simp only [digitB, decide_eq_false_iff_not]; omega
theorem dig_hi {c : Int} (h : 57 < c) : digitB c = false := by simp only [digitB, decide_eq_false_iff_not]; omega
theorem dig_in {c : Int} (h : 48 ≤ c) (h' : c ≤ 57) : digitB c = true := by simp only [digitB, decide_eq_true_eq]; omega
theorem cases_dig (c : Int) : c ≤ 47 ∨ (48 ≤ c ∧ c ≤ 57) ∨ 58 ≤ c := by omega
set_option maxHeartbeats 2000000 in
theorem s_dig (c : Int) (w : World) : Calls Tryd.prog 47 #[.int .u8 c] w fun e w' => e = .returned (.bool (digitB c)) ∧ w' = w := by
  rcases cases_dig c with h | ⟨h, h'⟩ | h
  all_goals
    go_enter Tryd.func47, Tryd.ntmps47
    go_wp2
    go_ret
    exact ⟨ret_bool (by first | decide | (rw [Bool.eq_iff_iff]; simp only [digitB, Bool.or_eq_true, Bool.and_eq_true, decide_eq_true_eq, beq_iff_eq, true_iff, false_iff, iff_true, iff_false, Bool.false_eq_true]; omega)), rfl⟩
set_option maxHeartbeats 1000000 in
theorem s_digs (s : ByteArray) (w : World) (hs : s.size ≤ maxLen) : Calls Tryd.prog 37 #[.string s] w fun e w' => e = .returned (.bool (digsB s)) ∧ w' = w := by
  unfold maxLen at hs
  go_enter Tryd.func37, Tryd.ntmps37
  go_wp2
  go_loop [3] (fun i => ∃ k : Nat, k ≤ s.size ∧ i = .int .i64 k ∧ ∀ j (h : j < s.size), j < k → digitB (s[j].toNat : Int) = true) (fun i => s.size - (intOf i).toNat)
  case atStart => exact ⟨0, by omega, rfl, fun j h b => by omega⟩
  case round =>
    obtain ⟨k, hk, rfl, hm⟩ := hrel
    have HM := hide hm
    clear hm
    by_cases hlt : k < s.size
    · cases hb : digitB (s[k].toNat : Int)
      · go_wp2_with (go_at_call 47; refine (s_dig _ _).mono ?_; rintro e w' ⟨rfl, rfl⟩)
        go_ret
        exact ⟨ret_bool (digsB_no s k hlt hb).symm, rfl⟩
      · go_wp2_with (go_at_call 47; refine (s_dig _ _).mono ?_; rintro e w' ⟨rfl, rfl⟩)
        go_round
        case rel =>
          refine ⟨k + 1, by omega, by go_num, fun j h b => ?_⟩
          by_cases e : j = k
          · subst e; exact hb
          · exact HM.out j h (by omega)
        case measure => simp [intOf]; omega
    · go_wp2
      go_ret
      exact ⟨ret_bool (digsB_yes s (fun j h => HM.out j h (by omega))).symm, rfl⟩
set_option maxHeartbeats 1000000 in
theorem i_num (t : ByteArray) (w : World) (hs : t.size ≤ 4) (hd : digsB t = true) : Calls Tryd.prog 19 #[.string t] w fun e w' => e = .returned (.int .i64 (numB t)) ∧ w' = w := by
  have HD := hide hd
  clear hd
  go_enter Tryd.func19, Tryd.ntmps19
  go_wp2
  go_loop [3, 7] (fun n i => ∃ k : Nat, k ≤ t.size ∧ i = .int .i64 k ∧ n = .int .i64 (numK t k)) (fun _ i => t.size - (intOf i).toNat)
  case atStart => exact ⟨0, Nat.zero_le _, rfl, rfl⟩
  case round =>
    obtain ⟨k, hk, rfl, rfl⟩ := hrel
    have hb := numK_bd HD.out k hk
    have hp := pw_bd (k := k) (by omega)
    by_cases hlt : k < t.size
    · have hc := dig_at HD.out hlt
      rw [at8_eq t k hlt] at hc
      obtain ⟨hc1, hc2⟩ := hc
      have HN := hide (show numK t (k + 1) = numK t k * 10 + ((t[k].toNat : Int) - 48) by simp only [numK]; rw [at8_eq t k hlt])
      obtain ⟨p, hpp⟩ : ∃ p, pw k = p := ⟨_, rfl⟩
      rw [hpp] at hb hp
      go_wp2
      go_round
      case rel => exact ⟨k + 1, by omega, by go_num, by rw [HN.out]⟩
      case measure => simp [intOf]; omega
    · have HK := hide (show numB t = numK t k by rw [numB, show t.size = k by omega])
      go_wp2
      go_ret
      exact ⟨ret_int HK.out.symm, rfl⟩
set_option maxHeartbeats 2000000 in
theorem i_shape (s p : ByteArray) (w : World) (hs : s.size ≤ maxLen) (hp : p.size ≤ 30) : Calls Tryd.prog 17 #[.string s, .string p] w fun e w' => e = .returned (.bool (shB s p)) ∧ ∃ n, w' = w.drewN n := by
  unfold maxLen at hs
  by_cases hsz : s.size = p.size
  · have HSZ := hide hsz
    have hsz1 : s.size ≤ p.size := by omega
    have hsz2 : p.size ≤ s.size := by omega
    have hne : ((s.size : Int) != (p.size : Int)) = false := by simp; omega
    clear hsz
    go_enter Tryd.func17, Tryd.ntmps17
    go_wp2
    go_loopw [14] (fun i wr => ∃ k : Nat, k ≤ p.size ∧ i = .int .i64 k ∧ Hid (∀ j, j < k → (if at8 p j = 48 then digitB (at8 s j) else decide (at8 s j = at8 p j)) = true) ∧ ∃ n, wr = w.drewN n) (fun i _ => p.size - (intOf i).toNat)
    case atStart => exact ⟨0, Nat.zero_le _, rfl, hide (fun j hj => by omega), 0, rfl⟩
    case round =>
      obtain ⟨k, hk, rfl, HM, n, rfl⟩ := hrel
      by_cases hlt : k < p.size
      · have hlt2 : k < s.size := by omega
        have HA := hide (at8_eq s k hlt2)
        have HB := hide (at8_eq p k hlt)
        by_cases hy : (p[k].toNat : Int) = 48
        · have hyb : ((p[k].toNat : Int) == 48) = true := by simpa using hy
          have hyn : ((p[k].toNat : Int) != 48) = false := by simpa using hy
          have HY := hide hy
          clear hy
          rcases cases_dig (s[k].toNat : Int) with hx | ⟨hx, hx'⟩ | hx
          · go_wp2_with fail
            go_quiet (fail)
            go_wp2
            go_ret
            exact ⟨ret_bool (shB_no k hlt (by rw [HB.out, HA.out, if_pos HY.out]; exact dig_lo (by omega))).symm, _, by first | rfl | rw [World.drewN_drewN]⟩
          · go_wp2_with fail
            go_quiet (fail)
            go_wp2
            go_roundw
            case rel =>
              refine ⟨k + 1, by omega, by go_num, hide (fun j hj => ?_), _, by first | rfl | rw [World.drewN_drewN]⟩
              by_cases e : j = k
              · subst e; rw [HB.out, HA.out, if_pos HY.out]; exact dig_in hx hx'
              · exact HM.out j (by omega)
            case measure => simp [intOf]; omega
          · have hx57 : decide ((s[k].toNat : Int) ≤ 57) = false := decide_eq_false (by omega)
            go_wp2_with fail
            go_quiet (fail)
            go_wp2
            go_ret
            exact ⟨ret_bool (shB_no k hlt (by rw [HB.out, HA.out, if_pos HY.out]; exact dig_hi (by omega))).symm, _, by first | rfl | rw [World.drewN_drewN]⟩
        · have hyb : ((p[k].toNat : Int) == 48) = false := by simpa using hy
          have hyn : ((p[k].toNat : Int) != 48) = true := by simpa using hy
          have HY := hide hy
          clear hy
          by_cases he : (s[k].toNat : Int) = (p[k].toNat : Int)
          · have heb : ((s[k].toNat : Int) != (p[k].toNat : Int)) = false := by simpa using he
            have HE := hide he
            clear he
            rcases cases_dig (s[k].toNat : Int) with hx | ⟨hx, hx'⟩ | hx
            all_goals
              go_wp2_with fail
              go_quiet (fail)
              go_wp2
              go_roundw
              case rel =>
                refine ⟨k + 1, by omega, by go_num, hide (fun j hj => ?_), _, by first | rfl | rw [World.drewN_drewN]⟩
                by_cases e : j = k
                · subst e; rw [HB.out, HA.out, if_neg HY.out]; exact decide_eq_true HE.out
                · exact HM.out j (by omega)
              case measure => simp [intOf]; omega
          · have heb : ((s[k].toNat : Int) != (p[k].toNat : Int)) = true := by simpa using he
            have HE := hide he
            clear he
            rcases cases_dig (s[k].toNat : Int) with hx | ⟨hx, hx'⟩ | hx
            all_goals
              go_wp2_with fail
              go_quiet (fail)
              go_wp2
              go_ret
              exact ⟨ret_bool (shB_no k hlt (by rw [HB.out, HA.out, if_neg HY.out]; exact decide_eq_false HE.out)).symm, _, by first | rfl | rw [World.drewN_drewN]⟩
      · go_wp2
        go_ret
        exact ⟨ret_bool (shB_yes HSZ.out (fun j hj => HM.out j (by omega))).symm, _, rfl⟩
  · have hne : ((s.size : Int) != (p.size : Int)) = true := by simp; omega
    have HSZ := hide hsz
    clear hsz
    go_enter Tryd.func17, Tryd.ntmps17
    go_wp2
    go_ret
    exact ⟨ret_bool (shB_size HSZ.out).symm, 0, rfl⟩
set_option maxHeartbeats 1000000 in
theorem s_part (s : ByteArray) (a m : Nat) (w : World) (hs : s.size ≤ 1048576) (ha : a ≤ 100) (hm : m ≤ 4) : Calls Tryd.prog 27 #[.string s, .int .i64 a, .int .i64 m] w fun e w' => e = .returned (.int .i64 (partV s a m)) ∧ w' = w := by
  by_cases hlt : s.size < a + m
  · have HV := hide (show partV s a m = -1 by simp [partV, hlt])
    go_enter Tryd.func27, Tryd.ntmps27
    go_wp2
    go_ret
    exact ⟨ret_int HV.out.symm, rfl⟩
  · obtain ⟨t, ht⟩ : ∃ t, s.extract a (a + m) = t := ⟨_, rfl⟩
    have HT := hide ht
    have hts : t.size ≤ 4 := by rw [← ht, ext_size s a (a + m) (by omega)]; omega
    have HTS := hide (show t.size = m by rw [← ht, ext_size s a (a + m) (by omega)]; omega)
    have HTA := hide (show ∀ j (hj : j < m), at8 t j = at8 s (a + j) from fun j hj => by rw [← ht]; exact ext_at s a (a + m) j (by omega) (by omega))
    have hmx : t.size ≤ maxLen := by unfold maxLen; omega
    have HMX := hide hmx
    have hi2 : (a : Int) ≤ (a : Int) + (m : Int) := by omega
    have hi3 : (a : Int) + (m : Int) ≤ (s.size : Int) := by omega
    have hi4 : ((a : Int) + (m : Int)).toNat = a + m := by omega
    have hi5 : ¬ ((s.size : Int) < (a : Int) + (m : Int)) := by omega
    cases hd : digsB t
    · have HV := hide (show partV s a m = -1 by simp [partV, hlt, ht, hd])
      clear hmx
      go_enter Tryd.func27, Tryd.ntmps27
      go_wp2_with (go_at_call 37; refine (s_digs _ _ HMX.out).mono ?_; rintro e w' ⟨rfl, rfl⟩)
      go_ret
      exact ⟨ret_int HV.out.symm, rfl⟩
    · have HV := hide (show partV s a m = numK t m by rw [partV, if_neg hlt, ht, if_pos hd, numB, HTS.out])
      have HD := hide hd
      clear hmx
      go_enter Tryd.func27, Tryd.ntmps27
      go_wp2_with (go_at_call 37; refine (s_digs _ _ HMX.out).mono ?_; rintro e w' ⟨rfl, rfl⟩)
      go_loop [7, 8] (fun n i => ∃ k : Nat, k ≤ m ∧ i = .int .i64 ((a + k : Nat) : Int) ∧ n = .int .i64 (numK t k)) (fun _ i => a + m - (intOf i).toNat)
      case atStart => exact ⟨0, Nat.zero_le _, by simp, rfl⟩
      case round =>
        obtain ⟨k, hk, rfl, rfl⟩ := hrel
        have hb := numK_bd HD.out k (by have := HTS.out; omega)
        have hp := pw_bd (k := k) (by omega)
        obtain ⟨p, hpp⟩ : ∃ p, pw k = p := ⟨_, rfl⟩
        rw [hpp] at hb hp
        by_cases hkm : k < m
        · have hak : a + k < s.size := by omega
          have hc := dig_at HD.out (j := k) (by have := HTS.out; omega)
          rw [HTA.out k hkm, at8_eq s (a + k) hak] at hc
          obtain ⟨hc1, hc2⟩ := hc
          have HN := hide (show numK t (k + 1) = numK t k * 10 + ((s[a + k].toNat : Int) - 48) by simp only [numK]; rw [HTA.out k hkm, at8_eq s (a + k) hak])
          go_wp2
          go_round
          case rel => exact ⟨k + 1, by omega, by go_num, by rw [HN.out]⟩
          case measure => simp [intOf]; omega
        · have HK : k = m := by omega
          have HK' := hide HK
          clear HK
          go_wp2
          go_ret
          exact ⟨ret_int (by rw [HV.out, HK'.out]), rfl⟩
end Go.Proofs.YtaigicdoepdhnaaDoor
