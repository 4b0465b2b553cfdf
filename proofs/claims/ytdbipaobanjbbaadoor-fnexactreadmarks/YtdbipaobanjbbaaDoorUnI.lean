/-
  Contracts: what the program takes a mark for.
-/
import Derived.Test.YtdbipaobanjbbaaDoorUnLit
namespace Go.Proofs.YtdbipaobanjbbaaDoor
open Go.RowKit
set_option linter.unusedVariables false
set_option linter.unusedSimpArgs false
set_option maxHeartbeats 2000000 in
theorem i_digits (d : ByteArray) (hd : d.size ≤ 7) (w : World) :
    Calls Tryd.prog 68 #[.string d] w fun e w' => e = .returned (.tuple #[.string (strO (refD d.data.toList)), .bool (refD d.data.toList).isSome]) ∧ w' = w := by
  obtain ⟨R, hR⟩ : ∃ R, refD d.data.toList = R := ⟨_, rfl⟩
  have HR := hide hR
  rw [hR]
  clear hR
  go_enter Tryd.func68, Tryd.ntmps68
  go_wp2
  go_loop [4, 5] (fun nv iv => ∃ (k v : Nat), k ≤ d.size ∧ iv = .int .i64 k ∧ nv = .int .i64 v ∧ v ≤ 9999999 ∧ Hid ((d.data.toList.take k).all digB = true ∧ numA 0 (d.data.toList.take k) = v)) (fun _ iv => d.size - (intOf iv).toNat)
  case atStart => exact ⟨0, 0, Nat.zero_le _, rfl, rfl, by omega, hide ⟨rfl, rfl⟩⟩
  case round =>
    obtain ⟨k, v, hk, rfl, rfl, hv, HV⟩ := hrel
    by_cases hlt : k < d.size
    · by_cases h1 : (d[k].toNat : Int) < 48
      · have HN := hide (HR.out.symm.trans (refD_bad (at_mem hlt) (dig_no (.inl h1))))
        go_wp2
        go_ret2
        exact ⟨un_ret (by rw [HN.out]; rfl) (by rw [HN.out]; rfl), rfl⟩
      · by_cases h2 : 57 < (d[k].toNat : Int)
        · have HN := hide (HR.out.symm.trans (refD_bad (at_mem hlt) (dig_no (.inr h2))))
          have h3 : 48 ≤ (d[k].toNat : Int) := by omega
          clear h1
          go_wp2
          go_ret2
          exact ⟨un_ret (by rw [HN.out]; rfl) (by rw [HN.out]; rfl), rfl⟩
        · have h3 : 48 ≤ (d[k].toNat : Int) := by omega
          have h4 : (d[k].toNat : Int) ≤ 57 := by omega
          have HD := hide (dig_yes h3 h4)
          clear h1 h2
          go_wp2
          go_round
          case rel =>
            have ha := all_next HV.out.1 HD.out
            have hn := num_next (d.data.toList.take k) d[k]
            rw [← take_next hlt] at ha hn
            rw [HV.out.2] at hn
            have hb := num_bd ha (by rw [take_len (by omega)]; omega)
            rw [hn] at hb
            exact ⟨k + 1, v * 10 + (d[k].toNat - 48), by omega, by go_num, congrArg (Value.int .i64) (by omega), hb, hide ⟨ha, hn⟩⟩
          case measure => simp [intOf]; omega
    · have HT : Hid ((d.data.toList).all digB = true ∧ numA 0 (d.data.toList) = v) := hide (by have h := HV.out; rw [take_all (by omega)] at h; exact h)
      cases hc : docB (v : Int)
      · have HN := hide (HR.out.symm.trans (refD_doc HT.out.2 hc))
        go_wp2_with (go_at_call 65; refine (i_doc _ _).mono ?_; rintro e w' ⟨rfl, rfl⟩)
        go_ret2
        exact ⟨un_ret (by rw [HN.out]; rfl) (by rw [HN.out]; rfl), rfl⟩
      · have HN := hide (HR.out.symm.trans (refD_yes HT.out.2 HT.out.1 hc))
        have HE := hide (enc_eq v hc)
        go_wp2_with (go_at_call 65; refine (i_doc _ _).mono ?_; rintro e w' ⟨rfl, rfl⟩)
        go_ret2
        exact ⟨un_ret (by rw [HN.out]; exact HE.out) (by rw [HN.out]; rfl), rfl⟩
set_option maxHeartbeats 2000000 in
theorem i_hasp (m : ByteArray) (w : World) (h1 : 1 ≤ (m.size : Int)) :
    Calls Tryd.prog 88 #[.string m, .string ⟨#[35]⟩] w fun e w' => e = .returned (.bool ((m.extract 0 1).toList == [35])) ∧ w' = w := by
  go_enter Tryd.func88, Tryd.ntmps88
  go_wp2
  go_ret
  exact ⟨rfl, rfl⟩
set_option maxHeartbeats 2000000 in
theorem i_hasp0 (m : ByteArray) (w : World) (h1 : (m.size : Int) < 1) :
    Calls Tryd.prog 88 #[.string m, .string ⟨#[35]⟩] w fun e w' => e = .returned (.bool false) ∧ w' = w := by
  go_enter Tryd.func88, Tryd.ntmps88
  go_wp2
  go_ret
  exact ⟨rfl, rfl⟩
set_option maxHeartbeats 2000000 in
theorem i_cutp (m : ByteArray) (w : World) (b : Bool) (hb : ∀ w, Calls Tryd.prog 88 #[.string m, .string ⟨#[35]⟩] w fun e w' => e = .returned (.bool b) ∧ w' = w) (hs : b = true → 1 ≤ m.size) :
    Calls Tryd.prog 67 #[.string m, .string ⟨#[35]⟩] w fun e w' => e = .returned (.tuple #[.string (cond b (m.extract 1 m.size) m), .bool b]) ∧ w' = w := by
  have C : Calls Tryd.prog 81 #[.string m, .string ⟨#[35]⟩] w fun e w' => e = .returned (.tuple #[.string (cond b (m.extract 1 m.size) m), .bool b]) ∧ w' = w := by
    cases b
    · go_enter Tryd.func81, Tryd.ntmps81
      go_wp2_with (go_at_call 88; refine (hb _).mono ?_; rintro e w' ⟨rfl, rfl⟩)
      go_ret2
      exact ⟨rfl, rfl⟩
    · have h1 := hs rfl
      go_enter Tryd.func81, Tryd.ntmps81
      go_wp2_with (go_at_call 88; refine (hb _).mono ?_; rintro e w' ⟨rfl, rfl⟩)
      go_ret2
      exact ⟨rfl, rfl⟩
  obtain ⟨X, hX⟩ : ∃ X, cond b (m.extract 1 m.size) m = X := ⟨_, rfl⟩
  rw [hX] at C ⊢
  have HC := hide C
  clear C hX hs hb
  go_enter Tryd.func67, Tryd.ntmps67
  go_wp2_with (go_at_call 81; refine HC.out.mono ?_; rintro e w' ⟨rfl, rfl⟩)
  go_ret2
  exact ⟨rfl, rfl⟩
set_option maxHeartbeats 4000000 in
theorem i_charOf (m : ByteArray) (hm : m.size ≤ 1048576) (w : World) :
    Calls Tryd.prog 47 #[.string m] w fun e w' => e = .returned (.tuple #[.string (strO (refB m.data.toList)), .bool (refB m.data.toList).isSome]) ∧ w' = w := by
  obtain ⟨R, hR⟩ : ∃ R, refB m.data.toList = R := ⟨_, rfl⟩
  have HR := hide hR
  rw [hR]
  clear hR
  by_cases h1 : m.data.toList = [97, 109, 112]
  · have HV : Hid (R = some [38]) := hide (by rw [← HR.out, h1]; rfl)
    have f1 := eq_lit h1
    clear h1
    go_enter Tryd.func47, Tryd.ntmps47
    go_wp2
    go_ret2
    exact ⟨un_ret (by rw [HV.out]; rfl) (by rw [HV.out]; rfl), rfl⟩
  by_cases h2 : m.data.toList = [108, 116]
  · have HV : Hid (R = some [60]) := hide (by rw [← HR.out, h2]; rfl)
    have f1 := ne_lit h1
    have f2 := eq_lit h2
    clear h1 h2
    go_enter Tryd.func47, Tryd.ntmps47
    go_wp2
    go_ret2
    exact ⟨un_ret (by rw [HV.out]; rfl) (by rw [HV.out]; rfl), rfl⟩
  by_cases h3 : m.data.toList = [103, 116]
  · have HV : Hid (R = some [62]) := hide (by rw [← HR.out, h3]; rfl)
    have f1 := ne_lit h1
    have f2 := ne_lit h2
    have f3 := eq_lit h3
    clear h1 h2 h3
    go_enter Tryd.func47, Tryd.ntmps47
    go_wp2
    go_ret2
    exact ⟨un_ret (by rw [HV.out]; rfl) (by rw [HV.out]; rfl), rfl⟩
  by_cases h4 : m.data.toList = [113, 117, 111, 116]
  · have HV : Hid (R = some [34]) := hide (by rw [← HR.out, h4]; rfl)
    have f1 := ne_lit h1
    have f2 := ne_lit h2
    have f3 := ne_lit h3
    have f4 := eq_lit h4
    clear h1 h2 h3 h4
    go_enter Tryd.func47, Tryd.ntmps47
    go_wp2
    go_ret2
    exact ⟨un_ret (by rw [HV.out]; rfl) (by rw [HV.out]; rfl), rfl⟩
  by_cases h5 : m.data.toList = [97, 112, 111, 115]
  · have HV : Hid (R = some [39]) := hide (by rw [← HR.out, h5]; rfl)
    have f1 := ne_lit h1
    have f2 := ne_lit h2
    have f3 := ne_lit h3
    have f4 := ne_lit h4
    have f5 := eq_lit h5
    clear h1 h2 h3 h4 h5
    go_enter Tryd.func47, Tryd.ntmps47
    go_wp2
    go_ret2
    exact ⟨un_ret (by rw [HV.out]; rfl) (by rw [HV.out]; rfl), rfl⟩
  have f1 := ne_lit h1
  have f2 := ne_lit h2
  have f3 := ne_lit h3
  have f4 := ne_lit h4
  have f5 := ne_lit h5
  by_cases h6 : m.size < 1
  · have HV : Hid (R = none) := hide (by rw [← HR.out, refB_none h1 h2 h3 h4 h5 (hash_nil h6)])
    have HC := hide (i_cutp m w false (fun w => i_hasp0 m w (by omega)) (by simp))
    have h61 : (m.size : Int) < 1 := by omega
    clear h1 h2 h3 h4 h5 h6
    go_enter Tryd.func47, Tryd.ntmps47
    go_wp2_with (go_at_call 67; refine HC.out.mono ?_; rintro e w' ⟨rfl, rfl⟩)
    go_ret2
    exact ⟨un_ret (by rw [HV.out]; rfl) (by rw [HV.out]; rfl), rfl⟩
  cases h7 : ((m.extract 0 1).toList == [35])
  · have HV : Hid (R = none) := hide (by rw [← HR.out, refB_none h1 h2 h3 h4 h5 (hash_no h7)])
    have HC := hide (i_cutp m w false (fun w => by have := i_hasp m w (by omega); rw [h7] at this; exact this) (by simp))
    clear h1 h2 h3 h4 h5 h7
    go_enter Tryd.func47, Tryd.ntmps47
    go_wp2_with (go_at_call 67; refine HC.out.mono ?_; rintro e w' ⟨rfl, rfl⟩)
    go_ret2
    exact ⟨un_ret (by rw [HV.out]; rfl) (by rw [HV.out]; rfl), rfl⟩
  · have HC := hide (i_cutp m w true (fun w => by have := i_hasp m w (by omega); rw [h7] at this; exact this) (fun _ => by omega))
    have hy := hash_yes (m := m) (by omega) (by rw [h7])
    have hl : m.data.toList.length = m.size := Array.length_toList
    have hz : (m.extract 1 m.size).size = m.size - 1 := by simp
    have hdl : (m.extract 1 m.size).data.toList.length = (m.extract 1 m.size).size := Array.length_toList
    obtain ⟨X, hX⟩ : ∃ X, m.extract 1 m.size = X := ⟨_, rfl⟩
    rw [hX] at hy HC hz hdl
    simp only [cond_true] at HC
    by_cases h8 : 8 < m.size
    · have HV : Hid (R = none) := hide (by rw [← HR.out, refB_long (by rw [hl]; exact h8)])
      have h81 : 8 < (m.size : Int) := by omega
      clear h1 h2 h3 h4 h5 h7 hy hX hl hz hdl h6 h8
      go_enter Tryd.func47, Tryd.ntmps47
      go_wp2_with (go_at_call 67; refine HC.out.mono ?_; rintro e w' ⟨rfl, rfl⟩)
      go_ret2
      exact ⟨un_ret (by rw [HV.out]; rfl) (by rw [HV.out]; rfl), rfl⟩
    · have HV : Hid (refD X.data.toList = R) := hide (by rw [← HR.out, hy, refB_hash (by omega)])
      have h81 : (m.size : Int) ≤ 8 := by omega
      have HD := hide (i_digits X (by omega) w)
      rw [HV.out] at HD
      clear h1 h2 h3 h4 h5 h7 hy hX hl hz hdl h6 h8
      go_enter Tryd.func47, Tryd.ntmps47
      go_wp2_with (first | (go_at_call 67; refine HC.out.mono ?_; rintro e w' ⟨rfl, rfl⟩) | (go_at_call 68; refine HD.out.mono ?_; rintro e w' ⟨rfl, rfl⟩))
      go_ret2
      exact ⟨rfl, rfl⟩
end Go.Proofs.YtdbipaobanjbbaaDoor
