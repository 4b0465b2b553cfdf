/-
  Contracts of the specification: signs, characters' texts, classes' texts, counts' texts.
-/
import Derived.Test.YtdkldcobgjagkaaDoorTeD
import Derived.Test.YtdkldcobgjagkaaDoorRngEq
namespace Go.Proofs.YtdkldcobgjagkaaDoor
open Go.RowKit Go.Joins
set_option linter.unusedVariables false
set_option linter.unusedSimpArgs false
set_option maxRecDepth 100000 in
set_option maxHeartbeats 2000000 in
theorem s_meta (c : Int) (w : World) : Calls Tryd.prog 74 #[.int .i64 c] w fun e w' => e = .returned (.bool (isS sgO c)) ∧ w' = w := by
  go_enter Tryd.func74, Tryd.ntmps74
  go_wp2
  go_loop [3] (fun i => ∃ k : Nat, k ≤ 12 ∧ i = .int .i64 k ∧ Hid (∀ j, j < k → ((sgO[j]?.getD 0).toNat : Int) ≠ c)) (fun i => 12 - (intOf i).toNat)
  case atStart => exact ⟨0, Nat.zero_le _, rfl, fun j h => by omega⟩
  case round =>
    obtain ⟨k, hk, rfl, HA⟩ := hrel
    by_cases hlt : k < 12
    · have hki : (k : Int) < 12 := by omega
      have hkb : k < (⟨#[46, 92, 63, 42, 43, 123, 125, 40, 41, 124, 91, 93]⟩ : ByteArray).size := hlt
      have hkb2 : (k : Int) < ((⟨#[46, 92, 63, 42, 43, 123, 125, 40, 41, 124, 91, 93]⟩ : ByteArray).size : Int) := hki
      obtain ⟨x, hx⟩ : ∃ x : UInt8, (⟨#[46, 92, 63, 42, 43, 123, 125, 40, 41, 124, 91, 93]⟩ : ByteArray)[k]'hkb = x := ⟨_, rfl⟩
      have hx2 : sgO[k]?.getD 0 = x := by
        rw [← hx]
        have hkl : k < sgO.length := hlt
        rw [List.getElem?_eq_getElem hkl]
        rfl
      have HX2 := hide hx2
      have hx8 : x.toNat < 256 := x.toNat_lt
      clear hx2
      by_cases he : (x.toNat : Int) = c
      · have heb : ((x.toNat : Int) == c) = true := by rw [beq_iff_eq]; exact he
        have HY : Hid (isS sgO c = true) := hide (isS_yes (j := k) hlt (by rw [HX2.out]; exact he))
        clear he
        go_wp2
        go_ret
        exact ⟨ret_bool HY.out.symm, rfl⟩
      · have heb : ((x.toNat : Int) == c) = false := by rw [beq_eq_false_iff_ne]; exact he
        have HA2 : Hid (∀ j, j < k + 1 → ((sgO[j]?.getD 0).toNat : Int) ≠ c) := hide (fun j hj => by
          by_cases e : j = k
          · subst e; rw [HX2.out]; exact he
          · exact HA.out j (by omega))
        clear he
        go_wp2
        go_round
        case rel => exact ⟨k + 1, by omega, by go_num, HA2⟩
        case measure => simp [intOf]; omega
    · have hkm : k = 12 := by omega
      subst hkm
      have HN : Hid (isS sgO c = false) := hide (isS_no HA.out)
      go_wp2
      go_ret
      exact ⟨ret_bool HN.out.symm, rfl⟩
theorem ch_sgI (c : Int) : isS sgI c = decide (c = 91 ∨ c = 93 ∨ c = 92 ∨ c = 45 ∨ c = 94) := by
  unfold isS sgI
  rw [Bool.eq_iff_iff]
  simp
  omega
/-- A character's text, written within brackets or not. -/
def sgOf (ins : Bool) : List UInt8 := if ins = true then sgI else sgO
set_option maxRecDepth 100000 in
set_option maxHeartbeats 4000000 in
theorem s_sign (c : Int) (ins : Bool) (w : World) (hc : chB c = true) : Calls Tryd.prog 61 #[.int .i64 c, .bool ins] w fun e w' => e = .returned (.string (chT (sgOf ins) c)) ∧ Below w.heap.size w w' := by
  by_cases h10 : c = 10
  · subst h10
    go_enter Tryd.func61, Tryd.ntmps61
    go_wp2
    go_ret
    exact ⟨rfl, Below.refl _ _⟩
  · by_cases h13 : c = 13
    · subst h13
      go_enter Tryd.func61, Tryd.ntmps61
      go_wp2
      go_ret
      exact ⟨rfl, Below.refl _ _⟩
    · by_cases h9 : c = 9
      · subst h9
        go_enter Tryd.func61, Tryd.ntmps61
        go_wp2
        go_ret
        exact ⟨rfl, Below.refl _ _⟩
      · have b10 : (c == 10) = false := by rw [beq_eq_false_iff_ne]; exact h10
        have b13 : (c == 13) = false := by rw [beq_eq_false_iff_ne]; exact h13
        have b9 : (c == 9) = false := by rw [beq_eq_false_iff_ne]; exact h9
        have HCH : Hid (∀ b, isS (sgOf ins) c = b → chT (sgOf ins) c = if b = true then ⟨#[92]⟩ ++ Utf8.encode c else Utf8.encode c) := hide (fun b hb => by
          unfold chT
          rw [if_neg h10, if_neg h13, if_neg h9, hb])
        have CE := hide (s_enc c w hc)
        have hes := enc_size c
        obtain ⟨E, hE⟩ : ∃ E, Utf8.encode c = E := ⟨_, rfl⟩
        rw [hE] at CE HCH hes
        have CM := hide (s_meta c w)
        clear hE hc
        cases ins
        · cases hm : isS sgO c
          · have HV := hide (HCH.out false hm)
            rw [hm] at CM
            clear h10 h13 h9
            go_enter Tryd.func61, Tryd.ntmps61
            go_wp2_with (first | (go_at_call 74; refine CM.out.mono ?_; rintro e w9 ⟨rfl, h9⟩; rw [h9]; clear h9 w9) | (go_at_call 75; refine CE.out.mono ?_; rintro e w2 ⟨rfl, hb2⟩; have HB2 := hide hb2; clear hb2))
            go_ret
            exact ⟨ret_s9 (by rw [HV.out]; rfl), HB2.out⟩
          · have HV := hide (HCH.out true hm)
            rw [hm] at CM
            clear h10 h13 h9
            go_enter Tryd.func61, Tryd.ntmps61
            go_wp2_with (first | (go_at_call 74; refine CM.out.mono ?_; rintro e w9 ⟨rfl, h9⟩; rw [h9]; clear h9 w9) | (go_at_call 75; refine CE.out.mono ?_; rintro e w2 ⟨rfl, hb2⟩; have HB2 := hide hb2; clear hb2))
            go_ret
            exact ⟨ret_s9 (by rw [HV.out]; rfl), HB2.out⟩
        · by_cases hx : c = 91 ∨ c = 93 ∨ c = 92 ∨ c = 45 ∨ c = 94
          · have HV := hide (HCH.out true (by show isS sgI c = true; rw [ch_sgI]; exact decide_eq_true hx))
            clear h10 h13 h9
            rcases hx with rfl | rfl | rfl | rfl | rfl
            all_goals
              go_enter Tryd.func61, Tryd.ntmps61
              go_wp2_with (first | (go_at_call 74; refine CM.out.mono ?_; rintro e w9 ⟨rfl, h9⟩; rw [h9]; clear h9 w9; simp only [isS, sgO, List.any_cons, List.any_nil]) | (go_at_call 75; refine CE.out.mono ?_; rintro e w2 ⟨rfl, hb2⟩; have HB2 := hide hb2; clear hb2))
              go_ret
              exact ⟨ret_s9 (by rw [HV.out]; rfl), HB2.out⟩
          · have HV := hide (HCH.out false (by show isS sgI c = false; rw [ch_sgI]; exact decide_eq_false hx))
            have b1 : (c == 91) = false := by rw [beq_eq_false_iff_ne]; omega
            have b2 : (c == 93) = false := by rw [beq_eq_false_iff_ne]; omega
            have b3 : (c == 92) = false := by rw [beq_eq_false_iff_ne]; omega
            have b4 : (c == 45) = false := by rw [beq_eq_false_iff_ne]; omega
            have b5 : (c == 94) = false := by rw [beq_eq_false_iff_ne]; omega
            clear hx h10 h13 h9
            cases hm : isS sgO c
            all_goals
              rw [hm] at CM
              go_enter Tryd.func61, Tryd.ntmps61
              go_wp2_with (first | (go_at_call 74; refine CM.out.mono ?_; rintro e w9 ⟨rfl, h9⟩; rw [h9]; clear h9 w9) | (go_at_call 75; refine CE.out.mono ?_; rintro e w2 ⟨rfl, hb2⟩; have HB2 := hide hb2; clear hb2))
              go_ret
              exact ⟨ret_s9 (by rw [HV.out]; rfl), HB2.out⟩
end Go.Proofs.YtdkldcobgjagkaaDoor
