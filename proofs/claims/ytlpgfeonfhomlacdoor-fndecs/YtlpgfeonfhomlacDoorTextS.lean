/-
  Contract: the specification's DecText.
-/
import Derived.Test.YtlpgfeonfhomlacDoorDecTo
import Derived.Test.YtlpgfeonfhomlacDoorTextMath
import Derived.RegionTactic
import Derived.Deep.QuietTactic
import Derived.BigQuiet
import Derived.Deep.Draws
namespace Go.Proofs.YtlpgfeonfhomlacDoor
open Go.RowKit
set_option linter.unusedSimpArgs false
set_option linter.unusedVariables false
theorem below_drewN {B : Nat} {a w : World} (h : Below B a w) (n : Nat) : Below B a (w.drewN n) := h.trans ⟨rfl, rfl, rfl, Nat.le_refl _, fun _ _ => rfl⟩
def strSize : Value → Nat | .string s => s.size | _ => 0
set_option maxHeartbeats 1000000 in
theorem s_text4 (n : Bool) (s : ByteArray) (c : Int) (w : World) (hs : s.size ≤ maxLen) : Calls Tryd.prog 8 #[.agg #[.bool n, .string s, .int .i64 c]] w fun e w' => e = .returned (.string (textB n s c)) ∧ Below w.heap.size w w' := by
  have HS := hide hs
  unfold maxLen at hs
  cases hd : decB n s c
  · go_enter Tryd.func8, Tryd.ntmps8
    go_wp2_with fail
    refine (s_decok n s c _ HS.out).mono ?_
    rintro e w1 ⟨rfl, hb1⟩
    have HB1 := hide (box_below hb1)
    clear hb1
    go_wp2
    go_ret
    exact ⟨ret_str (by simp [textB, hd]; rfl), HB1.out⟩
  · obtain ⟨hd1, hd2, hd3⟩ := decB_bounds hd
    have HD := hide hd
    go_enter Tryd.func8, Tryd.ntmps8
    go_wp2_with fail
    refine (s_decok n s c _ HS.out).mono ?_
    rintro e w1 ⟨rfl, hb1⟩
    have HB1 := hide (box_below hb1)
    obtain ⟨k0, k1, k2, k3⟩ := boxed_go (boxed_new w n s c _) hb1
    clear hb1 k0
    go_wp2
    go_loop [3] (fun v => ∃ (k : Nat) (t : ByteArray), v = .string t ∧ t.size ≤ 200 ∧ Hid (t.size = k + s.size) ∧ Hid ((k : Int) ≤ (c + 1 - s.size).toNat) ∧ Hid (t = zerosB k ++ s)) (fun v => (c + 1 - strSize v).toNat)
    case atStart => exact ⟨0, s, rfl, by omega, hide (by omega), hide (by omega), hide (by rw [zerosB_0]; simp)⟩
    case round =>
      obtain ⟨k, t, rfl, ht, HK, HK2, HT⟩ := hrel
      by_cases hlt : (t.size : Int) ≤ c
      · have hz := zeros_step k s
        rw [← HT.out] at hz
        have HZ := hide hz
        clear hz
        go_wp2
        go_round
        case rel => exact ⟨k + 1, _, rfl, by rw [HZ.out]; simp [zerosB_size]; have := HK.out; omega, hide (by rw [HZ.out]; simp [zerosB_size]), hide (by have := HK.out; have := HK2.out; omega), HZ⟩
        case measure => simp [strSize, ByteArray.size_append]; have : (⟨#[48]⟩ : ByteArray).size = 1 := rfl; omega
      · have hp : t = padB s c := by
          have h1 := HK.out
          have h2 := HK2.out
          have hkk : k = (c + 1 - s.size).toNat := by omega
          rw [HT.out, hkk]; rfl
        have HP := hide hp
        clear hp
        have hlt2 : c < (t.size : Int) := by omega
        clear hlt
        rcases (show c ≤ 0 ∨ 1 ≤ c by omega) with hc | hc
        · cases n
          all_goals
            go_wp2
            go_ret
            exact ⟨ret_str (by simp [textB, HD.out, bodyB, ← HP.out]; omega), HB1.out⟩
        · have hi0 : (0 : Int) ≤ (t.size : Int) - c := by omega
          have hi1 : (t.size : Int) - c ≤ (t.size : Int) := by omega
          have hwr : IntKind.i64.wrap ((t.size : Int) - c) = (t.size : Int) - c := by rw [IntKind.wrap_i64]; omega
          have hnc : ¬ c = 0 := by omega
          have htn : ((t.size : Int) - c).toNat = t.size - c.toNat := by omega
          have HN := hide hnc
          have HTN := hide htn
          clear hnc htn
          cases n
          all_goals
            go_wp2
            go_quiet (fail)
            go_wp2
            go_ret
            exact ⟨ret_str (by rw [textB, if_pos HD.out, bodyB, if_neg HN.out, ← HP.out, pointB, ← HTN.out]; rfl), below_drewN HB1.out _⟩
end Go.Proofs.YtlpgfeonfhomlacDoor
