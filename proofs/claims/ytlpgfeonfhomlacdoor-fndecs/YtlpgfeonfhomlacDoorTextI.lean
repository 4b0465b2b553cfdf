/-
  Contract: the program's DecText.
-/
import Derived.Test.YtlpgfeonfhomlacDoorTextS
import Derived.Test.YtlpgfeonfhomlacDoorShelf
namespace Go.Proofs.YtlpgfeonfhomlacDoor
open Go.RowKit
set_option linter.unusedSimpArgs false
set_option linter.unusedVariables false
theorem repeat_zeros (k : Nat) : (⟨(Lib.repeatL (⟨#[48]⟩ : ByteArray).data.toList k).toArray⟩ : ByteArray) = zerosB k := by
  have h := Lib.repeatL_replicate 48 1 k
  rw [Nat.mul_one] at h
  show (⟨(Lib.repeatL [48] k).toArray⟩ : ByteArray) = zerosB k
  rw [show ([48] : List UInt8) = List.replicate 1 48 from rfl, h]; rfl
theorem i_repeat (x : Int) (w : World) (h0 : 0 ≤ x) (h1 : x ≤ 100) : Calls Tryd.prog 16 #[.string ⟨#[48]⟩, .int .i64 x] w fun e w' => ∃ z : ByteArray, (z.size : Int) = x ∧ Hid (z = zerosB x.toNat) ∧ e = .returned (.string z) ∧ Below w.heap.size w w' := by
  obtain ⟨k, rfl⟩ : ∃ k : Nat, x = (k : Int) := ⟨x.toNat, by omega⟩
  have h := Tryd.strings_Repeat ⟨#[48]⟩ k w (by omega) (by show 1 * k ≤ _; omega)
  rw [repeat_zeros] at h
  refine h.mono fun e w' ⟨he, hw⟩ => ⟨zerosB k, by rw [zerosB_size], hide (by simp), he, hw⟩
set_option maxHeartbeats 1000000 in
theorem i_text4 (n : Bool) (s : ByteArray) (c : Int) (w : World) (hs : s.size ≤ maxLen) : Calls Tryd.prog 6 #[.agg #[.bool n, .string s, .int .i64 c]] w fun e w' => e = .returned (.string (textB n s c)) ∧ Below w.heap.size w w' := by
  have HS := hide hs
  unfold maxLen at hs
  cases hd : decB n s c
  · go_enter Tryd.func6, Tryd.ntmps6
    go_wp2_with fail
    refine (i_decok n s c _ HS.out).mono ?_
    rintro e w1 ⟨rfl, hb1⟩
    have HB1 := hide (box_below hb1)
    clear hb1
    go_wp2
    go_ret
    exact ⟨ret_str (by simp [textB, hd]; rfl), HB1.out⟩
  · obtain ⟨hd1, hd2, hd3⟩ := decB_bounds hd
    have HD := hide hd
    rcases (show (s.size : Int) ≤ c ∧ 1 ≤ c ∨ ((s.size : Int) = 0 ∧ c = 0) ∨ c < (s.size : Int) by omega) with ⟨hl, hc⟩ | ⟨hl, hc⟩ | hl
    · have hcb : (c != 0) = true := by simp; omega
      go_enter Tryd.func6, Tryd.ntmps6
      go_wp2_with fail
      refine (i_decok n s c _ HS.out).mono ?_
      rintro e w1 ⟨rfl, hb1⟩
      have HB1 := hide (box_below hb1)
      have hx1 := boxed_go (boxed_new w n s c _) hb1
      have HX1 := hide hx1
      obtain ⟨k0, k1, k2, k3⟩ := hx1
      clear hb1 k0
      go_wp2_with fail
      refine (i_repeat _ _ (by omega) (by omega)).mono ?_
      rintro e w2 ⟨z, hz, HZ, rfl, hb2⟩
      have HB2 := hide (below_go HB1.out hb2)
      obtain ⟨k0, k1, k2, k3⟩ := boxed_go HX1.out hb2
      clear hb2 k0
      have hp : z ++ s = padB s c := by rw [HZ.out]; rfl
      obtain ⟨t, ht⟩ : ∃ t, z ++ s = t := ⟨_, rfl⟩
      have hts : (t.size : Int) = c + 1 := by rw [← ht]; simp; omega
      have ht0 : c < (t.size : Int) := by omega
      have ht1 : (t.size : Int) ≤ 61 := by omega
      have HP := hide (ht ▸ hp)
      have hzz : z.size ≤ 100 := by omega
      have HZZ := hide hz
      have HTS := hide hts
      clear hts hp hz
      have hi0 : (0 : Int) ≤ (t.size : Int) - c := by omega
      have hi1 : (t.size : Int) - c ≤ (t.size : Int) := by omega
      have hwr : IntKind.i64.wrap ((t.size : Int) - c) = (t.size : Int) - c := by rw [IntKind.wrap_i64]; omega
      have htn : ((t.size : Int) - c).toNat = t.size - c.toNat := by omega
      have HBO := hide (show bodyB s c = t.extract 0 ((t.size : Int) - c).toNat ++ ((⟨#[46]⟩ : ByteArray) ++ t.extract ((t.size : Int) - c).toNat t.size) by rw [bodyB, if_neg (by omega), ← HP.out, pointB, htn, ByteArray.append_assoc])
      clear htn
      cases n
      all_goals
        go_wp2
        go_ret
        exact ⟨ret_str (by rw [textB, if_pos HD.out, HBO.out]; rfl), HB2.out⟩
    · have hse : s = ByteArray.empty := ByteArray.size_eq_zero_iff.1 (by omega)
      subst hse
      subst hc
      have hn : n = false := by cases n; rfl; exact absurd hd (by rw [decB_none _ _ _ rfl]; simp)
      subst hn
      go_enter Tryd.func6, Tryd.ntmps6
      go_wp2_with fail
      refine (i_decok false ByteArray.empty 0 _ HS.out).mono ?_
      rintro e w1 ⟨rfl, hb1⟩
      have HB1 := hide (box_below hb1)
      have hx1 := boxed_go (boxed_new w false ByteArray.empty 0 _) hb1
      have HX1 := hide hx1
      obtain ⟨k0, k1, k2, k3⟩ := hx1
      clear hb1 k0
      go_wp2_with fail
      refine (i_repeat 1 _ (by omega) (by omega)).mono ?_
      rintro e w2 ⟨z, hz, HZ, rfl, hb2⟩
      have HB2 := hide (below_go HB1.out hb2)
      obtain ⟨k0, k1, k2, k3⟩ := boxed_go HX1.out hb2
      clear hb2 k0
      go_wp2
      go_ret
      exact ⟨ret_str (by rw [textB, if_pos HD.out, bodyB, if_pos rfl, HZ.out]; rfl), HB2.out⟩
    · have HP := hide (show s = padB s c by rw [padB, show (c + 1 - s.size).toNat = 0 by omega, zerosB_0]; simp)
      rcases (show c = 0 ∨ 1 ≤ c by omega) with hc | hc
      · subst hc
        cases n
        all_goals
          go_enter Tryd.func6, Tryd.ntmps6
          go_wp2_with fail
          refine (i_decok _ s 0 _ HS.out).mono ?_
          rintro e w1 ⟨rfl, hb1⟩
          have HB1 := hide (box_below hb1)
          obtain ⟨k0, k1, k2, k3⟩ := boxed_go (boxed_new w _ s 0 _) hb1
          clear hb1 k0
          go_wp2
          go_ret
          exact ⟨ret_str (by rw [textB, if_pos HD.out, bodyB, if_pos rfl, ← HP.out]; simp), HB1.out⟩
      · have hcb : (c != 0) = true := by simp; omega
        have hi0 : (0 : Int) ≤ (s.size : Int) - c := by omega
        have hi1 : (s.size : Int) - c ≤ (s.size : Int) := by omega
        have hwr : IntKind.i64.wrap ((s.size : Int) - c) = (s.size : Int) - c := by rw [IntKind.wrap_i64]; omega
        have htn : ((s.size : Int) - c).toNat = s.size - c.toNat := by omega
        have HBO := hide (show bodyB s c = s.extract 0 ((s.size : Int) - c).toNat ++ ((⟨#[46]⟩ : ByteArray) ++ s.extract ((s.size : Int) - c).toNat s.size) by rw [bodyB, if_neg (by omega), ← HP.out, pointB, htn, ByteArray.append_assoc])
        clear htn
        cases n
        all_goals
          go_enter Tryd.func6, Tryd.ntmps6
          go_wp2_with fail
          refine (i_decok _ s c _ HS.out).mono ?_
          rintro e w1 ⟨rfl, hb1⟩
          have HB1 := hide (box_below hb1)
          obtain ⟨k0, k1, k2, k3⟩ := boxed_go (boxed_new w _ s c _) hb1
          clear hb1 k0
          go_wp2
          go_ret
          exact ⟨ret_str (by rw [textB, if_pos HD.out, HBO.out]; rfl), HB1.out⟩
end Go.Proofs.YtlpgfeonfhomlacDoor
