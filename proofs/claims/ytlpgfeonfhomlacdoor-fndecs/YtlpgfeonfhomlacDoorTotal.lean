/-
  Contracts: the specification's and the program's TotalDigits.
-/
import Derived.Test.YtlpgfeonfhomlacDoorDecTo
namespace Go.Proofs.YtlpgfeonfhomlacDoor
open Go.RowKit
set_option linter.unusedSimpArgs false
set_option linter.unusedVariables false
def totalB (n : Bool) (s : ByteArray) (c : Int) : Int := if decB n s c = true then (if s.size = 0 then 1 else s.size) else -1
theorem ret_int {k : IntKind} {a b : Int} (h : a = b) : Ending.returned (.int k a) = .returned (.int k b) := by rw [h]
set_option maxHeartbeats 1000000 in
theorem s_total (n : Bool) (s : ByteArray) (c : Int) (w : World) (hs : s.size ≤ maxLen) : Calls Tryd.prog 11 #[.agg #[.bool n, .string s, .int .i64 c]] w fun e w' => e = .returned (.int .i64 (totalB n s c)) ∧ Below w.heap.size w w' := by
  have HS := hide hs
  unfold maxLen at hs
  cases hd : decB n s c
  · go_enter Tryd.func11, Tryd.ntmps11
    go_wp2_with fail
    refine (s_decok n s c _ HS.out).mono ?_
    rintro e w1 ⟨rfl, hb1⟩
    have HB1 := hide (box_below hb1)
    clear hb1
    go_wp2
    go_ret
    exact ⟨ret_int (by simp [totalB, hd]), HB1.out⟩
  · by_cases h0 : s.size = 0
    all_goals
      go_enter Tryd.func11, Tryd.ntmps11
      go_wp2_with fail
      refine (s_decok n s c _ HS.out).mono ?_
      rintro e w1 ⟨rfl, hb1⟩
      have HB1 := hide (box_below hb1)
      obtain ⟨k0, k1, k2, k3⟩ := boxed_go (boxed_new w n s c _) hb1
      clear hb1 k0
      go_wp2
      all_goals
        go_ret
        exact ⟨ret_int (by rw [totalB, if_pos hd]; split <;> omega), HB1.out⟩
set_option maxHeartbeats 1000000 in
theorem i_total (n : Bool) (s : ByteArray) (c : Int) (w : World) (hs : s.size ≤ maxLen) : Calls Tryd.prog 10 #[.agg #[.bool n, .string s, .int .i64 c]] w fun e w' => e = .returned (.int .i64 (totalB n s c)) ∧ Below w.heap.size w w' := by
  have HS := hide hs
  unfold maxLen at hs
  cases hd : decB n s c
  · go_enter Tryd.func10, Tryd.ntmps10
    go_wp2_with fail
    refine (i_decok n s c _ HS.out).mono ?_
    rintro e w1 ⟨rfl, hb1⟩
    have HB1 := hide (box_below hb1)
    clear hb1
    go_wp2
    go_ret
    exact ⟨ret_int (by simp [totalB, hd]), HB1.out⟩
  · by_cases h0 : s.size = 0
    all_goals
      go_enter Tryd.func10, Tryd.ntmps10
      go_wp2_with fail
      refine (i_decok n s c _ HS.out).mono ?_
      rintro e w1 ⟨rfl, hb1⟩
      have HB1 := hide (box_below hb1)
      obtain ⟨k0, k1, k2, k3⟩ := boxed_go (boxed_new w n s c _) hb1
      clear hb1 k0
      go_wp2
      all_goals
        go_ret
        exact ⟨ret_int (by rw [totalB, if_pos hd]; split <;> omega), HB1.out⟩
end Go.Proofs.YtlpgfeonfhomlacDoor
