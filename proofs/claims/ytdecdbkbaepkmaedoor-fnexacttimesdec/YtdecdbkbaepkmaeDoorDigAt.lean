/-
  Contract: the program's digit, counted from the last one.
-/
import Derived.Test.YtdecdbkbaepkmaeDoorDecTo
namespace Go.Proofs.YtdecdbkbaepkmaeDoor
open Go.RowKit
set_option linter.unusedSimpArgs false
set_option linter.unusedVariables false
theorem ret_int8 {k : IntKind} {a b : Int} (h : a = b) : Ending.returned (.int k a) = .returned (.int k b) := by rw [h]
set_option maxHeartbeats 1000000 in
theorem i_digAt (n : Bool) (s : ByteArray) (c : Int) (j : Nat) (w : World) (hs : s.size ≤ 60) (hd : digsB s = true) (hj : j < s.size) :
    Calls Tryd.prog 19 #[.agg #[.bool n, .string s, .int .i64 c], .int .i64 j] w fun e w' => e = .returned (.int .u8 (at8 s (s.size - 1 - j) - 48)) ∧ Below w.heap.size w w' := by
  have hi : s.size - 1 - j < s.size := by omega
  have hv := digsB_at s hd _ hi
  simp only [digitB, decide_eq_true_eq] at hv
  obtain ⟨hv1, hv2⟩ := hv
  go_enter Tryd.func19, Tryd.ntmps19
  go_wp2
  go_ret
  exact ⟨ret_int8 (by rw [at8_eq s _ hi]), (Below.refl _ _).alloc (Nat.le_refl _) _⟩
end Go.Proofs.YtdecdbkbaepkmaeDoor
