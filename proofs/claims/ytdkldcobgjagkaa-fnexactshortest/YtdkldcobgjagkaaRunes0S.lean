/-
  Contracts of what makes a character's bytes.
-/
import Derived.Test.YtdkldcobgjagkaaBase
import Derived.Test.YtdkldcobgjagkaaChecked
import Derived.Test.YtdkldcobgjagkaaInts
import Derived.WalkKit
import Derived.Below
import Derived.OwnWalk
import Derived.Laws.OwnMore
import Derived.Laws.BytesArg
import Derived.Lib.RuneBytes
import Derived.Outline
namespace Go.Proofs.Ytdkldcobgjagkaa
open Go.RowKit
set_option linter.unusedVariables false
set_option linter.unusedSimpArgs false
def charB (r : Int) : Bool := decide ((0 ≤ r ∧ r ≤ 55295) ∨ (57344 ≤ r ∧ r ≤ 1114111))
theorem cases_char (r : Int) : r < 0 ∨ (0 ≤ r ∧ r ≤ 55295) ∨ (55296 ≤ r ∧ r ≤ 57343) ∨ (57344 ≤ r ∧ r ≤ 1114111) ∨ 1114112 ≤ r := by omega

set_option maxRecDepth 100000 in
set_option maxHeartbeats 1000000 in
theorem s_char (r : Int) (w : World) : Calls Try.prog 23 #[.int .i64 r] w fun e w' => e = .returned (.bool (charB r)) ∧ w' = w := by
  rcases cases_char r with h | ⟨h, h'⟩ | ⟨h, h'⟩ | ⟨h, h'⟩ | h
  all_goals
    go_enter Try.func23, Try.ntmps23
    go_wp2
    go_ret
    exact ⟨ret_bool (by first | decide | (rw [Bool.eq_iff_iff]; simp only [charB, Bool.or_eq_true, Bool.and_eq_true, decide_eq_true_eq, beq_iff_eq, true_iff, false_iff, iff_true, iff_false, Bool.false_eq_true]; omega)), rfl⟩

set_option maxRecDepth 100000 in
set_option maxHeartbeats 1000000 in
theorem i_char (r : Int) (w : World) : Calls Try.prog 32 #[.int .i64 r] w fun e w' => e = .returned (.bool (charB r)) ∧ w' = w := by
  rcases cases_char r with h | ⟨h, h'⟩ | ⟨h, h'⟩ | ⟨h, h'⟩ | h
  all_goals
    go_enter Try.func32, Try.ntmps32
    go_wp2
    go_ret
    exact ⟨ret_bool (by first | decide | (rw [Bool.eq_iff_iff]; simp only [charB, Bool.or_eq_true, Bool.and_eq_true, decide_eq_true_eq, beq_iff_eq, true_iff, false_iff, iff_true, iff_false, Bool.false_eq_true]; omega)), rfl⟩


theorem conv_new (w : World) (xs : List Int) :
    (convert 48 9 (.slice (some ⟨w.heap.size, 0, none⟩) xs.length xs.length)).run Try.prog (w.alloc (.cells (xs.map (Value.int .u8)).toArray 5)) = .ok (.string (strOfNums xs)) (w.alloc (.cells (xs.map (Value.int .u8)).toArray 5)) := by
  refine run_convert_bytes_arg _ 48 5 Try.underlying48 Try.underlying5 w.heap.size 0 xs.length xs.length xs rfl ?_ 9 Try.underlying9
  intro i hi
  rw [show (0 + i) = i by omega, cell_of_row _ w.heap.size i _ 5 (0, 0) (heap_alloc_new w _)]
  simp [List.getElem?_eq_getElem hi]

theorem s_bytes_of (r : Int) (w : World) (xs : List Int) (hx : Lib.encodeRuneZ r = xs)
    (h : Calls Try.prog 24 #[.int .i64 r] w fun e w' => e = .returned (.string (strOfNums xs)) ∧ w' = w.alloc (.cells (xs.map (Value.int .u8)).toArray 5)) :
    Calls Try.prog 24 #[.int .i64 r] w fun e w' => e = .returned (.string (strOfNums (Lib.encodeRuneZ r))) ∧ Below w.heap.size w w' := by
  rw [hx]
  refine h.mono ?_
  rintro e w' ⟨rfl, rfl⟩
  exact ⟨rfl, (Below.refl _ _).alloc (Nat.le_refl _) _⟩

set_option maxRecDepth 100000 in
set_option maxHeartbeats 1000000 in
theorem s_bytes (r : Int) (w : World) (hc : charB r = true) : Calls Try.prog 24 #[.int .i64 r] w fun e w' => e = .returned (.string (strOfNums (Lib.encodeRuneZ r))) ∧ Below w.heap.size w w' := by
  have hr : (0 ≤ r ∧ r ≤ 55295) ∨ (57344 ≤ r ∧ r ≤ 1114111) := of_decide_eq_true hc
  clear hc
  by_cases h1 : r ≤ 127
  · have h0 : 0 ≤ r := by omega
    clear hr
    refine s_bytes_of r w _ (Lib.encodeRuneZ_one h0 h1) ?_
    have hcv := conv_new w [r]
    simp only [List.map_cons, List.map_nil, List.length_cons, List.length_nil, Nat.zero_add] at hcv ⊢
    go_enter Try.func24, Try.ntmps24
    go_wp2
    go_ret
    exact ⟨rfl, rfl⟩
  · by_cases h2 : r ≤ 2047
    · have h0 : 128 ≤ r := by omega
      clear hr h1
      refine s_bytes_of r w _ (Lib.encodeRuneZ_two h0 h2) ?_
      have hcv := conv_new w [192 + r / 64, 128 + r % 64]
      simp only [List.map_cons, List.map_nil, List.length_cons, List.length_nil, Nat.zero_add] at hcv ⊢
      go_enter Try.func24, Try.ntmps24
      go_wp2
      go_ret
      exact ⟨rfl, rfl⟩
    · by_cases h3 : r ≤ 65535
      · have h0 : 2048 ≤ r := by omega
        have h4 : (2048 ≤ r ∧ r < 55296) ∨ (57343 < r ∧ r ≤ 65535) := by omega
        clear hr h1 h2
        refine s_bytes_of r w _ (Lib.encodeRuneZ_three h4) ?_
        clear h4
        have hcv := conv_new w [224 + r / 4096, 128 + r / 64 % 64, 128 + r % 64]
        simp only [List.map_cons, List.map_nil, List.length_cons, List.length_nil, Nat.zero_add] at hcv ⊢
        go_enter Try.func24, Try.ntmps24
        go_wp2
        go_ret
        exact ⟨rfl, rfl⟩
      · have h0 : 65536 ≤ r := by omega
        have h5 : r ≤ 1114111 := by omega
        clear hr h1 h2 h3
        refine s_bytes_of r w _ (Lib.encodeRuneZ_four h0 h5) ?_
        have hcv := conv_new w [240 + r / 262144, 128 + r / 4096 % 64, 128 + r / 64 % 64, 128 + r % 64]
        simp only [List.map_cons, List.map_nil, List.length_cons, List.length_nil, Nat.zero_add] at hcv ⊢
        go_enter Try.func24, Try.ntmps24
        go_wp2
        go_ret
        exact ⟨rfl, rfl⟩
end Go.Proofs.Ytdkldcobgjagkaa
