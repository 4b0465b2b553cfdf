/-
  Contracts of the laws' helpers on rows of ranges: a copy in new memory, and that two rows that are alike are told so; and the small tests of numbers.
-/
import Derived.Test.YtbijilnbbbicmaaDoorBase
import Derived.Test.YtbijilnbbbicmaaDoorRngMath
import Derived.Test.YtbijilnbbbicmaaDoorChecked
import Derived.WalkKit
import Derived.Below
import Derived.OwnWalk
import Derived.Laws.OwnMore
import Derived.RegionTactic
import Derived.Deep.QuietTactic
import Derived.Deep.RegionWith
import Derived.BigQuiet
import Derived.Deep.Draws
import Derived.KernelRfl
namespace Go.Proofs.YtbijilnbbbicmaaDoor
open Go.RowKit
set_option linter.unusedVariables false
set_option linter.unusedSimpArgs false

theorem infoR : (Tryd.prog.info? 73).map (fun i => (i.zero, i.size, i.bytes)) = some (some (.agg #[.int .i64 0, .int .i64 0]), 2, 16) := by kernel_rfl

theorem s_inT (n a b : Int) (w : World) (h : a ≤ n ∧ n ≤ b) : Calls Tryd.prog 34 #[.int .i64 n, .int .i64 a, .int .i64 b] w fun e w' => e = .returned (.bool true) ∧ w' = w := by
  obtain ⟨h1, h2⟩ := h
  go_enter Tryd.func34, Tryd.ntmps34
  go_wp2
  go_ret
  exact ⟨rfl, rfl⟩
theorem s_inF (n a b : Int) (w : World) (h : ¬ (a ≤ n ∧ n ≤ b)) : Calls Tryd.prog 34 #[.int .i64 n, .int .i64 a, .int .i64 b] w fun e w' => e = .returned (.bool false) ∧ w' = w := by
  by_cases h1 : a ≤ n
  · have h2 : ¬ n ≤ b := fun x => h ⟨h1, x⟩
    clear h
    go_enter Tryd.func34, Tryd.ntmps34
    go_wp2
    go_ret
    exact ⟨rfl, rfl⟩
  · clear h
    go_enter Tryd.func34, Tryd.ntmps34
    go_wp2
    go_ret
    exact ⟨rfl, rfl⟩
theorem i_inT (n a b : Int) (w : World) (h : a ≤ n ∧ n ≤ b) : Calls Tryd.prog 46 #[.int .i64 n, .int .i64 a, .int .i64 b] w fun e w' => e = .returned (.bool true) ∧ w' = w := by
  obtain ⟨h1, h2⟩ := h
  go_enter Tryd.func46, Tryd.ntmps46
  go_wp2
  go_ret
  exact ⟨rfl, rfl⟩
theorem i_inF (n a b : Int) (w : World) (h : ¬ (a ≤ n ∧ n ≤ b)) : Calls Tryd.prog 46 #[.int .i64 n, .int .i64 a, .int .i64 b] w fun e w' => e = .returned (.bool false) ∧ w' = w := by
  by_cases h1 : a ≤ n
  · have h2 : ¬ n ≤ b := fun x => h ⟨h1, x⟩
    clear h
    go_enter Tryd.func46, Tryd.ntmps46
    go_wp2
    go_ret
    exact ⟨rfl, rfl⟩
  · clear h
    go_enter Tryd.func46, Tryd.ntmps46
    go_wp2
    go_ret
    exact ⟨rfl, rfl⟩
theorem s_chT (r : Int) (w : World) (h : chB r = true) : Calls Tryd.prog 33 #[.int .i64 r] w fun e w' => e = .returned (.bool true) ∧ w' = w := by
  by_cases h1 : 0 ≤ r ∧ r ≤ 55295
  · go_enter Tryd.func33, Tryd.ntmps33
    go_wp2_with (go_at_call 34; refine (s_inT _ _ _ _ h1).mono ?_; rintro e w' ⟨rfl, rfl⟩)
    go_ret
    exact ⟨rfl, rfl⟩
  · have h2 : 57344 ≤ r ∧ r ≤ 1114111 := (chB_cases h).resolve_left h1
    go_enter Tryd.func33, Tryd.ntmps33
    go_wp2_with (first | (go_at_call_of 34 (Value.int .i64 55295); refine (s_inF _ _ _ _ h1).mono ?_; rintro e w' ⟨rfl, rfl⟩) | (go_at_call_of 34 (Value.int .i64 57344); refine (s_inT _ _ _ _ h2).mono ?_; rintro e w' ⟨rfl, rfl⟩))
    go_ret
    exact ⟨rfl, rfl⟩
theorem s_chF (r : Int) (w : World) (h : chB r = false) : Calls Tryd.prog 33 #[.int .i64 r] w fun e w' => e = .returned (.bool false) ∧ w' = w := by
  have h1 : ¬ (0 ≤ r ∧ r ≤ 55295) := fun x => chB_not h (Or.inl x)
  have h2 : ¬ (57344 ≤ r ∧ r ≤ 1114111) := fun x => chB_not h (Or.inr x)
  go_enter Tryd.func33, Tryd.ntmps33
  go_wp2_with (first | (go_at_call_of 34 (Value.int .i64 55295); refine (s_inF _ _ _ _ h1).mono ?_; rintro e w' ⟨rfl, rfl⟩) | (go_at_call_of 34 (Value.int .i64 57344); refine (s_inF _ _ _ _ h2).mono ?_; rintro e w' ⟨rfl, rfl⟩))
  go_ret
  exact ⟨rfl, rfl⟩
theorem i_chT (r : Int) (w : World) (h : chB r = true) : Calls Tryd.prog 45 #[.int .i64 r] w fun e w' => e = .returned (.bool true) ∧ w' = w := by
  by_cases h1 : 0 ≤ r ∧ r ≤ 55295
  · go_enter Tryd.func45, Tryd.ntmps45
    go_wp2_with (go_at_call 46; refine (i_inT _ _ _ _ h1).mono ?_; rintro e w' ⟨rfl, rfl⟩)
    go_ret
    exact ⟨rfl, rfl⟩
  · have h2 : 57344 ≤ r ∧ r ≤ 1114111 := (chB_cases h).resolve_left h1
    go_enter Tryd.func45, Tryd.ntmps45
    go_wp2_with (first | (go_at_call_of 46 (Value.int .i64 55295); refine (i_inF _ _ _ _ h1).mono ?_; rintro e w' ⟨rfl, rfl⟩) | (go_at_call_of 46 (Value.int .i64 57344); refine (i_inT _ _ _ _ h2).mono ?_; rintro e w' ⟨rfl, rfl⟩))
    go_ret
    exact ⟨rfl, rfl⟩
theorem i_chF (r : Int) (w : World) (h : chB r = false) : Calls Tryd.prog 45 #[.int .i64 r] w fun e w' => e = .returned (.bool false) ∧ w' = w := by
  have h1 : ¬ (0 ≤ r ∧ r ≤ 55295) := fun x => chB_not h (Or.inl x)
  have h2 : ¬ (57344 ≤ r ∧ r ≤ 1114111) := fun x => chB_not h (Or.inr x)
  go_enter Tryd.func45, Tryd.ntmps45
  go_wp2_with (first | (go_at_call_of 46 (Value.int .i64 55295); refine (i_inF _ _ _ _ h1).mono ?_; rintro e w' ⟨rfl, rfl⟩) | (go_at_call_of 46 (Value.int .i64 57344); refine (i_inF _ _ _ _ h2).mono ?_; rintro e w' ⟨rfl, rfl⟩))
  go_ret
  exact ⟨rfl, rfl⟩

/-- What is laid of a row of ranges: its first 'n' pairs of cells hold L and H, in a block below 'B'. -/
def RngAt (w : World) (a : Option Addr) (n : Nat) (L H : Nat → Int) (B : Nat) : Prop :=
  0 < n → ∃ b off, a = some ⟨b, off, none⟩ ∧ b < B ∧ ∀ j, j < n → w.cell? ⟨b, off + j * 2, none⟩ = some (.int .i64 (L j)) ∧ w.cell? ⟨b, off + j * 2 + 1, none⟩ = some (.int .i64 (H j))
theorem rngAt_go {w w' : World} {a : Option Addr} {n : Nat} {L H : Nat → Int} {B : Nat} (h : RngAt w a n L H B) (k : Below B w w') : RngAt w' a n L H B := fun h0 => by
  obtain ⟨b, off, e, hb, hc⟩ := h h0
  exact ⟨b, off, e, hb, fun j hj => ⟨(k.cell (p := ⟨b, off + j * 2, none⟩) hb).trans (hc j hj).1, (k.cell (p := ⟨b, off + j * 2 + 1, none⟩) hb).trans (hc j hj).2⟩⟩
theorem rngAt_up {w : World} {a : Option Addr} {n : Nat} {L H : Nat → Int} {B B' : Nat} (h : RngAt w a n L H B) (k : B ≤ B') : RngAt w a n L H B' := fun h0 => by
  obtain ⟨b, off, e, hb, hc⟩ := h h0
  exact ⟨b, off, e, Nat.lt_of_lt_of_le hb k, hc⟩

set_option maxHeartbeats 1000000 in
theorem l_toR (l h : Int) (w : World) : Calls Tryd.prog 35 #[.agg #[.int .i64 l, .int .i64 h]] w fun e w' => e = .returned (.agg #[.int .i64 l, .int .i64 h]) ∧ Below w.heap.size w w' := by
  go_enter Tryd.func35, Tryd.ntmps35
  go_wp2
  refine bodyPost_ret (v := .agg #[.int .i64 l, .int .i64 h]) (by simp [results, Tryd.results35, go_sem]) rfl ⟨rfl, ?_⟩
  exact (((Below.refl _ _).alloc (Nat.le_refl _) _).alloc (by simp) _).alloc (by simp; omega) _
end Go.Proofs.YtbijilnbbbicmaaDoor
