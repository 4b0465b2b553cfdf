/-
  Contracts: what parts of a model tell (the program's).
-/
import Derived.Test.YtfohfljdgmlibaaDoorBtI
import Derived.Laws.BitsAllLaws
namespace Go.Proofs.YtfohfljdgmlibaaDoor
open Go.RowKit
set_option linter.unusedVariables false
set_option linter.unusedSimpArgs false
/-- What a part tells. -/
def paV (e : Bool) (f l : Nat) : Value := .agg #[.bool e, .int .u64 (f : Int), .int .u64 (l : Int)]
def thF (e1 : Bool) (f1 f2 : Nat) : Nat := if e1 = true then f1 ||| f2 else f1
def thL (e2 : Bool) (l2 l1 : Nat) : Nat := if e2 = true then l2 ||| l1 else l2
set_option maxRecDepth 100000 in
set_option maxHeartbeats 4000000 in
theorem i_then (e1 : Bool) (f1 l1 : Nat) (e2 : Bool) (f2 l2 : Nat) (w : World) (h1 : f1 < 18446744073709551616) (h2 : l1 < 18446744073709551616) (h3 : f2 < 18446744073709551616) (h4 : l2 < 18446744073709551616) :
    Calls Tryd.prog 87 #[paV e1 f1 l1, paV e2 f2 l2] w fun e w' => e = .returned (paV (e1 && e2) (thF e1 f1 f2) (thL e2 l2 l1)) ∧ Below w.heap.size w w' := by
  have b1 : bits .or .u64 (f1 : Int) (f2 : Int) = ((f1 ||| f2 : Nat) : Int) := u64_or_nat f1 f2 h1 h3
  have b2 : bits .or .u64 (l2 : Int) (l1 : Int) = ((l2 ||| l1 : Nat) : Int) := u64_or_nat l2 l1 h4 h2
  unfold paV
  cases e1 <;> cases e2
  all_goals
    go_enter Tryd.func87, Tryd.ntmps87
    go_wp2
    refine bodyPost_ret (v := .agg #[_, _, _]) (by simp [results, Tryd.results87, go_sem, b1, b2]; first | done | exact ⟨rfl, rfl, rfl⟩) rfl ⟨?_, ?_⟩
    rotate_left
    · iterate 4 (refine Below.alloc ?_ (by simp; try omega) _)
      exact Below.refl _ _
    · first | rfl | simp [thF, thL, b1, b2]
set_option maxRecDepth 100000 in
set_option maxHeartbeats 4000000 in
theorem i_or (e1 : Bool) (f1 l1 : Nat) (e2 : Bool) (f2 l2 : Nat) (w : World) (h1 : f1 < 18446744073709551616) (h2 : l1 < 18446744073709551616) (h3 : f2 < 18446744073709551616) (h4 : l2 < 18446744073709551616) :
    Calls Tryd.prog 68 #[paV e1 f1 l1, paV e2 f2 l2] w fun e w' => e = .returned (paV (e1 || e2) (f1 ||| f2) (l1 ||| l2)) ∧ Below w.heap.size w w' := by
  have b1 : bits .or .u64 (f1 : Int) (f2 : Int) = ((f1 ||| f2 : Nat) : Int) := u64_or_nat f1 f2 h1 h3
  have b2 : bits .or .u64 (l1 : Int) (l2 : Int) = ((l1 ||| l2 : Nat) : Int) := u64_or_nat l1 l2 h2 h4
  unfold paV
  cases e1 <;> cases e2
  all_goals
    go_enter Tryd.func68, Tryd.ntmps68
    go_wp2
    refine bodyPost_ret (v := .agg #[_, _, _]) (by simp [results, Tryd.results68, go_sem, b1, b2]; first | done | exact ⟨rfl, rfl, rfl⟩) rfl ⟨?_, ?_⟩
    rotate_left
    · iterate 3 (refine Below.alloc ?_ (by simp; try omega) _)
      exact Below.refl _ _
    · first | rfl | simp [b1, b2]
end Go.Proofs.YtfohfljdgmlibaaDoor
