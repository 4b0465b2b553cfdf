/-
  Plain facts on months and years, of no program: leap years, days of a month, days ahead of a year.
-/
import Derived.Test.YtaigicdoepdhnaaDoorBase
import Derived.WalkKit
import Derived.Below
namespace Go.Proofs.YtaigicdoepdhnaaDoor
open Go.RowKit
/-- Between two numbers, both ends taken. -/
def inB (a n b : Int) : Bool := decide (a ≤ n ∧ n ≤ b)
theorem inB_t {a n b : Int} (h : a ≤ n ∧ n ≤ b) : inB a n b = true := decide_eq_true h
theorem inB_f {a n b : Int} (h : ¬ (a ≤ n ∧ n ≤ b)) : inB a n b = false := decide_eq_false h
theorem inB_of {a n b : Int} (h : inB a n b = true) : a ≤ n ∧ n ≤ b := of_decide_eq_true h
theorem inB_no {a n b : Int} (h : inB a n b = false) : ¬ (a ≤ n ∧ n ≤ b) := of_decide_eq_false h
def leapB (y : Int) : Bool := decide (y % 4 = 0 ∧ (y % 100 ≠ 0 ∨ y % 400 = 0))
def dimIn (y m : Int) : Int := if m = 2 then (if leapB y = true then 29 else 28) else if m = 4 ∨ m = 6 ∨ m = 9 ∨ m = 11 then 30 else 31
/-- How many days a month has; -1 where year or month are not right. -/
def dim (y m : Int) : Int := if (1 ≤ y ∧ y ≤ 9999) ∧ (1 ≤ m ∧ m ≤ 12) then dimIn y m else -1
theorem dim_in {y m : Int} (h1 : 1 ≤ y ∧ y ≤ 9999) (h2 : 1 ≤ m ∧ m ≤ 12) : dim y m = dimIn y m := by unfold dim; rw [if_pos ⟨h1, h2⟩]
theorem dim_out {y m : Int} (h : ¬ ((1 ≤ y ∧ y ≤ 9999) ∧ (1 ≤ m ∧ m ≤ 12))) : dim y m = -1 := by unfold dim; rw [if_neg h]
theorem dim_bd (y m : Int) : -1 ≤ dim y m ∧ dim y m ≤ 31 := by
  unfold dim dimIn
  split
  · split
    · split <;> omega
    · split <;> omega
  · omega
theorem dim_lo {y m : Int} (h1 : 1 ≤ y ∧ y ≤ 9999) (h2 : 1 ≤ m ∧ m ≤ 12) : 28 ≤ dim y m := by
  rw [dim_in h1 h2]; unfold dimIn
  split
  · split <;> omega
  · split <;> omega
theorem mcases {m : Int} (h1 : 1 ≤ m) (h2 : m ≤ 12) : m = 1 ∨ m = 2 ∨ m = 3 ∨ m = 4 ∨ m = 5 ∨ m = 6 ∨ m = 7 ∨ m = 8 ∨ m = 9 ∨ m = 10 ∨ m = 11 ∨ m = 12 := by omega
/-- The table of the months. -/
def mdays : List Int := [31, 28, 31, 30, 31, 30, 31, 31, 30, 31, 30, 31]
/-- The table lies in its block. -/
def MTab (g : Nat) (w : World) : Prop := g < w.heap.size ∧ ∀ k : Nat, k < 12 → w.cell? ⟨g, k, none⟩ = some (.int .i64 (mdays.getD k 0))
theorem mtab_go {g : Nat} {w w1 : World} (h : MTab g w) (k : Below w.heap.size w w1) : MTab g w1 :=
  ⟨Nat.lt_of_lt_of_le h.1 k.size, fun j hj => (k.cell (p := ⟨g, j, none⟩) h.1).trans (h.2 j hj)⟩
theorem ret_int {k : IntKind} {a b : Int} (h : a = b) : Ending.returned (.int k a) = .returned (.int k b) := by rw [h]
end Go.Proofs.YtaigicdoepdhnaaDoor
