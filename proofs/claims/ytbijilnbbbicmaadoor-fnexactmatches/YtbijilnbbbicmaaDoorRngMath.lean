/-
  Plain facts on classes and ranges, of no program: which numbers are characters, which rows of ranges are right, what a class has, which nodes are right by themselves.
-/
import Derived.Test.YtbijilnbbbicmaaDoorBase
namespace Go.Proofs.YtbijilnbbbicmaaDoor
def chB (r : Int) : Bool := decide ((0 ≤ r ∧ r ≤ 55295) ∨ (57344 ≤ r ∧ r ≤ 1114111))
theorem chB_cases {r : Int} (h : chB r = true) : (0 ≤ r ∧ r ≤ 55295) ∨ (57344 ≤ r ∧ r ≤ 1114111) := of_decide_eq_true h
theorem chB_not {r : Int} (h : chB r = false) : ¬ ((0 ≤ r ∧ r ≤ 55295) ∨ (57344 ≤ r ∧ r ≤ 1114111)) := of_decide_eq_false h
/-- One range is right. -/
def rgB (l h : Int) : Bool := chB l && (chB h && decide (l ≤ h))
/-- All of the first n ranges are right. -/
def rgsB (n : Nat) (L H : Nat → Int) : Bool := (List.range n).all fun j => rgB (L j) (H j)
theorem rgsB_no {n : Nat} {L H : Nat → Int} {k : Nat} (hk : k < n) (h : rgB (L k) (H k) = false) : rgsB n L H = false := by
  unfold rgsB
  rw [List.all_eq_false]
  exact ⟨k, by simpa using hk, by simp [h]⟩
theorem rgsB_yes {n : Nat} {L H : Nat → Int} (h : ∀ k, k < n → rgB (L k) (H k) = true) : rgsB n L H = true := by
  unfold rgsB
  rw [List.all_eq_true]
  intro j hj
  exact h j (by simpa using hj)
def rowB (n : Nat) (L H : Nat → Int) : Bool := decide (1 ≤ n ∧ n ≤ 12) && rgsB n L H
/-- A range has r. -/
def hasB (l h r : Int) : Bool := decide (l ≤ r ∧ r ≤ h)
/-- One of the first n ranges has r. -/
def anyB (n : Nat) (L H : Nat → Int) (r : Int) : Bool := (List.range n).any fun j => hasB (L j) (H j) r
theorem anyB_zero (L H : Nat → Int) (r : Int) : anyB 0 L H r = false := rfl
theorem anyB_succ (n : Nat) (L H : Nat → Int) (r : Int) : anyB (n + 1) L H r = (anyB n L H r || hasB (L n) (H n) r) := by
  unfold anyB
  rw [List.range_succ, List.any_append]
  simp
theorem anyB_hit {n : Nat} {L H : Nat → Int} {r : Int} {k : Nat} (hk : k < n) (h : hasB (L k) (H k) r = true) : anyB n L H r = true := by
  unfold anyB
  rw [List.any_eq_true]
  exact ⟨k, by simpa using hk, h⟩
/-- A node is right by itself. -/
def nodeB (kd : Int) (nt : Bool) (n : Nat) (L H : Nat → Int) (a b mn mx : Int) : Bool :=
  if kd = 1 then !nt && (((n : Int) == 0) && (a == 0 && (b == 0 && (mn == 0 && mx == 0))))
  else if kd = 2 then rowB n L H && (a == 0 && (b == 0 && (mn == 0 && mx == 0)))
  else if kd = 3 ∨ kd = 4 then !nt && (((n : Int) == 0) && (mn == 0 && mx == 0))
  else if kd = 5 then !nt && (((n : Int) == 0) && (b == 0 && (decide (0 ≤ mn ∧ mn ≤ 20) && (mx == -1 || decide (mn ≤ mx ∧ mx ≤ 20)))))
  else false
/-- What ClassHas answers. -/
def clsB (kd : Int) (nt : Bool) (n : Nat) (L H : Nat → Int) (a b mn mx r : Int) : Bool :=
  if kd = 2 then nodeB kd nt n L H a b mn mx && (chB r && (anyB n L H r != nt)) else false
end Go.Proofs.YtbijilnbbbicmaaDoor
