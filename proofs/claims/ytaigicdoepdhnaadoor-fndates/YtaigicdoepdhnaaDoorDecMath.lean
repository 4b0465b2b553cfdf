/-
  Plain facts on right decimal numbers, of no program: digits, and what is right.
-/
import Derived.Test.YtaigicdoepdhnaaDoorBase
import Derived.WalkKit
import Derived.Below
namespace Go.Proofs.YtaigicdoepdhnaaDoor
def digsB (s : ByteArray) : Bool := (List.range s.size).all fun j => digitB (at8 s j)
theorem digsB_no (s : ByteArray) (k : Nat) (hk : k < s.size) (h : digitB (s[k].toNat : Int) = false) : digsB s = false := by
  unfold digsB
  rw [List.all_eq_false]
  refine ⟨k, by simpa using hk, ?_⟩
  rw [at8_eq s k hk, h]; simp
theorem digsB_yes (s : ByteArray) (h : ∀ j (h : j < s.size), digitB (s[j].toNat : Int) = true) : digsB s = true := by
  unfold digsB
  rw [List.all_eq_true]
  intro j hj
  have hj' : j < s.size := by simpa using hj
  rw [at8_eq s j hj']; exact h j hj'
theorem digsB_at (s : ByteArray) (h : digsB s = true) (j : Nat) (hj : j < s.size) : digitB (s[j].toNat : Int) = true := by
  unfold digsB at h
  rw [List.all_eq_true] at h
  have := h j (by simpa using hj)
  rwa [at8_eq s j hj] at this
/-- A right number: its sign, its digits, its scale. -/
def decB (neg : Bool) (s : ByteArray) (sc : Int) : Bool :=
  decide (s.size ≤ 60) && (digsB s && (decide (0 ≤ sc ∧ sc ≤ 60) && (if s.size = 0 then !neg && decide (sc = 0) else decide (at8 s 0 ≠ 48) && (decide (sc = 0) || decide (at8 s (s.size - 1) ≠ 48)))))
theorem decB_long (neg : Bool) (s : ByteArray) (sc : Int) (h : 60 < s.size) : decB neg s sc = false := by
  have : decide (s.size ≤ 60) = false := by simp; omega
  simp [decB, this]
theorem decB_digs (neg : Bool) (s : ByteArray) (sc : Int) (h : digsB s = false) : decB neg s sc = false := by
  simp [decB, h]
theorem decB_scale (neg : Bool) (s : ByteArray) (sc : Int) (h : sc < 0 ∨ 60 < sc) : decB neg s sc = false := by
  have : decide (0 ≤ sc ∧ sc ≤ 60) = false := by simp; omega
  simp [decB, this]
theorem decB_none (neg : Bool) (s : ByteArray) (sc : Int) (h : s.size = 0) : decB neg s sc = (!neg && decide (sc = 0)) := by
  have h1 : digsB s = true := by simp [digsB, h]
  cases neg
  · by_cases e : sc = 0
    · subst e; simp [decB, h, h1]
    · simp [decB, h, h1, e]
  · simp [decB, h]
theorem decB_some (neg : Bool) (s : ByteArray) (sc : Int) (h0 : 0 < s.size) (h : s.size ≤ 60) (hd : digsB s = true) (h1 : 0 ≤ sc) (h2 : sc ≤ 60) :
    decB neg s sc = (decide ((s[0].toNat : Int) ≠ 48) && (decide (sc = 0) || decide ((s[s.size - 1].toNat : Int) ≠ 48))) := by
  have e0 : decide (s.size ≤ 60) = true := by simp; omega
  have e1 : decide (0 ≤ sc ∧ sc ≤ 60) = true := by simp; omega
  have e2 : ¬ s.size = 0 := by omega
  rw [← at8_eq s 0 h0, ← at8_eq s (s.size - 1) (by omega)]
  simp [decB, e0, e1, hd, e2]
theorem decB_first (neg : Bool) (s : ByteArray) (sc : Int) (h0 : 0 < s.size) (h : (s[0].toNat : Int) = 48) : decB neg s sc = false := by
  have e2 : ¬ s.size = 0 := by omega
  rw [← at8_eq s 0 h0] at h
  simp [decB, e2, h]
end Go.Proofs.YtaigicdoepdhnaaDoor
