/-
  Plain facts, of no program: the text of a right number.
-/
import Derived.Test.YtdglamiifcagoacDoorDecMath
namespace Go.Proofs.YtdglamiifcagoacDoor
def zerosB (k : Nat) : ByteArray := ⟨(List.replicate k (48 : UInt8)).toArray⟩
theorem zerosB_size (k : Nat) : (zerosB k).size = k := by simp [zerosB, ByteArray.size]
theorem zerosB_0 : zerosB 0 = ByteArray.empty := rfl
theorem ba_ext {a b : ByteArray} (h : a.data.toList = b.data.toList) : a = b := by
  cases a; cases b; simp only [ByteArray.mk.injEq]; exact Array.toList_inj.1 h
theorem zerosB_succ (k : Nat) : (⟨#[48]⟩ : ByteArray) ++ zerosB k = zerosB (k + 1) := by
  apply ba_ext
  simp [zerosB, List.replicate_succ]
theorem zeros_step (k : Nat) (s : ByteArray) : (⟨#[48]⟩ : ByteArray) ++ (zerosB k ++ s) = zerosB (k + 1) ++ s := by
  rw [← ByteArray.append_assoc, zerosB_succ]
/-- The digits with noughts ahead, so many that one stands ahead of the point. -/
def padB (s : ByteArray) (c : Int) : ByteArray := zerosB (c + 1 - s.size).toNat ++ s
theorem padB_size (s : ByteArray) (c : Int) : (padB s c).size = (c + 1 - s.size).toNat + s.size := by simp [padB, zerosB_size]
def pointB (t : ByteArray) (c : Int) : ByteArray := t.extract 0 (t.size - c.toNat) ++ (⟨#[46]⟩ : ByteArray) ++ t.extract (t.size - c.toNat) t.size
def bodyB (s : ByteArray) (c : Int) : ByteArray := if c = 0 then padB s c else pointB (padB s c) c
def textB (n : Bool) (s : ByteArray) (c : Int) : ByteArray := if decB n s c = true then (if n then (⟨#[45]⟩ : ByteArray) ++ bodyB s c else bodyB s c) else ByteArray.empty
theorem decB_bounds {n : Bool} {s : ByteArray} {c : Int} (h : decB n s c = true) : s.size ≤ 60 ∧ 0 ≤ c ∧ c ≤ 60 := by
  simp only [decB, Bool.and_eq_true, decide_eq_true_eq] at h
  omega
theorem ret_str {a b : ByteArray} (h : a = b) : Ending.returned (.string a) = .returned (.string b) := by rw [h]
end Go.Proofs.YtdglamiifcagoacDoor
