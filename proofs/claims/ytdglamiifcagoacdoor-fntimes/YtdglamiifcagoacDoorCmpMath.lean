/-
  Plain facts, of no program: a number as a whole number of 60 places, and the order of two.
-/
import Derived.Test.YtdglamiifcagoacDoorValMath
namespace Go.Proofs.YtdglamiifcagoacDoor
/-- The number without its sign, in units of the sixtieth place. -/
def mag (s : ByteArray) (c : Int) : Nat := valL s.data.toList * 10 ^ (60 - c).toNat
def iv (n : Bool) (s : ByteArray) (c : Int) : Int := if n then -(mag s c : Int) else (mag s c : Int)
def cmpI (a b : Int) : Int := if a < b then -1 else if b < a then 1 else 0
def cmpB (n : Bool) (s : ByteArray) (c : Int) (m : Bool) (t : ByteArray) (d : Int) : Int := if decB n s c = true ∧ decB m t d = true then cmpI (iv n s c) (iv m t d) else 2
theorem cmpI_lt {a b : Int} (h : a < b) : cmpI a b = -1 := if_pos h
theorem cmpI_gt {a b : Int} (h : b < a) : cmpI a b = 1 := by unfold cmpI; rw [if_neg (by omega), if_pos h]
theorem cmpI_eq {a b : Int} (h : a = b) : cmpI a b = 0 := by unfold cmpI; rw [if_neg (by omega), if_neg (by omega)]
theorem mag_pad {x s : ByteArray} {c g : Int} (h : Padded x s (g - c).toNat) (h1 : c ≤ g) (h2 : g ≤ 60) : mag s c = valL x.data.toList * 10 ^ (60 - g).toNat := by
  rw [padded_val h, mag, Nat.mul_assoc, ← Nat.pow_add, show (g - c).toNat + (60 - g).toNat = (60 - c).toNat by omega]
theorem pow_pos10 (k : Nat) : 0 < 10 ^ k := Nat.pow_pos (by decide)
theorem scaled_lt {a b p : Nat} (h : a < b) (hp : 0 < p) : a * p < b * p := Nat.mul_lt_mul_of_pos_right h hp
theorem neg_pos {s : ByteArray} {c : Int} (h : decB true s c = true) : 0 < valL s.data.toList := by
  have hb := decB_bounds h
  have hd : digsB s = true := by simp only [decB, Bool.and_eq_true] at h; exact h.2.1
  by_cases h0 : s.size = 0
  · rw [decB_none _ _ _ h0] at h; simp at h
  · have hf : (s[0].toNat : Int) ≠ 48 := fun e => by rw [decB_first true s c (by omega) e] at h; simp at h
    have hl := dgL_of s hd
    cases hq : s.data.toList with
    | nil => exact absurd (by simpa using congrArg List.length hq) h0
    | cons a l =>
      have ea : s[0] = a := by
        have : s.data.toList[0]? = some a := by rw [hq]; rfl
        have h2 : s.data.toList[0]? = some s[0] := List.getElem?_eq_getElem (by simp; omega)
        rw [h2] at this; exact Option.some.inj this
      rw [hq] at hl
      have := hl a List.mem_cons_self
      rw [ea] at hf
      rw [valL_cons]
      have h3 : 1 ≤ dgt a := by unfold dgt; omega
      have h4 := Nat.mul_le_mul_right (10 ^ l.length) h3
      have := pow_pos10 l.length
      omega
theorem mag_pos {s : ByteArray} {c : Int} (h : decB true s c = true) : 0 < mag s c := Nat.mul_pos (neg_pos h) (pow_pos10 _)
theorem decB_digits {n : Bool} {s : ByteArray} {c : Int} (h : decB n s c = true) : digsB s = true := by
  simp only [decB, Bool.and_eq_true] at h; exact h.2.1
end Go.Proofs.YtdglamiifcagoacDoor
