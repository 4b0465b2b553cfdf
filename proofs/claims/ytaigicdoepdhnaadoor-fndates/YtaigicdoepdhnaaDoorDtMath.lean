/-
  Plain facts, of no program: the text of a date; numbers in two and in four digits.
-/
import Derived.Test.YtaigicdoepdhnaaDoorDates
import Derived.Lib.ItoaNum
import Derived.Lib.ItoaMem
namespace Go.Proofs.YtaigicdoepdhnaaDoor
def twoL (n : Nat) : List UInt8 := [UInt8.ofNat (48 + n / 10 % 10), UInt8.ofNat (48 + n % 10)]
def twoB (n : Int) : ByteArray := ⟨(twoL n.toNat).toArray⟩
def padL (k n : Nat) : List UInt8 := List.replicate (k - (Lib.decDigits n).length) 48 ++ Lib.decDigits n
theorem dd_one {n : Nat} (h : n < 10) : Lib.decDigits n = [UInt8.ofNat (48 + n)] := Lib.decDigits_one h
theorem dd_more {n : Nat} (h : ¬ n < 10) : Lib.decDigits n = Lib.decDigits (n / 10) ++ [UInt8.ofNat (48 + n % 10)] := by
  rw [Lib.decDigits, dif_neg h]
theorem pad2L (n : Nat) (h : n < 100) : padL 2 n = twoL n := by
  unfold padL twoL
  by_cases h1 : n < 10
  · rw [dd_one h1, show n / 10 % 10 = 0 by omega, show n % 10 = n by omega]; rfl
  · rw [dd_more h1, dd_one (show n / 10 < 10 by omega), show n / 10 % 10 = n / 10 by omega]; rfl
theorem pad4L (n : Nat) (h : n < 10000) : padL 4 n = twoL (n / 100) ++ twoL (n % 100) := by
  unfold padL twoL
  by_cases h1 : n < 10
  · rw [dd_one h1, show n / 100 / 10 % 10 = 0 by omega, show n / 100 % 10 = 0 by omega, show n % 100 / 10 % 10 = 0 by omega, show n % 100 % 10 = n by omega]; rfl
  · by_cases h2 : n < 100
    · rw [dd_more h1, dd_one (show n / 10 < 10 by omega), show n / 100 / 10 % 10 = 0 by omega, show n / 100 % 10 = 0 by omega, show n % 100 / 10 % 10 = n / 10 by omega, show n % 100 % 10 = n % 10 by omega]; rfl
    · by_cases h3 : n < 1000
      · rw [dd_more h1, dd_more (show ¬ n / 10 < 10 by omega), dd_one (show n / 10 / 10 < 10 by omega), show n / 100 / 10 % 10 = 0 by omega, show n / 100 % 10 = n / 10 / 10 by omega, show n % 100 / 10 % 10 = n / 10 % 10 by omega, show n % 100 % 10 = n % 10 by omega]; rfl
      · rw [dd_more h1, dd_more (show ¬ n / 10 < 10 by omega), dd_more (show ¬ n / 10 / 10 < 10 by omega), dd_one (show n / 10 / 10 / 10 < 10 by omega), show n / 100 / 10 % 10 = n / 10 / 10 / 10 by omega, show n / 100 % 10 = n / 10 / 10 % 10 by omega, show n % 100 / 10 % 10 = n / 10 % 10 by omega, show n % 100 % 10 = n % 10 by omega]; rfl
def chB1 (c : UInt8) : ByteArray := ⟨#[c]⟩
def clockB (h m : Int) : ByteArray := twoB h ++ (chB1 58 ++ twoB m)
def zoneB (g : Bool) (z : Int) : ByteArray := if g = false then ⟨#[]⟩ else if z = 0 then chB1 90 else if z < 0 then chB1 45 ++ clockB (-z / 60) (-z % 60) else chB1 43 ++ clockB (z / 60) (z % 60)
def yearB (y : Int) : ByteArray := twoB (y / 100) ++ twoB (y % 100)
def dayB (y mo d : Int) : ByteArray := yearB y ++ (chB1 45 ++ (twoB mo ++ (chB1 45 ++ twoB d)))
def dtB (y mo d h mi s : Int) (g : Bool) (z : Int) : ByteArray := if dateB y mo d h mi s g z = true then dayB y mo d ++ (chB1 84 ++ (clockB h mi ++ (chB1 58 ++ (twoB s ++ zoneB g z)))) else ⟨#[]⟩
end Go.Proofs.YtaigicdoepdhnaaDoor
