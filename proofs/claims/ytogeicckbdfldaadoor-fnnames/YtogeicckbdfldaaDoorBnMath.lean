/-
  Names: what a prefix is bound to at an item. No step of the program in this text.
-/
import Derived.Test.YtogeicckbdfldaaDoorDocPl
namespace Go.Proofs.YtogeicckbdfldaaDoor
open Go.RowKit Go.Joins
set_option linter.unusedVariables false
set_option linter.unusedSimpArgs false
/-- The first of f attributes from i on that has the name. -/
def atF (N : Nat → ByteArray) (nm : ByteArray) : Nat → Nat → Option Nat
  | 0, _ => none
  | f + 1, i => if N i = nm then some i else atF N nm f (i + 1)
theorem atF_yes {N : Nat → ByteArray} {nm : ByteArray} {n i : Nat} (h : i < n) (hn : N i = nm) : atF N nm (n - i) i = some i := by
  rw [show n - i = (n - (i + 1)) + 1 by omega, atF, if_pos hn]
theorem atF_no {N : Nat → ByteArray} {nm : ByteArray} {n i : Nat} (h : i < n) (hn : N i ≠ nm) : atF N nm (n - i) i = atF N nm (n - (i + 1)) (i + 1) := by
  rw [show n - i = (n - (i + 1)) + 1 by omega, atF, if_neg hn]
theorem atF_end {N : Nat → ByteArray} {nm : ByteArray} {n i : Nat} (h : n ≤ i) : atF N nm (n - i) i = none := by
  rw [show n - i = 0 by omega, atF]
/-- What the name's binding says, from the item at on upwards. -/
def bnW (D : Dc) (nm : ByteArray) : Nat → Int → Option ByteArray
  | 0, _ => none
  | f + 1, at' => if at' < 0 then none else match atF (D.AN at'.toNat) nm (D.AC at'.toNat) 0 with | some i => some (D.AV at'.toNat i) | none => bnW D nm f (D.U at'.toNat)
theorem bnW_neg {D : Dc} {nm : ByteArray} {f : Nat} {a : Int} (h : a < 0) : bnW D nm f a = none := by
  cases f with
  | zero => rfl
  | succ f => rw [bnW, if_pos h]
theorem bnW_fuel {D : Dc} {nm : ByteArray} {n : Nat} (hdec : ∀ j, j < n → D.U j < j) : ∀ (f g : Nat) (a : Int), a < n → (a + 1).toNat ≤ f → (a + 1).toNat ≤ g → bnW D nm f a = bnW D nm g a
  | 0, g, a, ha, hf, hg => by rw [bnW_neg (by omega), bnW_neg (by omega)]
  | f + 1, 0, a, ha, hf, hg => by rw [bnW_neg (by omega), bnW_neg (by omega)]
  | f + 1, g + 1, a, ha, hf, hg => by
    by_cases h0 : a < 0
    · rw [bnW_neg h0, bnW_neg h0]
    · rw [bnW, bnW, if_neg h0, if_neg h0]
      have hd := hdec a.toNat (by omega)
      cases atF (D.AN a.toNat) nm (D.AC a.toNat) 0 with
      | some i => rfl
      | none => exact bnW_fuel hdec f g _ (by omega) (by omega) (by omega)
def bnR (D : Dc) (nm : ByteArray) (a : Int) : Option ByteArray := bnW D nm (a + 1).toNat a
theorem bnR_neg {D : Dc} {nm : ByteArray} {a : Int} (h : a < 0) : bnR D nm a = none := bnW_neg h
theorem bnR_hit {D : Dc} {nm : ByteArray} {k i : Nat} (h : atF (D.AN k) nm (D.AC k) 0 = some i) : bnR D nm k = some (D.AV k i) := by
  unfold bnR
  rw [show ((k : Int) + 1).toNat = k + 1 by omega, bnW, if_neg (by omega), Int.toNat_natCast, h]
theorem bnR_up {D : Dc} {nm : ByteArray} {n k : Nat} (hdec : ∀ j, j < n → D.U j < j) (hk : k < n) (h : atF (D.AN k) nm (D.AC k) 0 = none) : bnR D nm k = bnR D nm (D.U k) := by
  have hd := hdec k hk
  unfold bnR
  rw [show ((k : Int) + 1).toNat = k + 1 by omega, bnW, if_neg (by omega), Int.toNat_natCast, h]
  exact bnW_fuel hdec _ _ _ (by omega) (by omega) (by omega)
def xmlV : ByteArray := ⟨#[104, 116, 116, 112, 58, 47, 47, 119, 119, 119, 46, 119, 51, 46, 111, 114, 103, 47, 88, 77, 76, 47, 49, 57, 57, 56, 47, 110, 97, 109, 101, 115, 112, 97, 99, 101]⟩
def bnN (p : ByteArray) : ByteArray := if p.toList.isEmpty then ⟨#[120, 109, 108, 110, 115]⟩ else ⟨#[120, 109, 108, 110, 115, 58]⟩ ++ p
def bnV (D : Dc) (x : Int) (p : ByteArray) : ByteArray := if p.toList == [120, 109, 108] then xmlV else (bnR D (bnN p) x).getD ⟨#[]⟩
def bnK (D : Dc) (x : Int) (p : ByteArray) : Bool := if p.toList == [120, 109, 108] then true else p.toList.isEmpty || !((bnR D (bnN p) x).getD ⟨#[]⟩).toList.isEmpty
end Go.Proofs.YtogeicckbdfldaaDoor
