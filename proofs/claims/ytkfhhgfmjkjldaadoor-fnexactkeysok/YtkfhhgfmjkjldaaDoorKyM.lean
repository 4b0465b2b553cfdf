/-
  Keys: which rows of keys are right. No step of the program in this text.
-/
import Derived.Test.YtkfhhgfmjkjldaaDoorKyRow
import Derived.Test.YtkfhhgfmjkjldaaDoorFdM
namespace Go.Proofs.YtkfhhgfmjkjldaaDoor
open Go.RowKit
set_option linter.unusedVariables false
set_option linter.unusedSimpArgs false
theorem ba_eq (a b : ByteArray) : (a.toList == b.toList) = true ↔ a = b := by
  rw [ByteArray.toList_eq, ByteArray.toList_eq, beq_iff_eq]
  constructor
  · intro h
    obtain ⟨⟨a⟩⟩ := a
    obtain ⟨⟨b⟩⟩ := b
    simp at h
    rw [h]
  · intro h; rw [h]
theorem ba_ne {a b : ByteArray} (h : (a.toList == b.toList) = false) : a ≠ b := fun e => by
  rw [(ba_eq a b).2 e] at h; cases h
/-- A key, by itself, is right but for what it refers to. -/
def KeyOne (x : Ky) : Prop := nameB x.nm = true ∧ (1 ≤ x.kd ∧ x.kd ≤ 3) ∧ nameB x.on = true ∧ routeB x.pa = true ∧ (1 ≤ x.fl.length ∧ x.fl.length ≤ 4) ∧ ∀ j, j < x.fl.length → (fld (x.fl[j]?.getD ⟨#[]⟩).data.toList).isSome = true
/-- Key j is one that key i may refer to. -/
def RefAt (L : List Ky) (j i : Nat) : Prop := (kyA L j).nm = (kyA L i).re ∧ (kyA L j).kd ≠ 3 ∧ (kyA L j).fl.length = (kyA L i).fl.length ∧ (kyA L j).on = (kyA L i).on
/-- Key i is right, the ones ahead of it being so. -/
def KeyAt (L : List Ky) (i : Nat) : Prop := KeyOne (kyA L i) ∧ (∀ j, j < i → (kyA L j).nm ≠ (kyA L i).nm) ∧ ((kyA L i).kd = 3 → ∃ j, j < i ∧ RefAt L j i) ∧ ((kyA L i).kd ≠ 3 → (kyA L i).re = ⟨#[]⟩)
def KeysP (L : List Ky) : Prop := L.length ≤ 10 ∧ ∀ i, i < L.length → KeyAt L i
theorem keys_one {L : List Ky} {i : Nat} (hi : i < L.length) (h : ¬ KeyOne (kyA L i)) : ¬ KeysP L := fun H => h (H.2 i hi).1
theorem keys_twice {L : List Ky} {i j : Nat} (hi : i < L.length) (hj : j < i) (h : (kyA L j).nm = (kyA L i).nm) : ¬ KeysP L := fun H => (H.2 i hi).2.1 j hj h
theorem keys_ref {L : List Ky} {i : Nat} (hi : i < L.length) (h3 : (kyA L i).kd = 3) (h : ¬ ∃ j, j < i ∧ RefAt L j i) : ¬ KeysP L := fun H => h ((H.2 i hi).2.2.1 h3)
theorem keys_no {L : List Ky} {i : Nat} (hi : i < L.length) (h3 : (kyA L i).kd ≠ 3) (h : (kyA L i).re ≠ ⟨#[]⟩) : ¬ KeysP L := fun H => h ((H.2 i hi).2.2.2 h3)
theorem ref_step {L : List Ky} {i j : Nat} {B C D : Bool} (hB : B = true ↔ ∃ q, q < j ∧ RefAt L q i) (hC : C = true ↔ RefAt L j i) (hD : D = (B || C)) : D = true ↔ ∃ q, q < j + 1 ∧ RefAt L q i := by
  rw [hD, Bool.or_eq_true, hB, hC]
  constructor
  · rintro (⟨q, h1, h2⟩ | h)
    · exact ⟨q, by omega, h2⟩
    · exact ⟨j, by omega, h⟩
  · rintro ⟨q, h1, h2⟩
    by_cases e : q = j
    · subst e; exact .inr h2
    · exact .inl ⟨q, by omega, h2⟩
theorem ref_zero (L : List Ky) (i : Nat) : (false = true) ↔ ∃ q, q < 0 ∧ RefAt L q i := by
  constructor
  · intro h; cases h
  · rintro ⟨q, h, -⟩; omega
/-- No key that is right is called nothing. -/
theorem ref_none {L : List Ky} {i : Nat} (h : ∀ q, q < i → KeyAt L q) (hr : (kyA L i).re = ⟨#[]⟩) : ¬ ∃ q, q < i ∧ RefAt L q i := by
  rintro ⟨q, h1, h2, -⟩
  have hn := (h q h1).1.1
  rw [h2, hr] at hn
  exact absurd hn (by decide)
/-- What is said of a row of keys. -/
def KysAns (L : List Ky) (w : World) (e : Ending) (w' : World) : Prop := Below w.heap.size w w' ∧ ∃ B : Bool, e = .returned (.bool B) ∧ (B = true ↔ KeysP L)
theorem kys_no {L : List Ky} {w w' : World} (hb : Below w.heap.size w w') (h : ¬ KeysP L) : KysAns L w (.returned (.bool false)) w' := ⟨hb, false, rfl, by constructor; (intro h; cases h); (intro h2; exact absurd h2 h)⟩
theorem kys_yes {L : List Ky} {w w' : World} (hb : Below w.heap.size w w') (h : KeysP L) : KysAns L w (.returned (.bool true)) w' := ⟨hb, true, rfl, ⟨fun _ => h, fun _ => rfl⟩⟩
end Go.Proofs.YtkfhhgfmjkjldaaDoor
