/-
  Plain facts on the text of a zone and of a date, of no program.
-/
import Derived.Test.YtaigicdoepdhnaaDoorRdMath
namespace Go.Proofs.YtaigicdoepdhnaaDoor
open Go.RowKit
set_option linter.unusedVariables false
def p5 : ByteArray := ⟨#[48, 48, 58, 48, 48]⟩
def p19 : ByteArray := ⟨#[48, 48, 48, 48, 45, 48, 48, 45, 48, 48, 84, 48, 48, 58, 48, 48, 58, 48, 48]⟩
/-- The zone that a text is, by the program: whether there is one, its minutes, whether it may be one. -/
def zI (t : ByteArray) : Bool × Int × Bool :=
  if t.size = 0 then (false, 0, true) else if t = ⟨#[90]⟩ then (true, 0, true)
  else if (at8 t 0 = 43 ∨ at8 t 0 = 45) ∧ shB (t.extract 1 t.size) p5 = true then
    if 59 < numB ((t.extract 1 t.size).extract 3 5) then (false, 0, false)
    else (true, if at8 t 0 = 45 then -(numB ((t.extract 1 t.size).extract 0 2) * 60 + numB ((t.extract 1 t.size).extract 3 5)) else numB ((t.extract 1 t.size).extract 0 2) * 60 + numB ((t.extract 1 t.size).extract 3 5), true)
  else (false, 0, false)
theorem sh5 {r : ByteArray} (h : shB r p5 = true) : r.size = 5 ∧ digsB (r.extract 0 2) = true ∧ digsB (r.extract 3 5) = true ∧ at8 r 2 = 58 := by
  obtain ⟨hs, hk⟩ := shB_at h
  have hs5 : r.size = 5 := hs
  have d : ∀ k, k < 5 → at8 p5 k = 48 → digitB (at8 r k) = true := fun k hk5 e => by have := hk k hk5; rw [if_pos e] at this; exact this
  have hd : ∀ a b, b ≤ 5 → (∀ j, a + j < b → at8 p5 (a + j) = 48) → digsB (r.extract a b) = true := fun a b hb q => by
    apply digsB_yes
    intro j hj
    rw [ext_size r a b (by omega)] at hj
    rw [← at8_eq _ j (by rw [ext_size r a b (by omega)]; exact hj), ext_at r a b j (by omega) (by omega)]
    exact d (a + j) (by omega) (q j (by omega))
  refine ⟨hs5, hd 0 2 (by omega) ?_, hd 3 5 (by omega) ?_, ?_⟩
  · intro j hj; obtain rfl | rfl : j = 0 ∨ j = 1 := by omega
    all_goals rfl
  · intro j hj; obtain rfl | rfl : j = 0 ∨ j = 1 := by omega
    all_goals rfl
  · have := hk 2 (by decide)
    rw [if_neg (by decide)] at this
    exact of_decide_eq_true this
theorem num2_bd {t : ByteArray} (h : digsB t = true) (hs : t.size = 2) : 0 ≤ numB t ∧ numB t ≤ 99 := by
  have := numK_bd h 2 (by omega)
  rw [numB, hs]
  have e : pw 2 = 100 := by decide
  omega
theorem num4_bd {t : ByteArray} (h : digsB t = true) (hs : t.size = 4) : 0 ≤ numB t ∧ numB t ≤ 9999 := by
  have := numK_bd h 4 (by omega)
  rw [numB, hs]
  have e : pw 4 = 10000 := by decide
  omega
end Go.Proofs.YtaigicdoepdhnaaDoor
