/-
  Plain facts, of no program: the date that a text is, by the program's way and by the specification's way: they are one.
-/
import Derived.Test.YtaigicdoepdhnaaDoorRdZMath
namespace Go.Proofs.YtaigicdoepdhnaaDoor
open Go.RowKit
set_option linter.unusedVariables false
/-- The first bytes of a text, at most 19. -/
def headA (s : ByteArray) : ByteArray := s.extract 0 (min s.size 19)
def tailA (s : ByteArray) : ByteArray := s.extract 19 s.size
def f0 (s : ByteArray) : Int := numB (s.extract 0 4)
def f1 (s : ByteArray) : Int := numB (s.extract 5 7)
def f2 (s : ByteArray) : Int := numB (s.extract 8 10)
def f3 (s : ByteArray) : Int := numB (s.extract 11 13)
def f4 (s : ByteArray) : Int := numB (s.extract 14 16)
def f5 (s : ByteArray) : Int := numB (s.extract 17 19)
/-- Whether a text is a date: its shape, its zone, and what it says. -/
def rdOk (s : ByteArray) : Bool := shB (headA s) p19 && ((zI (tailA s)).2.2 && dateB (f0 s) (f1 s) (f2 s) (f3 s) (f4 s) (f5 s) (zI (tailA s)).1 (zI (tailA s)).2.1)
def hdrB (s : ByteArray) : Bool := decide (at8 s 4 = 45) && (decide (at8 s 7 = 45) && (decide (at8 s 10 = 84) && (decide (at8 s 13 = 58) && decide (at8 s 16 = 58))))
theorem head_size {s : ByteArray} (h : 19 ≤ s.size) : headA s = s.extract 0 19 := by unfold headA; rw [Nat.min_eq_right h]
theorem head_at {s : ByteArray} (h : 19 ≤ s.size) {j : Nat} (hj : j < 19) : at8 (headA s) j = at8 s j := by
  rw [head_size h, ext_at s 0 19 j (by omega) h, Nat.zero_add]
theorem dig_ext {s : ByteArray} {a b : Nat} (hb : b ≤ s.size) (h : ∀ j, a + j < b → digitB (at8 s (a + j)) = true) : digsB (s.extract a b) = true := by
  apply digsB_yes
  intro j hj
  rw [ext_size s a b hb] at hj
  rw [← at8_eq _ j (by rw [ext_size s a b hb]; exact hj), ext_at s a b j (by omega) hb]
  exact h j (by omega)
theorem dig_ext_at {s : ByteArray} {a b : Nat} (hb : b ≤ s.size) (h : digsB (s.extract a b) = true) {j : Nat} (hj : a + j < b) : digitB (at8 s (a + j)) = true := by
  have := digsB_at _ h j (by rw [ext_size s a b hb]; omega)
  rwa [← at8_eq _ j (by rw [ext_size s a b hb]; omega), ext_at s a b j hj hb] at this
def allD (s : ByteArray) : Bool := digsB (s.extract 0 4) && (digsB (s.extract 5 7) && (digsB (s.extract 8 10) && (digsB (s.extract 11 13) && (digsB (s.extract 14 16) && digsB (s.extract 17 19)))))
/-- A text's shape is its five signs and its six numbers. -/
theorem shape_is {s : ByteArray} (h : 19 ≤ s.size) : shB (headA s) p19 = (hdrB s && allD s) := by
  have hsz : (headA s).size = p19.size := by rw [head_size h, ext_size s 0 19 h]; rfl
  rw [Bool.eq_iff_iff]
  constructor
  · intro q
    have hk := (shB_at q).2
    have k : ∀ j, j < 19 → (if at8 p19 j = 48 then digitB (at8 s j) else decide (at8 s j = at8 p19 j)) = true := fun j hj => by
      have := hk j hj; rwa [head_at h hj] at this
    have d : ∀ j, j < 19 → at8 p19 j = 48 → digitB (at8 s j) = true := fun j hj e => by have := k j hj; rwa [if_pos e] at this
    have g : ∀ j, j < 19 → ∀ v, at8 p19 j = v → ¬ v = 48 → at8 s j = v := fun j hj v e ne => by
      have := k j hj
      rw [if_neg (by rw [e]; exact ne), e] at this
      exact of_decide_eq_true this
    have e4 := g 4 (by omega) 45 rfl (by decide)
    have e7 := g 7 (by omega) 45 rfl (by decide)
    have e10 := g 10 (by omega) 84 rfl (by decide)
    have e13 := g 13 (by omega) 58 rfl (by decide)
    have e16 := g 16 (by omega) 58 rfl (by decide)
    have a0 : digsB (s.extract 0 4) = true := dig_ext (by omega) (fun j hj => by
      have hj4 : j = 0 ∨ j = 1 ∨ j = 2 ∨ j = 3 := by omega
      rcases hj4 with rfl | rfl | rfl | rfl
      all_goals exact d _ (by omega) rfl)
    have two : ∀ a, a + 2 ≤ 19 → at8 p19 a = 48 → at8 p19 (a + 1) = 48 → digsB (s.extract a (a + 2)) = true := fun a ha q0 q1 => dig_ext (by omega) (fun j hj => by
      obtain rfl | rfl : j = 0 ∨ j = 1 := by omega
      · exact d _ (by omega) q0
      · exact d _ (by omega) q1)
    simp only [hdrB, allD, e4, e7, e10, e13, e16, a0, two 5 (by omega) rfl rfl, two 8 (by omega) rfl rfl, two 11 (by omega) rfl rfl, two 14 (by omega) rfl rfl, two 17 (by omega) rfl rfl, decide_true, Bool.and_self]
  · intro q
    simp only [hdrB, allD, Bool.and_eq_true, decide_eq_true_eq] at q
    obtain ⟨⟨e4, e7, e10, e13, e16⟩, a0, a1, a2, a3, a4, a5⟩ := q
    refine shB_yes hsz (fun k hk => ?_)
    have hk19 : k < 19 := hk
    rw [head_at h hk19]
    have D0 := fun j (hj : 0 + j < 4) => dig_ext_at (by omega) a0 hj
    have D1 := fun j (hj : 5 + j < 7) => dig_ext_at (by omega) a1 hj
    have D2 := fun j (hj : 8 + j < 10) => dig_ext_at (by omega) a2 hj
    have D3 := fun j (hj : 11 + j < 13) => dig_ext_at (by omega) a3 hj
    have D4 := fun j (hj : 14 + j < 16) => dig_ext_at (by omega) a4 hj
    have D5 := fun j (hj : 17 + j < 19) => dig_ext_at (by omega) a5 hj
    obtain rfl | rfl | rfl | rfl | rfl | rfl | rfl | rfl | rfl | rfl | rfl | rfl | rfl | rfl | rfl | rfl | rfl | rfl | rfl : k = 0 ∨ k = 1 ∨ k = 2 ∨ k = 3 ∨ k = 4 ∨ k = 5 ∨ k = 6 ∨ k = 7 ∨ k = 8 ∨ k = 9 ∨ k = 10 ∨ k = 11 ∨ k = 12 ∨ k = 13 ∨ k = 14 ∨ k = 15 ∨ k = 16 ∨ k = 17 ∨ k = 18 := by omega
    · exact D0 0 (by omega)
    · exact D0 1 (by omega)
    · exact D0 2 (by omega)
    · exact D0 3 (by omega)
    · rw [e4]; rfl
    · exact D1 0 (by omega)
    · exact D1 1 (by omega)
    · rw [e7]; rfl
    · exact D2 0 (by omega)
    · exact D2 1 (by omega)
    · rw [e10]; rfl
    · exact D3 0 (by omega)
    · exact D3 1 (by omega)
    · rw [e13]; rfl
    · exact D4 0 (by omega)
    · exact D4 1 (by omega)
    · rw [e16]; rfl
    · exact D5 0 (by omega)
    · exact D5 1 (by omega)
theorem rd_short {s : ByteArray} (h : s.size < 19) : rdOk s = false := by
  have : shB (headA s) p19 = false := shB_size (by
    have e : (headA s).size = s.size := by unfold headA; rw [ext_size s 0 _ (Nat.min_le_left _ _), Nat.min_eq_left (by omega)]; omega
    have e2 : p19.size = 19 := rfl
    omega)
  simp [rdOk, this]
theorem rd_hdr {s : ByteArray} (h : 19 ≤ s.size) (q : hdrB s = false) : rdOk s = false := by simp [rdOk, shape_is h, q]
/-- The specification's number is the program's one where there are digits. -/
theorem part_yes {s : ByteArray} {a m : Nat} (h : a + m ≤ s.size) (q : digsB (s.extract a (a + m)) = true) : partV s a m = numB (s.extract a (a + m)) := by
  unfold partV; rw [if_neg (by omega), if_pos q]
theorem part_no {s : ByteArray} {a m : Nat} (h : a + m ≤ s.size) (q : digsB (s.extract a (a + m)) = false) : partV s a m = -1 := by
  unfold partV; rw [if_neg (by omega), if_neg (by simp [q])]
def partsB (s : ByteArray) (g : Bool) (z : Int) : Bool := dateB (partV s 0 4) (partV s 5 2) (partV s 8 2) (partV s 11 2) (partV s 14 2) (partV s 17 2) g z
theorem parts_yes {s : ByteArray} (h : 19 ≤ s.size) (q : allD s = true) : partV s 0 4 = f0 s ∧ partV s 5 2 = f1 s ∧ partV s 8 2 = f2 s ∧ partV s 11 2 = f3 s ∧ partV s 14 2 = f4 s ∧ partV s 17 2 = f5 s := by
  simp only [allD, Bool.and_eq_true] at q
  obtain ⟨a0, a1, a2, a3, a4, a5⟩ := q
  exact ⟨part_yes (by omega) a0, part_yes (by omega) a1, part_yes (by omega) a2, part_yes (by omega) a3, part_yes (by omega) a4, part_yes (by omega) a5⟩
theorem parts_no {s : ByteArray} (h : 19 ≤ s.size) (q : allD s = false) (g : Bool) (z : Int) : partsB s g z = false := by
  have neg : ∀ a m, a + m ≤ s.size → digsB (s.extract a (a + m)) = false → partV s a m = -1 := fun a m hh hq => part_no hh hq
  cases hb : partsB s g z with
  | false => rfl
  | true =>
    simp only [partsB, dateB, Bool.and_eq_true] at hb
    obtain ⟨b0, b1, b2, b3, b4, b5, _⟩ := hb
    have b0 := inB_of b0
    have b1 := inB_of b1
    have b2 := inB_of b2
    have b3 := inB_of b3
    have b4 := inB_of b4
    have b5 := inB_of b5
    have y : ∀ a m, a + m ≤ s.size → ¬ partV s a m = -1 → digsB (s.extract a (a + m)) = true := fun a m hh hq => by
      cases e : digsB (s.extract a (a + m)) with
      | true => rfl
      | false => exact absurd (neg a m hh e) hq
    have a0 := y 0 4 (by omega) (by omega)
    have a1 := y 5 2 (by omega) (by omega)
    have a2 := y 8 2 (by omega) (by omega)
    have a3 := y 11 2 (by omega) (by omega)
    have a4 := y 14 2 (by omega) (by omega)
    have a5 := y 17 2 (by omega) (by omega)
    simp [allD, a0, a1, a2, a3, a4, a5] at q
end Go.Proofs.YtaigicdoepdhnaaDoor
