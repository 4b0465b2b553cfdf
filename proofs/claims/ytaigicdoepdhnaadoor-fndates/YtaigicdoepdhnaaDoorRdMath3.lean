/-
  Plain facts, of no program: the specification's way of a zone and the program's one.
-/
import Derived.Test.YtaigicdoepdhnaaDoorRdMath2
namespace Go.Proofs.YtaigicdoepdhnaaDoor
open Go.RowKit
set_option linter.unusedVariables false
def zS (t : ByteArray) : Bool := decide (t.size = 6) && (decide (at8 t 0 = 43 ∨ at8 t 0 = 45) && (decide (at8 t 3 = 58) && (inB 0 (partV t 1 2) 14 && inB 0 (partV t 4 2) 59)))
theorem rest_at {t : ByteArray} (h : t.size = 6) {j : Nat} (hj : j < 5) : at8 (t.extract 1 t.size) j = at8 t (1 + j) := ext_at t 1 t.size j (by omega) (by omega)
theorem rest2 {t : ByteArray} (h : t.size = 6) (a : Nat) (ha : a + 2 ≤ 5) : numB ((t.extract 1 t.size).extract a (a + 2)) = numB (t.extract (1 + a) (1 + a + 2)) ∧ digsB ((t.extract 1 t.size).extract a (a + 2)) = digsB (t.extract (1 + a) (1 + a + 2)) := by
  have s0 : (t.extract 1 t.size).size = 5 := by rw [ext_size t 1 t.size (by omega)]; omega
  have s1 : ((t.extract 1 t.size).extract a (a + 2)).size = 2 := by rw [ext_size _ a (a + 2) (by omega)]; omega
  have s2 : (t.extract (1 + a) (1 + a + 2)).size = 2 := by rw [ext_size t _ _ (by omega)]; omega
  have e : ∀ j, j < 2 → at8 ((t.extract 1 t.size).extract a (a + 2)) j = at8 (t.extract (1 + a) (1 + a + 2)) j := fun j hj => by
    rw [ext_at _ a (a + 2) j (by omega) (by omega), rest_at h (by omega), ext_at t (1 + a) (1 + a + 2) j (by omega) (by omega)]
    congr 1; omega
  refine ⟨?_, digs_same (by rw [s1, s2]) (fun j hj => e j (by omega))⟩
  unfold numB
  rw [s1, s2]
  exact numK_same 2 e
theorem rest_h {t : ByteArray} (h : t.size = 6) : numB ((t.extract 1 t.size).extract 0 2) = numB (t.extract 1 3) ∧ digsB ((t.extract 1 t.size).extract 0 2) = digsB (t.extract 1 3) := rest2 h 0 (by omega)
theorem rest_m {t : ByteArray} (h : t.size = 6) : numB ((t.extract 1 t.size).extract 3 5) = numB (t.extract 4 6) ∧ digsB ((t.extract 1 t.size).extract 3 5) = digsB (t.extract 4 6) := rest2 h 3 (by omega)
theorem part_h {t : ByteArray} (h : t.size = 6) (d : digsB (t.extract 1 3) = true) : partV t 1 2 = numB ((t.extract 1 t.size).extract 0 2) := by
  rw [(rest_h h).1]; exact part_yes (a := 1) (m := 2) (by omega) d
theorem part_m {t : ByteArray} (h : t.size = 6) (d : digsB (t.extract 4 6) = true) : partV t 4 2 = numB ((t.extract 1 t.size).extract 3 5) := by
  rw [(rest_m h).1]; exact part_yes (a := 4) (m := 2) (by omega) d
theorem sh5_of {t : ByteArray} (h : t.size = 6) (h3 : at8 t 3 = 58) (d1 : digsB (t.extract 1 3) = true) (d2 : digsB (t.extract 4 6) = true) : shB (t.extract 1 t.size) p5 = true := by
  have s0 : (t.extract 1 t.size).size = p5.size := by rw [ext_size t 1 t.size (by omega)]; have e2 : p5.size = 5 := rfl; omega
  refine shB_yes s0 (fun k hk => ?_)
  have hk5 : k < 5 := hk
  rw [rest_at h hk5]
  have D1 := fun j (hj : 1 + j < 3) => dig_ext_at (by omega) d1 hj
  have D2 := fun j (hj : 4 + j < 6) => dig_ext_at (by omega) d2 hj
  have hk' : k = 0 ∨ k = 1 ∨ k = 2 ∨ k = 3 ∨ k = 4 := by omega
  rcases hk' with rfl | rfl | rfl | rfl | rfl
  · exact D1 0 (by omega)
  · exact D1 1 (by omega)
  · rw [h3]; rfl
  · exact D2 0 (by omega)
  · exact D2 1 (by omega)
theorem part_ge {t : ByteArray} {a : Nat} (h : a + 2 ≤ t.size) (q : 0 ≤ partV t a 2) : digsB (t.extract a (a + 2)) = true := by
  cases e : digsB (t.extract a (a + 2)) with
  | true => rfl
  | false => rw [part_no h e] at q; omega
theorem zone_yes {t : ByteArray} (h0 : ¬ t.size = 0) (hz : ¬ t = ⟨#[90]⟩) (q : zS t = true) : zI t = (true, if at8 t 0 = 45 then -(60 * partV t 1 2 + partV t 4 2) else 60 * partV t 1 2 + partV t 4 2, true) := by
  simp only [zS, Bool.and_eq_true, decide_eq_true_eq] at q
  obtain ⟨hs, hsg, h3, b1, b2⟩ := q
  have b1 := inB_of b1
  have b2 := inB_of b2
  have d1 := part_ge (t := t) (a := 1) (by omega) b1.1
  have d2 := part_ge (t := t) (a := 4) (by omega) b2.1
  have n1 := (rest2 hs 0 (by omega)).1
  have n2 := (rest2 hs 3 (by omega)).1
  have v1 : partV t 1 2 = numB ((t.extract 1 t.size).extract 0 2) := (part_yes (by omega) d1).trans n1.symm
  have v2 : partV t 4 2 = numB ((t.extract 1 t.size).extract 3 5) := (part_yes (by omega) d2).trans n2.symm
  unfold zI
  rw [if_neg h0, if_neg hz, if_pos ⟨hsg, sh5_of hs h3 d1 d2⟩, ← v1, ← v2, if_neg (by omega)]
  by_cases h45 : at8 t 0 = 45
  · rw [if_pos h45, if_pos h45]; simp; omega
  · rw [if_neg h45, if_neg h45]; simp; omega
set_option maxHeartbeats 1000000 in
theorem zone_no {t : ByteArray} (h0 : ¬ t.size = 0) (hz : ¬ t = ⟨#[90]⟩) (q : zS t = false) : (zI t).2.2 = false ∨ inB (-840) (zI t).2.1 840 = false := by
  unfold zI
  rw [if_neg h0, if_neg hz]
  by_cases hc : (at8 t 0 = 43 ∨ at8 t 0 = 45) ∧ shB (t.extract 1 t.size) p5 = true
  · rw [if_pos hc]
    by_cases h59 : 59 < numB ((t.extract 1 t.size).extract 3 5)
    · rw [if_pos h59]; exact .inl rfl
    · rw [if_neg h59]
      right
      obtain ⟨hr5, d1, d2, h2⟩ := sh5 hc.2
      have hs : t.size = 6 := by rw [ext_size t 1 t.size (by omega)] at hr5; omega
      have d1' : digsB (t.extract 1 3) = true := by rw [← (rest_h hs).2]; exact d1
      have d2' : digsB (t.extract 4 6) = true := by rw [← (rest_m hs).2]; exact d2
      have v1 := part_h hs d1'
      have v2 := part_m hs d2'
      have s1 : ((t.extract 1 t.size).extract 0 2).size = 2 := by rw [ext_size _ 0 2 (by omega)]
      have s2 : ((t.extract 1 t.size).extract 3 5).size = 2 := by rw [ext_size _ 3 5 (by omega)]
      have b1 := num2_bd d1 s1
      have b2 := num2_bd d2 s2
      have h3 : at8 t 3 = 58 := by rw [← h2, rest_at hs (by omega)]
      have h14 : 14 < numB ((t.extract 1 t.size).extract 0 2) := by
        rcases Int.lt_or_le 14 (numB ((t.extract 1 t.size).extract 0 2)) with h | h
        · exact h
        · exfalso
          have : zS t = true := by
            simp only [zS, Bool.and_eq_true, decide_eq_true_eq]
            exact ⟨hs, hc.1, h3, inB_t ⟨by rw [v1]; omega, by rw [v1]; omega⟩, inB_t ⟨by rw [v2]; omega, by rw [v2]; omega⟩⟩
          rw [this] at q; cases q
      apply inB_f
      by_cases h45 : at8 t 0 = 45
      · simp only [if_pos h45]; omega
      · simp only [if_neg h45]; omega
  · rw [if_neg hc]; exact .inl rfl
theorem dateB_zone {y mo d h mi s : Int} {g : Bool} {z : Int} (q : inB (-840) z 840 = false) : dateB y mo d h mi s g z = false := by simp [dateB, q]
/-- A text with its five signs is a date just where the specification's numbers and the zone are one. -/
theorem rd_parts {s : ByteArray} (h : 19 ≤ s.size) (q : hdrB s = true) : rdOk s = ((zI (tailA s)).2.2 && partsB s (zI (tailA s)).1 (zI (tailA s)).2.1) := by
  cases ha : allD s with
  | false => rw [parts_no h ha]; simp [rdOk, shape_is h, ha]
  | true =>
    obtain ⟨e0, e1, e2, e3, e4, e5⟩ := parts_yes h ha
    simp [rdOk, shape_is h, q, ha, partsB, e0, e1, e2, e3, e4, e5]
theorem rd_fields {s : ByteArray} (h : 19 ≤ s.size) (q : rdOk s = true) : partV s 0 4 = f0 s ∧ partV s 5 2 = f1 s ∧ partV s 8 2 = f2 s ∧ partV s 11 2 = f3 s ∧ partV s 14 2 = f4 s ∧ partV s 17 2 = f5 s := by
  apply parts_yes h
  cases e : allD s with
  | true => rfl
  | false => simp [rdOk, shape_is h, e] at q
end Go.Proofs.YtaigicdoepdhnaaDoor
