/-
  Plain facts, of no program: a right date comes back from its text.
-/
import Derived.Test.YtaigicdoepdhnaaDoorRdMath2
import Derived.Test.YtaigicdoepdhnaaDoorDtMath
import Derived.Test.YtaigicdoepdhnaaDoorSecMath
import Derived.Lib.IndexBytes
namespace Go.Proofs.YtaigicdoepdhnaaDoor
open Go.RowKit
set_option linter.unusedVariables false
set_option linter.unusedSimpArgs false
theorem dapp (a b : ByteArray) : (a ++ b).data.toList = a.data.toList ++ b.data.toList := by simp
theorem cN (k : Nat) (h : k < 10) : (UInt8.ofNat (48 + k)).toNat = 48 + k := by rw [UInt8.toNat_ofNat']; omega
theorem twoB_list (n : Int) : (twoB n).data.toList = twoL n.toNat := rfl
theorem at8_of {s : ByteArray} {l : List UInt8} (h : s.data.toList = l) (j : Nat) : at8 s j = (((l[j]?).getD 0).toNat : Int) := by unfold at8; rw [h]
theorem size_of {s : ByteArray} {l : List UInt8} (h : s.data.toList = l) : s.size = l.length := by rw [← h, Array.length_toList]; rfl
theorem num2 {t : ByteArray} (h : t.size = 2) : numB t = (at8 t 0 - 48) * 10 + (at8 t 1 - 48) := by unfold numB; rw [h]; simp only [numK]; omega
theorem num4 {t : ByteArray} (h : t.size = 4) : numB t = (((at8 t 0 - 48) * 10 + (at8 t 1 - 48)) * 10 + (at8 t 2 - 48)) * 10 + (at8 t 3 - 48) := by unfold numB; rw [h]; simp only [numK]; omega
theorem num2_ext {s : ByteArray} (a : Nat) (h : a + 2 ≤ s.size) : numB (s.extract a (a + 2)) = (at8 s a - 48) * 10 + (at8 s (a + 1) - 48) := by
  rw [num2 (by rw [ext_size s a _ h]; omega), ext_at s a _ 0 (by omega) h, ext_at s a _ 1 (by omega) h]; rfl
/-- The bytes of a right zone are read as that zone. -/
theorem clock_zone (c : UInt8) (H M : Int) (h0 : 0 ≤ H) (h1 : H ≤ 14) (m0 : 0 ≤ M) (m1 : M ≤ 59) {t : ByteArray} (ht : t = chB1 c ++ clockB H M) :
    t.size = 6 ∧ at8 t 0 = (c.toNat : Int) ∧ shB (t.extract 1 t.size) p5 = true ∧ numB ((t.extract 1 t.size).extract 0 2) = H ∧ numB ((t.extract 1 t.size).extract 3 5) = M := by
  obtain ⟨a, rfl⟩ : ∃ a : Nat, H = (a : Int) := ⟨H.toNat, by omega⟩
  obtain ⟨b, rfl⟩ : ∃ b : Nat, M = (b : Int) := ⟨M.toNat, by omega⟩
  have hl : t.data.toList = [c, UInt8.ofNat (48 + a / 10 % 10), UInt8.ofNat (48 + a % 10), 58, UInt8.ofNat (48 + b / 10 % 10), UInt8.ofNat (48 + b % 10)] := by
    rw [ht, dapp]; unfold clockB; rw [dapp, dapp]; rfl
  have hs : t.size = 6 := size_of hl
  have a0 : at8 t 0 = (c.toNat : Int) := at8_of hl 0
  have a1 : at8 t 1 = ((48 + a / 10 % 10 : Nat) : Int) := by rw [at8_of hl 1]; exact congrArg _ (cN _ (by omega))
  have a2 : at8 t 2 = ((48 + a % 10 : Nat) : Int) := by rw [at8_of hl 2]; exact congrArg _ (cN _ (by omega))
  have a3 : at8 t 3 = 58 := at8_of hl 3
  have a4 : at8 t 4 = ((48 + b / 10 % 10 : Nat) : Int) := by rw [at8_of hl 4]; exact congrArg _ (cN _ (by omega))
  have a5 : at8 t 5 = ((48 + b % 10 : Nat) : Int) := by rw [at8_of hl 5]; exact congrArg _ (cN _ (by omega))
  have es : (t.extract 1 t.size).size = 5 := by rw [ext_size t 1 _ (Nat.le_refl _), hs]
  have e : ∀ j, j < 5 → at8 (t.extract 1 t.size) j = at8 t (1 + j) := fun j hj => ext_at t 1 _ j (by omega) (Nat.le_refl _)
  refine ⟨hs, a0, ?_, ?_, ?_⟩
  · refine shB_yes es (fun k hk => ?_)
    have hk5 : k < 5 := hk
    rcases (show k = 0 ∨ k = 1 ∨ k = 2 ∨ k = 3 ∨ k = 4 by omega) with q | q | q | q | q
    · subst q; rw [if_pos (by decide), e 0 (by omega), a1]; simp [digitB]; omega
    · subst q; rw [if_pos (by decide), e 1 (by omega), a2]; simp [digitB]; omega
    · subst q; rw [if_neg (by decide), e 2 (by omega), a3]; rfl
    · subst q; rw [if_pos (by decide), e 3 (by omega), a4]; simp [digitB]; omega
    · subst q; rw [if_pos (by decide), e 4 (by omega), a5]; simp [digitB]; omega
  · have := num2_ext (s := t.extract 1 t.size) 0 (by omega)
    rw [show (0 : Nat) + 2 = 2 from rfl] at this
    rw [this, e 0 (by omega), e 1 (by omega), a1, a2]; omega
  · have := num2_ext (s := t.extract 1 t.size) 3 (by omega)
    rw [show (3 : Nat) + 2 = 5 from rfl] at this
    rw [this, e 3 (by omega), e 4 (by omega), a4, a5]; omega
theorem zone_back (g : Bool) (z : Int) (h1 : -840 ≤ z) (h2 : z ≤ 840) (hg : g = true ∨ z = 0) : zI (zoneB g z) = (g, z, true) := by
  cases g
  · obtain rfl : z = 0 := by simpa using hg
    rfl
  · by_cases h0 : z = 0
    · subst h0
      unfold zI
      rw [show zoneB true 0 = ⟨#[90]⟩ from rfl, if_neg (by decide), if_pos rfl]
    · by_cases hn : z < 0
      · have ht : zoneB true z = chB1 45 ++ clockB (-z / 60) (-z % 60) := by simp only [zoneB, Bool.true_eq_false, if_false]; rw [if_neg h0, if_pos hn]
        obtain ⟨s1, s2, s3, s4, s5⟩ := clock_zone 45 (-z / 60) (-z % 60) (by omega) (by omega) (by omega) (by omega) ht
        have s2' : at8 (zoneB true z) 0 = 45 := s2
        unfold zI
        rw [if_neg (by omega), if_neg (fun e => by rw [e] at s1; exact absurd s1 (by decide)), if_pos ⟨.inr s2', s3⟩, s4, s5, if_neg (by omega), if_pos s2']
        refine Prod.ext rfl (Prod.ext ?_ rfl)
        show -(-z / 60 * 60 + -z % 60) = z
        omega
      · have ht : zoneB true z = chB1 43 ++ clockB (z / 60) (z % 60) := by simp only [zoneB, Bool.true_eq_false, if_false]; rw [if_neg h0, if_neg hn]
        obtain ⟨s1, s2, s3, s4, s5⟩ := clock_zone 43 (z / 60) (z % 60) (by omega) (by omega) (by omega) (by omega) ht
        have s2' : at8 (zoneB true z) 0 = 43 := s2
        unfold zI
        rw [if_neg (by omega), if_neg (fun e => by rw [e] at s1; exact absurd s1 (by decide)), if_pos ⟨.inl s2', s3⟩, s4, s5, if_neg (by omega), if_neg (by omega)]
        refine Prod.ext rfl (Prod.ext ?_ rfl)
        show z / 60 * 60 + z % 60 = z
        omega
/-- A right date comes back from its text. -/
theorem date_back {y mo d h mi s : Int} {g : Bool} {z : Int} (hd : dateB y mo d h mi s g z = true) {t : ByteArray} (ht : dtB y mo d h mi s g z = t) :
    rdOk t = true ∧ f0 t = y ∧ f1 t = mo ∧ f2 t = d ∧ f3 t = h ∧ f4 t = mi ∧ f5 t = s ∧ zI (tailA t) = (g, z, true) ∧ t.size ≤ 25 := by
  have r := rt_of hd
  obtain ⟨y1, y2, m1, m2, d1, d2, h1, h2, n1, n2, s1, s2, z1, z2, gz⟩ := r
  have d3 := (dim_bd y mo).2
  rw [dtB, if_pos hd] at ht
  obtain ⟨Y, rfl⟩ : ∃ a : Nat, y = (a : Int) := ⟨y.toNat, by omega⟩
  obtain ⟨O, rfl⟩ : ∃ a : Nat, mo = (a : Int) := ⟨mo.toNat, by omega⟩
  obtain ⟨E, rfl⟩ : ∃ a : Nat, d = (a : Int) := ⟨d.toNat, by omega⟩
  obtain ⟨H, rfl⟩ : ∃ a : Nat, h = (a : Int) := ⟨h.toNat, by omega⟩
  obtain ⟨M, rfl⟩ : ∃ a : Nat, mi = (a : Int) := ⟨mi.toNat, by omega⟩
  obtain ⟨S, rfl⟩ : ∃ a : Nat, s = (a : Int) := ⟨s.toNat, by omega⟩
  have e1 : ((Y : Int) / 100).toNat = Y / 100 := by omega
  have e2 : ((Y : Int) % 100).toNat = Y % 100 := by omega
  have hl : t.data.toList = [UInt8.ofNat (48 + Y / 100 / 10 % 10), UInt8.ofNat (48 + Y / 100 % 10), UInt8.ofNat (48 + Y % 100 / 10 % 10), UInt8.ofNat (48 + Y % 100 % 10), 45, UInt8.ofNat (48 + O / 10 % 10), UInt8.ofNat (48 + O % 10), 45, UInt8.ofNat (48 + E / 10 % 10), UInt8.ofNat (48 + E % 10), 84, UInt8.ofNat (48 + H / 10 % 10), UInt8.ofNat (48 + H % 10), 58, UInt8.ofNat (48 + M / 10 % 10), UInt8.ofNat (48 + M % 10), 58, UInt8.ofNat (48 + S / 10 % 10), UInt8.ofNat (48 + S % 10)] ++ (zoneB g z).data.toList := by
    rw [← ht]
    unfold dayB yearB clockB
    simp only [dapp, twoB_list, twoL, e1, e2, Int.toNat_natCast]
    rfl
  have hz6 : (zoneB g z).size ≤ 6 := by
    unfold zoneB
    split
    · decide
    · split
      · decide
      · split <;> (unfold clockB; simp only [ByteArray.size_append]; exact (show 1 + (2 + (1 + 2)) ≤ 6 by decide))
  have hs : t.size = 19 + (zoneB g z).size := by
    rw [size_of hl, List.length_append]
    rfl
  have g0 : at8 t 0 = ((48 + Y / 100 / 10 % 10 : Nat) : Int) := by rw [at8_of hl 0]; exact congrArg _ (cN _ (by omega))
  have g1 : at8 t 1 = ((48 + Y / 100 % 10 : Nat) : Int) := by rw [at8_of hl 1]; exact congrArg _ (cN _ (by omega))
  have g2 : at8 t 2 = ((48 + Y % 100 / 10 % 10 : Nat) : Int) := by rw [at8_of hl 2]; exact congrArg _ (cN _ (by omega))
  have g3 : at8 t 3 = ((48 + Y % 100 % 10 : Nat) : Int) := by rw [at8_of hl 3]; exact congrArg _ (cN _ (by omega))
  have g4 : at8 t 4 = 45 := at8_of hl 4
  have g5 : at8 t 5 = ((48 + O / 10 % 10 : Nat) : Int) := by rw [at8_of hl 5]; exact congrArg _ (cN _ (by omega))
  have g6 : at8 t 6 = ((48 + O % 10 : Nat) : Int) := by rw [at8_of hl 6]; exact congrArg _ (cN _ (by omega))
  have g7 : at8 t 7 = 45 := at8_of hl 7
  have g8 : at8 t 8 = ((48 + E / 10 % 10 : Nat) : Int) := by rw [at8_of hl 8]; exact congrArg _ (cN _ (by omega))
  have g9 : at8 t 9 = ((48 + E % 10 : Nat) : Int) := by rw [at8_of hl 9]; exact congrArg _ (cN _ (by omega))
  have g10 : at8 t 10 = 84 := at8_of hl 10
  have g11 : at8 t 11 = ((48 + H / 10 % 10 : Nat) : Int) := by rw [at8_of hl 11]; exact congrArg _ (cN _ (by omega))
  have g12 : at8 t 12 = ((48 + H % 10 : Nat) : Int) := by rw [at8_of hl 12]; exact congrArg _ (cN _ (by omega))
  have g13 : at8 t 13 = 58 := at8_of hl 13
  have g14 : at8 t 14 = ((48 + M / 10 % 10 : Nat) : Int) := by rw [at8_of hl 14]; exact congrArg _ (cN _ (by omega))
  have g15 : at8 t 15 = ((48 + M % 10 : Nat) : Int) := by rw [at8_of hl 15]; exact congrArg _ (cN _ (by omega))
  have g16 : at8 t 16 = 58 := at8_of hl 16
  have g17 : at8 t 17 = ((48 + S / 10 % 10 : Nat) : Int) := by rw [at8_of hl 17]; exact congrArg _ (cN _ (by omega))
  have g18 : at8 t 18 = ((48 + S % 10 : Nat) : Int) := by rw [at8_of hl 18]; exact congrArg _ (cN _ (by omega))
  have q0 : f0 t = (Y : Int) := by
    unfold f0
    rw [num4 (by rw [ext_size t 0 4 (by omega)]), ext_at t 0 4 0 (by omega) (by omega), ext_at t 0 4 1 (by omega) (by omega), ext_at t 0 4 2 (by omega) (by omega), ext_at t 0 4 3 (by omega) (by omega)]
    simp only [Nat.zero_add]
    rw [g0, g1, g2, g3]; omega
  have q1 : f1 t = (O : Int) := by unfold f1; rw [show (7 : Nat) = 5 + 2 from rfl, num2_ext 5 (by omega), g5, g6]; omega
  have q2 : f2 t = (E : Int) := by unfold f2; rw [show (10 : Nat) = 8 + 2 from rfl, num2_ext 8 (by omega), g8, g9]; omega
  have q3 : f3 t = (H : Int) := by unfold f3; rw [show (13 : Nat) = 11 + 2 from rfl, num2_ext 11 (by omega), g11, g12]; omega
  have q4 : f4 t = (M : Int) := by unfold f4; rw [show (16 : Nat) = 14 + 2 from rfl, num2_ext 14 (by omega), g14, g15]; omega
  have q5 : f5 t = (S : Int) := by unfold f5; rw [show (19 : Nat) = 17 + 2 from rfl, num2_ext 17 (by omega), g17, g18]; omega
  have qt : tailA t = zoneB g z := by
    apply ByteArray.ext
    apply Array.ext'
    unfold tailA
    rw [Lib.extract_to_end, hl]
    rfl
  have qz : zI (tailA t) = (g, z, true) := by rw [qt]; exact zone_back g z z1 z2 gz
  have hm : min t.size 19 = 19 := by omega
  have hsz : (headA t).size = 19 := by unfold headA; rw [hm, ext_size t 0 19 (by omega)]
  have hat : ∀ j, j < 19 → at8 (headA t) j = at8 t j := fun j hj => by unfold headA; rw [hm, ext_at t 0 19 j (by omega) (by omega), Nat.zero_add]
  have qs : shB (headA t) p19 = true := by
    refine shB_yes hsz (fun k hk => ?_)
    have hk19 : k < 19 := hk
    rw [hat k hk19]
    rcases (show k = 0 ∨ k = 1 ∨ k = 2 ∨ k = 3 ∨ k = 4 ∨ k = 5 ∨ k = 6 ∨ k = 7 ∨ k = 8 ∨ k = 9 ∨ k = 10 ∨ k = 11 ∨ k = 12 ∨ k = 13 ∨ k = 14 ∨ k = 15 ∨ k = 16 ∨ k = 17 ∨ k = 18 by omega) with q | q | q | q | q | q | q | q | q | q | q | q | q | q | q | q | q | q | q
    all_goals subst q
    all_goals first | (rw [if_neg (by decide)]; first | (rw [g4]; rfl) | (rw [g7]; rfl) | (rw [g10]; rfl) | (rw [g13]; rfl) | (rw [g16]; rfl)) | (rw [if_pos (by decide)]; first | rw [g0] | rw [g1] | rw [g2] | rw [g3] | rw [g5] | rw [g6] | rw [g8] | rw [g9] | rw [g11] | rw [g12] | rw [g14] | rw [g15] | rw [g17] | rw [g18]); (simp [digitB]; omega)
  refine ⟨?_, q0, q1, q2, q3, q4, q5, qz, by omega⟩
  unfold rdOk
  rw [qs, qz, q0, q1, q2, q3, q4, q5, hd]
  rfl
theorem none_back {y mo d h mi s : Int} {g : Bool} {z : Int} (hd : dateB y mo d h mi s g z = false) : dtB y mo d h mi s g z = ⟨#[]⟩ := by
  rw [dtB, if_neg (by rw [hd]; decide)]
end Go.Proofs.YtaigicdoepdhnaaDoor
