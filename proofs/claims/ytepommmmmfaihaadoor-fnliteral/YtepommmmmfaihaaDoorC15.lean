/-
  Plain facts on UTF-8: what the decoder answers, by the bytes' ranges; the characters of a text, from the front.
-/
import Derived.Lib.TrimUEq
import Derived.Lib.ValidLaws
import Derived.Lib.DecodeN
import Derived.Lib.MapLaws
namespace Go.Proofs.YtepommmmmfaihaaDoor
open Go.Lib

def rnF (d : Nat × Nat) : Int × Int := if d = (65533, 1) then (0, 0) else ((d.1 : Int), (d.2 : Int))
theorem rnF_bad {d : Nat × Nat} (h : d = (65533, 1)) : rnF d = (0, 0) := by rw [rnF, if_pos h]
theorem rnF_ok {d : Nat × Nat} {x k : Nat} (h : d = (x, k)) (hk : k ≠ 1 ∨ x ≠ 65533) : rnF d = ((x : Int), (k : Int)) := by
  rw [rnF, if_neg (by rw [h]; simp only [Prod.mk.injEq]; omega), h]

variable {n b0 b1 b2 b3 : Nat}
theorem d1 (h : b0 < 128) : decodeN n b0 b1 b2 b3 = (b0, 1) := by unfold decodeN; rw [if_pos h]
theorem dx (h : 128 ≤ b0) (h' : b0 < 192 ∨ 248 ≤ b0) : decodeN n b0 b1 b2 b3 = (65533, 1) := by
  unfold decodeN; rw [if_neg (by omega), if_neg (by omega), if_neg (by omega), if_neg (by omega)]
theorem d2n (h : 192 ≤ b0) (h' : b0 < 224) (hb : n < 2 ∨ b1 < 128 ∨ 192 ≤ b1) (h1 : b1 < 256) : decodeN n b0 b1 b2 b3 = (65533, 1) := by
  unfold decodeN; rw [if_neg (by omega), if_neg (by omega), if_neg (by omega), if_neg (by omega)]
theorem d2l (h : 192 ≤ b0) (h' : b0 < 224) (hn : 2 ≤ n) (hb : 128 ≤ b1) (hb' : b1 < 192) (hl : 64 * (b0 % 32) + b1 % 64 < 128) : decodeN n b0 b1 b2 b3 = (65533, 1) := by
  unfold decodeN; rw [if_neg (by omega), if_pos (by omega), if_neg (by omega)]
theorem d2y (h : 192 ≤ b0) (h' : b0 < 224) (hn : 2 ≤ n) (hb : 128 ≤ b1) (hb' : b1 < 192) (hl : 128 ≤ 64 * (b0 % 32) + b1 % 64) : decodeN n b0 b1 b2 b3 = (64 * (b0 % 32) + b1 % 64, 2) := by
  unfold decodeN; rw [if_neg (by omega), if_pos (by omega), if_pos (by omega)]
  exact Prod.ext (by show _ = _; omega) rfl
theorem d3n (h : 224 ≤ b0) (h' : b0 < 240) (hb : n < 3 ∨ b1 < 128 ∨ 192 ≤ b1 ∨ b2 < 128 ∨ 192 ≤ b2) (h1 : b1 < 256) (h2 : b2 < 256) : decodeN n b0 b1 b2 b3 = (65533, 1) := by
  unfold decodeN; rw [if_neg (by omega), if_neg (by omega), if_neg (by omega), if_neg (by omega)]
theorem d3l (h : 224 ≤ b0) (h' : b0 < 240) (hn : 3 ≤ n) (hb : 128 ≤ b1) (hb' : b1 < 192) (hc : 128 ≤ b2) (hc' : b2 < 192)
    (hl : 64 * (64 * (b0 % 16) + b1 % 64) + b2 % 64 < 2048 ∨ (55296 ≤ 64 * (64 * (b0 % 16) + b1 % 64) + b2 % 64 ∧ 64 * (64 * (b0 % 16) + b1 % 64) + b2 % 64 < 57344)) : decodeN n b0 b1 b2 b3 = (65533, 1) := by
  unfold decodeN; rw [if_neg (by omega), if_neg (by omega), if_pos (by omega), if_neg (by omega)]
theorem d3y (h : 224 ≤ b0) (h' : b0 < 240) (hn : 3 ≤ n) (hb : 128 ≤ b1) (hb' : b1 < 192) (hc : 128 ≤ b2) (hc' : b2 < 192)
    (hl : 2048 ≤ 64 * (64 * (b0 % 16) + b1 % 64) + b2 % 64) (hl' : 64 * (64 * (b0 % 16) + b1 % 64) + b2 % 64 < 55296 ∨ 57344 ≤ 64 * (64 * (b0 % 16) + b1 % 64) + b2 % 64) :
    decodeN n b0 b1 b2 b3 = (64 * (64 * (b0 % 16) + b1 % 64) + b2 % 64, 3) := by
  unfold decodeN; rw [if_neg (by omega), if_neg (by omega), if_pos (by omega), if_pos (by omega)]
  exact Prod.ext (by show _ = _; omega) rfl
theorem d4n (h : 240 ≤ b0) (h' : b0 < 248) (hb : n < 4 ∨ b1 < 128 ∨ 192 ≤ b1 ∨ b2 < 128 ∨ 192 ≤ b2 ∨ b3 < 128 ∨ 192 ≤ b3) (h1 : b1 < 256) (h2 : b2 < 256) (h3 : b3 < 256) : decodeN n b0 b1 b2 b3 = (65533, 1) := by
  unfold decodeN; rw [if_neg (by omega), if_neg (by omega), if_neg (by omega), if_neg (by omega)]
theorem d4l (h : 240 ≤ b0) (h' : b0 < 248) (hn : 4 ≤ n) (hb : 128 ≤ b1) (hb' : b1 < 192) (hc : 128 ≤ b2) (hc' : b2 < 192) (hd : 128 ≤ b3) (hd' : b3 < 192)
    (hl : 64 * (64 * (64 * (b0 % 8) + b1 % 64) + b2 % 64) + b3 % 64 < 65536 ∨ 1114111 < 64 * (64 * (64 * (b0 % 8) + b1 % 64) + b2 % 64) + b3 % 64) : decodeN n b0 b1 b2 b3 = (65533, 1) := by
  unfold decodeN; rw [if_neg (by omega), if_neg (by omega), if_neg (by omega), if_pos (by omega), if_neg (by omega)]
theorem d4y (h : 240 ≤ b0) (h' : b0 < 248) (hn : 4 ≤ n) (hb : 128 ≤ b1) (hb' : b1 < 192) (hc : 128 ≤ b2) (hc' : b2 < 192) (hd : 128 ≤ b3) (hd' : b3 < 192)
    (hl : 65536 ≤ 64 * (64 * (64 * (b0 % 8) + b1 % 64) + b2 % 64) + b3 % 64) (hl' : 64 * (64 * (64 * (b0 % 8) + b1 % 64) + b2 % 64) + b3 % 64 ≤ 1114111) :
    decodeN n b0 b1 b2 b3 = (64 * (64 * (64 * (b0 % 8) + b1 % 64) + b2 % 64) + b3 % 64, 4) := by
  unfold decodeN; rw [if_neg (by omega), if_neg (by omega), if_neg (by omega), if_pos (by omega), if_pos (by omega)]
  exact Prod.ext (by show _ = _; omega) rfl

/-- The bytes of a text, as numbers. -/
def byN (s : ByteArray) (k : Nat) : Nat := (s.data.toList.getD k 0).toNat
theorem byN_eq (s : ByteArray) (k : Nat) (h : k < s.size) : s[k].toNat = byN s k := by
  have h' : k < s.data.toList.length := by simpa using h
  unfold byN; rw [List.getD, List.getElem?_eq_getElem h']; rfl
theorem byN_lt (s : ByteArray) (k : Nat) : byN s k < 256 := UInt8.toNat_lt _
theorem dec_byN (s : ByteArray) : decodeL s.data.toList = decodeN s.size (byN s 0) (byN s 1) (byN s 2) (byN s 3) := by
  rw [decodeL_N, Array.length_toList]; rfl

/-- The characters that a text is in UTF-8, if it is. -/
def runesN : Nat → List UInt8 → Option (List Int)
  | 0, _ => some []
  | f + 1, l => if l = [] then some [] else if (decodeL l).1 = 65533 ∧ (decodeL l).2 = 1 then none else (runesN f (l.drop (decodeL l).2)).map (((decodeL l).1 : Int) :: ·)
def runesL (l : List UInt8) : Option (List Int) := runesN l.length l
theorem runesN_more : ∀ (f g : Nat) (l : List UInt8), l.length ≤ f → l.length ≤ g → runesN f l = runesN g l
  | 0, 0, _, _, _ => rfl
  | 0, g + 1, l, hf, _ => by have : l = [] := List.length_eq_zero_iff.1 (by omega); subst this; simp [runesN]
  | f + 1, 0, l, _, hg => by have : l = [] := List.length_eq_zero_iff.1 (by omega); subst this; simp [runesN]
  | f + 1, g + 1, l, hf, hg => by
    unfold runesN
    by_cases h : l = []
    · rw [if_pos h, if_pos h]
    · rw [if_neg h, if_neg h]
      have hw := decodeL_width l
      have hl : 0 < l.length := List.length_pos_iff.2 h
      rw [runesN_more f g (l.drop (decodeL l).2) (by rw [List.length_drop]; omega) (by rw [List.length_drop]; omega)]
theorem runesL_nil : runesL [] = some [] := rfl
theorem runesL_bad {l : List UInt8} (h : l ≠ []) (hb : decodeL l = (65533, 1)) : runesL l = none := by
  have hl : 0 < l.length := List.length_pos_iff.2 h
  unfold runesL
  obtain ⟨k, hk⟩ : ∃ k, l.length = k + 1 := ⟨l.length - 1, by omega⟩
  rw [hk, runesN, if_neg h, if_pos (by rw [hb]; exact ⟨rfl, rfl⟩)]
theorem runesL_step {l : List UInt8} (h : l ≠ []) (hb : decodeL l ≠ (65533, 1)) : runesL l = (runesL (l.drop (decodeL l).2)).map (((decodeL l).1 : Int) :: ·) := by
  have hl : 0 < l.length := List.length_pos_iff.2 h
  have hw := decodeL_width l
  conv => lhs; unfold runesL
  obtain ⟨k, hk⟩ : ∃ k, l.length = k + 1 := ⟨l.length - 1, by omega⟩
  rw [hk, runesN, if_neg h, if_neg (fun e => hb (Prod.ext e.1 e.2)), runesL, runesN_more k (l.drop (decodeL l).2).length _ (by rw [List.length_drop]; omega) (Nat.le_refl _)]
theorem runesL_valid : ∀ (f : Nat) (l : List UInt8), l.length ≤ f → validD l = (runesL l).isSome
  | 0, l, hf => by have : l = [] := List.length_eq_zero_iff.1 (by omega); subst this; rfl
  | f + 1, l, hf => by
    by_cases h : l = []
    · subst h; rfl
    · have hl : 0 < l.length := List.length_pos_iff.2 h
      have hw := decodeL_width l
      rw [validD_step l h]
      by_cases hb : decodeL l = (65533, 1)
      · rw [if_pos (by rw [hb]; exact ⟨rfl, rfl⟩), runesL_bad h hb]; rfl
      · rw [if_neg (fun e => hb (Prod.ext e.1 e.2)), runesL_step h hb, runesL_valid f _ (by rw [List.length_drop]; omega)]
        cases runesL (l.drop (decodeL l).2) <;> rfl
end Go.Proofs.YtepommmmmfaihaaDoor
