/-
  Texts put together: RuneMath, Base, AtRow, ItRow.
-/
import Derived.Lib.TrimUEq
import Derived.Lib.ValidLaws
import Derived.Lib.DecodeN
import Derived.Lib.MapLaws
import Derived.WalkKit
import Derived.Below
import Derived.Test.YthcggdjkfebemaaGreatDoorChecked
import Derived.OwnWalk
import Derived.Laws.OwnMore
import Derived.RegionTactic
import Derived.Deep.QuietTactic
import Derived.Deep.RegionWith
import Derived.BigQuiet
import Derived.Deep.Draws
import Derived.Deep.RegionHeld3
import Derived.Lib.SmallJoins
import Derived.KernelRfl
/-
  Plain facts on UTF-8: what the decoder answers, by the bytes' ranges; the characters of a text, from the front.
-/
namespace Go.Proofs.YthcggdjkfebemaaGreatDoor
open Go.Lib

def rnF (d : Nat × Nat) : Int × Int := if d = (65533, 1) then (0, 0) else ((d.1 : Int), (d.2 : Int))
theorem rnF_bad {d : Nat × Nat} (h : d = (65533, 1)) : rnF d = (0, 0) := by rw [rnF, if_pos h]
theorem rnF_ok {d : Nat × Nat} {x k : Nat} (h : d = (x, k)) (hk : k ≠ 1 ∨ x ≠ 65533) : rnF d = ((x : Int), (k : Int)) := by
  rw [rnF, if_neg (by rw [h]; simp only [Prod.mk.injEq]; omega), h]

variable {n b0 b1 b2 b3 : Nat}
theorem d1 (h : b0 < 128) : decodeN n b0 b1 b2 b3 = (b0, 1) := by unfold decodeN; rw [if_pos h]
theorem dx (h : 128 ≤ b0) (h' : b0 < 192 ∨ 248 ≤ b0) : decodeN n b0 b1 b2 b3 = (65533, 1) := by
  unfold decodeN; rw [if_neg (by omega), if_neg (by omega), if_neg (by omega), if_neg (by omega)]
theorem d2n (h : 192 ≤ b0) (h' : b0 < 224) (hb : n < 2 ∨ b1 < 128 ∨ 192 ≤ b1) (h1 : b1 < 256) : decodeN n b0 b1 b2 b3 = (65533, 1) := by
  unfold decodeN; rw [if_neg (by omega), if_neg (by omega), if_neg (by omega), if_neg (by omega)]
theorem d2l (h : 192 ≤ b0) (h' : b0 < 224) (hn : 2 ≤ n) (hb : 128 ≤ b1) (hb' : b1 < 192) (hl : 64 * (b0 % 32) + b1 % 64 < 128) : decodeN n b0 b1 b2 b3 = (65533, 1) := by
  unfold decodeN; rw [if_neg (by omega), if_pos (by omega), if_neg (by omega)]
theorem d2y (h : 192 ≤ b0) (h' : b0 < 224) (hn : 2 ≤ n) (hb : 128 ≤ b1) (hb' : b1 < 192) (hl : 128 ≤ 64 * (b0 % 32) + b1 % 64) : decodeN n b0 b1 b2 b3 = (64 * (b0 % 32) + b1 % 64, 2) := by
  unfold decodeN; rw [if_neg (by omega), if_pos (by omega), if_pos (by omega)]
  exact Prod.ext (by show _ = _; omega) rfl
theorem d3n (h : 224 ≤ b0) (h' : b0 < 240) (hb : n < 3 ∨ b1 < 128 ∨ 192 ≤ b1 ∨ b2 < 128 ∨ 192 ≤ b2) (h1 : b1 < 256) (h2 : b2 < 256) : decodeN n b0 b1 b2 b3 = (65533, 1) := by
  unfold decodeN; rw [if_neg (by omega), if_neg (by omega), if_neg (by omega), if_neg (by omega)]
theorem d3l (h : 224 ≤ b0) (h' : b0 < 240) (hn : 3 ≤ n) (hb : 128 ≤ b1) (hb' : b1 < 192) (hc : 128 ≤ b2) (hc' : b2 < 192)
    (hl : 64 * (64 * (b0 % 16) + b1 % 64) + b2 % 64 < 2048 ∨ (55296 ≤ 64 * (64 * (b0 % 16) + b1 % 64) + b2 % 64 ∧ 64 * (64 * (b0 % 16) + b1 % 64) + b2 % 64 < 57344)) : decodeN n b0 b1 b2 b3 = (65533, 1) := by
  unfold decodeN; rw [if_neg (by omega), if_neg (by omega), if_pos (by omega), if_neg (by omega)]
theorem d3y (h : 224 ≤ b0) (h' : b0 < 240) (hn : 3 ≤ n) (hb : 128 ≤ b1) (hb' : b1 < 192) (hc : 128 ≤ b2) (hc' : b2 < 192)
    (hl : 2048 ≤ 64 * (64 * (b0 % 16) + b1 % 64) + b2 % 64) (hl' : 64 * (64 * (b0 % 16) + b1 % 64) + b2 % 64 < 55296 ∨ 57344 ≤ 64 * (64 * (b0 % 16) + b1 % 64) + b2 % 64) :
    decodeN n b0 b1 b2 b3 = (64 * (64 * (b0 % 16) + b1 % 64) + b2 % 64, 3) := by
  unfold decodeN; rw [if_neg (by omega), if_neg (by omega), if_pos (by omega), if_pos (by omega)]
  exact Prod.ext (by show _ = _; omega) rfl
theorem d4n (h : 240 ≤ b0) (h' : b0 < 248) (hb : n < 4 ∨ b1 < 128 ∨ 192 ≤ b1 ∨ b2 < 128 ∨ 192 ≤ b2 ∨ b3 < 128 ∨ 192 ≤ b3) (h1 : b1 < 256) (h2 : b2 < 256) (h3 : b3 < 256) : decodeN n b0 b1 b2 b3 = (65533, 1) := by
  unfold decodeN; rw [if_neg (by omega), if_neg (by omega), if_neg (by omega), if_neg (by omega)]
theorem d4l (h : 240 ≤ b0) (h' : b0 < 248) (hn : 4 ≤ n) (hb : 128 ≤ b1) (hb' : b1 < 192) (hc : 128 ≤ b2) (hc' : b2 < 192) (hd : 128 ≤ b3) (hd' : b3 < 192)
    (hl : 64 * (64 * (64 * (b0 % 8) + b1 % 64) + b2 % 64) + b3 % 64 < 65536 ∨ 1114111 < 64 * (64 * (64 * (b0 % 8) + b1 % 64) + b2 % 64) + b3 % 64) : decodeN n b0 b1 b2 b3 = (65533, 1) := by
  unfold decodeN; rw [if_neg (by omega), if_neg (by omega), if_neg (by omega), if_pos (by omega), if_neg (by omega)]
theorem d4y (h : 240 ≤ b0) (h' : b0 < 248) (hn : 4 ≤ n) (hb : 128 ≤ b1) (hb' : b1 < 192) (hc : 128 ≤ b2) (hc' : b2 < 192) (hd : 128 ≤ b3) (hd' : b3 < 192)
    (hl : 65536 ≤ 64 * (64 * (64 * (b0 % 8) + b1 % 64) + b2 % 64) + b3 % 64) (hl' : 64 * (64 * (64 * (b0 % 8) + b1 % 64) + b2 % 64) + b3 % 64 ≤ 1114111) :
    decodeN n b0 b1 b2 b3 = (64 * (64 * (64 * (b0 % 8) + b1 % 64) + b2 % 64) + b3 % 64, 4) := by
  unfold decodeN; rw [if_neg (by omega), if_neg (by omega), if_neg (by omega), if_pos (by omega), if_pos (by omega)]
  exact Prod.ext (by show _ = _; omega) rfl

/-- The bytes of a text, as numbers. -/
def byN (s : ByteArray) (k : Nat) : Nat := (s.data.toList.getD k 0).toNat
theorem byN_eq (s : ByteArray) (k : Nat) (h : k < s.size) : s[k].toNat = byN s k := by
  have h' : k < s.data.toList.length := by simpa using h
  unfold byN; rw [List.getD, List.getElem?_eq_getElem h']; rfl
theorem byN_lt (s : ByteArray) (k : Nat) : byN s k < 256 := UInt8.toNat_lt _
theorem dec_byN (s : ByteArray) : decodeL s.data.toList = decodeN s.size (byN s 0) (byN s 1) (byN s 2) (byN s 3) := by
  rw [decodeL_N, Array.length_toList]; rfl

/-- The characters that a text is in UTF-8, if it is. -/
def runesN : Nat → List UInt8 → Option (List Int)
  | 0, _ => some []
  | f + 1, l => if l = [] then some [] else if (decodeL l).1 = 65533 ∧ (decodeL l).2 = 1 then none else (runesN f (l.drop (decodeL l).2)).map (((decodeL l).1 : Int) :: ·)
def runesL (l : List UInt8) : Option (List Int) := runesN l.length l
theorem runesN_more : ∀ (f g : Nat) (l : List UInt8), l.length ≤ f → l.length ≤ g → runesN f l = runesN g l
  | 0, 0, _, _, _ => rfl
  | 0, g + 1, l, hf, _ => by have : l = [] := List.length_eq_zero_iff.1 (by omega); subst this; simp [runesN]
  | f + 1, 0, l, _, hg => by have : l = [] := List.length_eq_zero_iff.1 (by omega); subst this; simp [runesN]
  | f + 1, g + 1, l, hf, hg => by
    unfold runesN
    by_cases h : l = []
    · rw [if_pos h, if_pos h]
    · rw [if_neg h, if_neg h]
      have hw := decodeL_width l
      have hl : 0 < l.length := List.length_pos_iff.2 h
      rw [runesN_more f g (l.drop (decodeL l).2) (by rw [List.length_drop]; omega) (by rw [List.length_drop]; omega)]
theorem runesL_nil : runesL [] = some [] := rfl
theorem runesL_bad {l : List UInt8} (h : l ≠ []) (hb : decodeL l = (65533, 1)) : runesL l = none := by
  have hl : 0 < l.length := List.length_pos_iff.2 h
  unfold runesL
  obtain ⟨k, hk⟩ : ∃ k, l.length = k + 1 := ⟨l.length - 1, by omega⟩
  rw [hk, runesN, if_neg h, if_pos (by rw [hb]; exact ⟨rfl, rfl⟩)]
theorem runesL_step {l : List UInt8} (h : l ≠ []) (hb : decodeL l ≠ (65533, 1)) : runesL l = (runesL (l.drop (decodeL l).2)).map (((decodeL l).1 : Int) :: ·) := by
  have hl : 0 < l.length := List.length_pos_iff.2 h
  have hw := decodeL_width l
  conv => lhs; unfold runesL
  obtain ⟨k, hk⟩ : ∃ k, l.length = k + 1 := ⟨l.length - 1, by omega⟩
  rw [hk, runesN, if_neg h, if_neg (fun e => hb (Prod.ext e.1 e.2)), runesL, runesN_more k (l.drop (decodeL l).2).length _ (by rw [List.length_drop]; omega) (Nat.le_refl _)]
theorem runesL_valid : ∀ (f : Nat) (l : List UInt8), l.length ≤ f → validD l = (runesL l).isSome
  | 0, l, hf => by have : l = [] := List.length_eq_zero_iff.1 (by omega); subst this; rfl
  | f + 1, l, hf => by
    by_cases h : l = []
    · subst h; rfl
    · have hl : 0 < l.length := List.length_pos_iff.2 h
      have hw := decodeL_width l
      rw [validD_step l h]
      by_cases hb : decodeL l = (65533, 1)
      · rw [if_pos (by rw [hb]; exact ⟨rfl, rfl⟩), runesL_bad h hb]; rfl
      · rw [if_neg (fun e => hb (Prod.ext e.1 e.2)), runesL_step h hb, runesL_valid f _ (by rw [List.length_drop]; omega)]
        cases runesL (l.drop (decodeL l).2) <;> rfl
end Go.Proofs.YthcggdjkfebemaaGreatDoor

/-
  Plain facts on bytes and names, of no program: what a name is, byte by byte.
-/
namespace Go.Proofs.YthcggdjkfebemaaGreatDoor
def firstB (c : Int) : Bool := decide ((97 ≤ c ∧ c ≤ 122) ∨ (65 ≤ c ∧ c ≤ 90) ∨ c = 95)
def digitB (c : Int) : Bool := decide (48 ≤ c ∧ c ≤ 57)
def moreB (c : Int) : Bool := decide ((97 ≤ c ∧ c ≤ 122) ∨ (65 ≤ c ∧ c ≤ 90) ∨ c = 95 ∨ (48 ≤ c ∧ c ≤ 57) ∨ c = 46 ∨ c = 45)
def at8 (s : ByteArray) (k : Nat) : Int := ((s.data.toList[k]?).getD 0).toNat
theorem at8_eq (s : ByteArray) (k : Nat) (h : k < s.size) : at8 s k = (s[k].toNat : Int) := by
  have h' : k < s.data.toList.length := by simpa using h
  unfold at8; rw [List.getElem?_eq_getElem h']; rfl
def nameB (s : ByteArray) : Bool := decide (1 ≤ s.size) && (decide (s.size ≤ 40) && (firstB (at8 s 0) && (List.range s.size).all fun j => j == 0 || moreB (at8 s j)))
theorem nameB_none (s : ByteArray) (h : s.size = 0) : nameB s = false := by simp [nameB, h]
theorem nameB_long (s : ByteArray) (h : 40 < s.size) : nameB s = false := by
  have : decide (s.size ≤ 40) = false := by simp; omega
  simp [nameB, this]
theorem nameB_first (s : ByteArray) (h0 : 0 < s.size) (h : firstB (s[0].toNat : Int) = false) : nameB s = false := by
  rw [← at8_eq s 0 h0] at h
  simp [nameB, h]
theorem nameB_more (s : ByteArray) (k : Nat) (h1 : 1 ≤ k) (hk : k < s.size) (h : moreB (s[k].toNat : Int) = false) : nameB s = false := by
  rw [← at8_eq s k hk] at h
  have : ((List.range s.size).all fun j => j == 0 || moreB (at8 s j)) = false := by
    rw [List.all_eq_false]
    refine ⟨k, by simpa using hk, ?_⟩
    have : (k == 0) = false := by simp; omega
    simp [this, h]
  simp [nameB, this]
theorem nameB_yes (s : ByteArray) (h0 : 0 < s.size) (h40 : s.size ≤ 40) (hf : firstB (s[0].toNat : Int) = true) (hm : ∀ j (h : j < s.size), 1 ≤ j → moreB (s[j].toNat : Int) = true) : nameB s = true := by
  rw [← at8_eq s 0 h0] at hf
  have : ((List.range s.size).all fun j => j == 0 || moreB (at8 s j)) = true := by
    rw [List.all_eq_true]
    intro j hj
    have hj' : j < s.size := by simpa using hj
    by_cases e : j = 0
    · simp [e]
    · have := hm j hj' (by omega)
      rw [← at8_eq s j hj'] at this
      simp [this]
  have h1 : decide (1 ≤ s.size) = true := by simp; omega
  have h2 : decide (s.size ≤ 40) = true := by simp; omega
  simp [nameB, this, h1, h2, hf]
theorem first_t {c : Int} (h : (97 ≤ c ∧ c ≤ 122) ∨ (65 ≤ c ∧ c ≤ 90) ∨ c = 95) : true = firstB c := (decide_eq_true h).symm
theorem first_f {c : Int} (h : ¬ ((97 ≤ c ∧ c ≤ 122) ∨ (65 ≤ c ∧ c ≤ 90) ∨ c = 95)) : false = firstB c := (decide_eq_false h).symm
theorem digit_t {c : Int} (h : 48 ≤ c ∧ c ≤ 57) : true = digitB c := (decide_eq_true h).symm
theorem digit_f {c : Int} (h : ¬ (48 ≤ c ∧ c ≤ 57)) : false = digitB c := (decide_eq_false h).symm
theorem more_t {c : Int} (h : (97 ≤ c ∧ c ≤ 122) ∨ (65 ≤ c ∧ c ≤ 90) ∨ c = 95 ∨ (48 ≤ c ∧ c ≤ 57) ∨ c = 46 ∨ c = 45) : true = moreB c := (decide_eq_true h).symm
theorem more_f {c : Int} (h : ¬ ((97 ≤ c ∧ c ≤ 122) ∨ (65 ≤ c ∧ c ≤ 90) ∨ c = 95 ∨ (48 ≤ c ∧ c ≤ 57) ∨ c = 46 ∨ c = 45)) : false = moreB c := (decide_eq_false h).symm
theorem hide {p : Prop} (h : p) : Go.RowKit.Hid p := h
def intOf : Value → Int | .int _ q => q | _ => 0
theorem ret_bool {a b : Bool} (h : a = b) : Ending.returned (.bool a) = .returned (.bool b) := by rw [h]
end Go.Proofs.YthcggdjkfebemaaGreatDoor

/-
  Contracts of the laws' helpers on rows of attributes: how much they hold, a copy in new memory, and that two rows that are alike are told so.
-/
namespace Go.Proofs.YthcggdjkfebemaaGreatDoor
open Go.RowKit Go.Joins
set_option linter.unusedVariables false
set_option linter.unusedSimpArgs false
theorem ret_iI {a b : Int} (h : a = b) : Ending.returned (.int .i64 a) = .returned (.int .i64 b) := by rw [h]
def sumN (f : Nat → Nat) : Nat → Nat
  | 0 => 0
  | k + 1 => sumN f k + f k
theorem sumN_le (f : Nat → Nat) {a b : Nat} (h : a ≤ b) : sumN f a ≤ sumN f b := by
  induction b with
  | zero => have : a = 0 := by omega
            subst this; exact Nat.le_refl _
  | succ b ih =>
    by_cases e : a = b + 1
    · subst e; exact Nat.le_refl _
    · have := ih (by omega)
      show sumN f a ≤ sumN f b + f b
      omega
theorem sumN_at (f : Nat → Nat) {a b : Nat} (h : a < b) : sumN f a + f a ≤ sumN f b := sumN_le f (a := a + 1) h
/-- What is left of 'left' when 'x' is taken away; -1: not so much was there. -/
def dn (left : Int) (x : Nat) : Int := if (x : Int) ≤ left then left - x else -1
theorem dn_yes {left : Int} {x : Nat} (h : (x : Int) ≤ left) : dn left x = left - x := by unfold dn; rw [if_pos h]
theorem dn_no {left : Int} {x : Nat} (h : ¬ (x : Int) ≤ left) : dn left x = -1 := by unfold dn; rw [if_neg h]
/-- What is laid of a row of attributes: its first 'n' pairs of cells hold the texts N and V, in a block below 'B'. -/
def AtAt (w : World) (a : Option Addr) (n : Nat) (N V : Nat → ByteArray) (B : Nat) : Prop :=
  0 < n → ∃ b off, a = some ⟨b, off, none⟩ ∧ b < B ∧ ∀ j, j < n → w.cell? ⟨b, off + j * 2, none⟩ = some (.string (N j)) ∧ w.cell? ⟨b, off + j * 2 + 1, none⟩ = some (.string (V j))
theorem atAt_go {w w' : World} {a : Option Addr} {n : Nat} {N V : Nat → ByteArray} {B : Nat} (h : AtAt w a n N V B) (k : Below B w w') : AtAt w' a n N V B := fun h0 => by
  obtain ⟨b, off, e, hb, hc⟩ := h h0
  exact ⟨b, off, e, hb, fun j hj => ⟨(k.cell (p := ⟨b, off + j * 2, none⟩) hb).trans (hc j hj).1, (k.cell (p := ⟨b, off + j * 2 + 1, none⟩) hb).trans (hc j hj).2⟩⟩
theorem atAt_up {w : World} {a : Option Addr} {n : Nat} {N V : Nat → ByteArray} {B B' : Nat} (h : AtAt w a n N V B) (k : B ≤ B') : AtAt w a n N V B' := fun h0 => by
  obtain ⟨b, off, e, hb, hc⟩ := h h0
  exact ⟨b, off, e, Nat.lt_of_lt_of_le hb k, hc⟩
theorem heap_setCell_size (w : World) (p : Addr) (v : Value) : (w.setCell p v).heap.size = w.heap.size := by simp [World.setCell]
theorem heap_setCell_far (w : World) (p : Addr) (v : Value) (G : Nat) (h : p.block ≠ G) : (w.setCell p v).heap[G]? = w.heap[G]? := by
  simp [World.setCell, Array.getElem?_modify, h]
theorem atAt_set {w : World} {g n : Nat} {N V : Nat → ByteArray} {B : Nat} (h : AtAt w (some ⟨g, 0, none⟩) n N V B) (p : Addr) (v : Value) (hne : p.block ≠ g) : AtAt (w.setCell p v) (some ⟨g, 0, none⟩) n N V B := fun h0 => by
  obtain ⟨b, off, e, hb, hc⟩ := h h0
  simp only [Option.some.injEq, Addr.mk.injEq] at e
  obtain ⟨rfl, rfl, -⟩ := e
  refine ⟨g, 0, rfl, hb, fun j hj => ⟨?_, ?_⟩⟩
  · rw [World.cell?_setCell_far _ _ _ _ hne]; exact (hc j hj).1
  · rw [World.cell?_setCell_far _ _ _ _ hne]; exact (hc j hj).2
theorem own_after {w w' : World} {B e size n : Nat} {v : Value} {xs : List Value} (h : w.ownsRow B e size v n xs) (hb : Below w.heap.size w w') : w'.ownsRow B e size v n xs := by
  obtain ⟨hl, h⟩ := h
  refine ⟨hl, ?_⟩
  rcases h with h | ⟨g, cap, cur, hv, hg, hh, h1, h2, h3, h4⟩
  · exact .inl h
  · have hlt : g < w.heap.size := (Array.getElem?_eq_some_iff.1 hh).1
    exact .inr ⟨g, cap, cur, hv, hg, (hb.block g hlt).trans hh, h1, h2, h3, h4⟩
theorem own_someN {w : World} {B g n t size : Nat} {xs : List Value} (h : w.ownsRow B t size (.slice (some ⟨g, 0, none⟩) n n) n xs) (j : Nat) (hj : j < n * size) : ∃ v, w.cell? ⟨g, j, none⟩ = some v := by
  rw [h.cellAt j hj]
  exact ⟨_, List.getElem?_eq_getElem (by rw [h.1]; exact hj)⟩
/-- Of a row of cells the first k pairs are the texts N and V. -/
def PairsS (xs : List Value) (k : Nat) (N V : Nat → ByteArray) : Prop := ∀ j, j < k → xs[j * 2]? = some (.string (N j)) ∧ xs[j * 2 + 1]? = some (.string (V j))
theorem pairsS_step {xs : List Value} {k n : Nat} {N V : Nat → ByteArray} (h : PairsS xs k N V) (hk : k < n) (hl : xs.length = n * 2) :
    PairsS ((xs.set (k * 2) (.string (N k))).set (k * 2 + 1) (.string (V k))) (k + 1) N V := by
  intro j hj
  simp only [List.getElem?_set, List.length_set]
  by_cases e : j = k
  · subst e
    refine ⟨?_, ?_⟩
    · rw [if_neg (by omega), if_pos rfl, if_pos (by omega)]
    · rw [if_pos rfl, if_pos (by omega)]
  · have hj' := h j (by omega)
    refine ⟨?_, ?_⟩
    · rw [if_neg (by omega), if_neg (by omega)]; exact hj'.1
    · rw [if_neg (by omega), if_neg (by omega)]; exact hj'.2
theorem own_at {w : World} {B g n t : Nat} {xs : List Value} {N V : Nat → ByteArray} (h : w.ownsRow B t 2 (.slice (some ⟨g, 0, none⟩) n n) n xs) (hp : PairsS xs n N V) : AtAt w (some ⟨g, 0, none⟩) n N V w.heap.size := fun h0 => by
  have hg : g < w.heap.size := (h.lt g rfl).2
  refine ⟨g, 0, rfl, hg, fun j hj => ?_⟩
  refine ⟨?_, ?_⟩
  · rw [Nat.zero_add, h.cellAt (j * 2) (by omega)]; exact (hp j hj).1
  · rw [Nat.zero_add, h.cellAt (j * 2 + 1) (by omega)]; exact (hp j hj).2
def atSz (N V : Nat → ByteArray) (j : Nat) : Nat := (N j).size + (V j).size
def atTot (n : Nat) (N V : Nat → ByteArray) : Nat := n + sumN (atSz N V) n
end Go.Proofs.YthcggdjkfebemaaGreatDoor

/-
  Contracts of the laws' helpers on rows of items: how much they hold, a copy in new memory.
-/
namespace Go.Proofs.YthcggdjkfebemaaGreatDoor
open Go.RowKit Go.Joins
set_option linter.unusedVariables false
set_option linter.unusedSimpArgs false
/-- A row of items. -/
structure Dc where
  n : Nat
  U : Nat → Int
  NM : Nat → ByteArray
  TX : Nat → ByteArray
  AC : Nat → Nat
  AN : Nat → Nat → ByteArray
  AV : Nat → Nat → ByteArray
def DcCells (w : World) (b o : Nat) (D : Dc) (j : Nat) (ad : Option Addr) (cp : Nat) : Prop := w.cell? ⟨b, o, none⟩ = some (.int .i64 (D.U j)) ∧ w.cell? ⟨b, o + 1, none⟩ = some (.string (D.NM j)) ∧ w.cell? ⟨b, o + 2, none⟩ = some (.string (D.TX j)) ∧ w.cell? ⟨b, o + 3, none⟩ = some (.slice ad (D.AC j) cp)
def DcRow (w : World) (b off : Nat) (D : Dc) (B : Nat) : Prop := ∀ j, j < D.n → ∃ ad cp, DcCells w b (off + j * 4) D j ad cp ∧ AtAt w ad (D.AC j) (D.AN j) (D.AV j) B ∧ D.AC j ≤ cp
def DcAt (w : World) (a : Option Addr) (D : Dc) (B : Nat) : Prop := 0 < D.n → ∃ b off, a = some ⟨b, off, none⟩ ∧ b < B ∧ DcRow w b off D B
theorem dcCells_go {w w' : World} {b o : Nat} {D : Dc} {j : Nat} {ad : Option Addr} {cp B : Nat} (h : DcCells w b o D j ad cp) (hb : b < B) (k : Below B w w') : DcCells w' b o D j ad cp := by
  obtain ⟨h0, h1, h2, h3⟩ := h
  exact ⟨(k.cell (p := ⟨b, o, none⟩) hb).trans h0, (k.cell (p := ⟨b, o + 1, none⟩) hb).trans h1, (k.cell (p := ⟨b, o + 2, none⟩) hb).trans h2, (k.cell (p := ⟨b, o + 3, none⟩) hb).trans h3⟩
theorem dcRow_go {w w' : World} {b off : Nat} {D : Dc} {B : Nat} (h : DcRow w b off D B) (hb : b < B) (k : Below B w w') : DcRow w' b off D B := fun j hj => by
  obtain ⟨ad, cp, hc, hr, hl⟩ := h j hj
  exact ⟨ad, cp, dcCells_go hc hb k, atAt_go hr k, hl⟩
theorem dcRow_up {w : World} {b off : Nat} {D : Dc} {B B' : Nat} (h : DcRow w b off D B) (k : B ≤ B') : DcRow w b off D B' := fun j hj => by
  obtain ⟨ad, cp, hc, hr, hl⟩ := h j hj
  exact ⟨ad, cp, hc, atAt_up hr k, hl⟩
theorem dcAt_go {w w' : World} {a : Option Addr} {D : Dc} {B : Nat} (h : DcAt w a D B) (k : Below B w w') : DcAt w' a D B := fun h0 => by
  obtain ⟨b, off, e, hb, hr⟩ := h h0
  exact ⟨b, off, e, hb, dcRow_go hr hb k⟩
theorem dcAt_up {w : World} {a : Option Addr} {D : Dc} {B B' : Nat} (h : DcAt w a D B) (k : B ≤ B') : DcAt w a D B' := fun h0 => by
  obtain ⟨b, off, e, hb, hr⟩ := h h0
  exact ⟨b, off, e, Nat.lt_of_lt_of_le hb k, dcRow_up hr k⟩
/-- The sizes that a row in memory can have. -/
def DcSz (D : Dc) : Prop := D.n ≤ maxLen ∧ ∀ j, j < D.n → (D.NM j).size ≤ maxLen ∧ (D.TX j).size ≤ maxLen ∧ D.AC j ≤ maxLen ∧ ∀ k, k < D.AC j → (D.AN j k).size ≤ maxLen ∧ (D.AV j k).size ≤ maxLen
def itSz (D : Dc) (j : Nat) : Nat := (D.NM j).size + (D.TX j).size + atTot (D.AC j) (D.AN j) (D.AV j)
def dcTot (D : Dc) : Nat := D.n + sumN (itSz D) D.n
theorem box_belowI {w w1 : World} {c : Array Value} {t : TypeId} (h : Below (w.alloc (.cells c t)).heap.size (w.alloc (.cells c t)) w1) : Below w.heap.size w w1 :=
  ((Below.refl w.heap.size w).alloc (Nat.le_refl _) _).trans (h.mono (by simp))
/-- An item lies in block G. -/
def ItAt (w : World) (G : Nat) (up : Int) (nm tx : ByteArray) (a : Option Addr) (n c : Nat) : Prop :=
  ∃ T, w.heap[G]? = some (.cells #[.int .i64 up, .string nm, .string tx, .slice a n c] T (0, 0))
section
variable {w w1 : World} {G : Nat} {up : Int} {nm tx : ByteArray} {a : Option Addr} {n c : Nat}
theorem itAt_lt (h : ItAt w G up nm tx a n c) : G < w.heap.size := by
  obtain ⟨T, h⟩ := h
  exact (Array.getElem?_eq_some_iff.1 h).1
theorem itAt_go (h : ItAt w G up nm tx a n c) (k : Below w.heap.size w w1) : ItAt w1 G up nm tx a n c := by
  have hl := itAt_lt h
  obtain ⟨T, h⟩ := h
  exact ⟨T, (k.block G hl).trans h⟩
theorem itAt_new (w : World) (up : Int) (nm tx : ByteArray) (a : Option Addr) (n c : Nat) (T : TypeId) : ItAt (w.alloc (.cells #[.int .i64 up, .string nm, .string tx, .slice a n c] T)) w.heap.size up nm tx a n c := ⟨T, heap_alloc_new w _⟩
theorem itAt_cells (h : ItAt w G up nm tx a n c) : w.cell? ⟨G, 0, none⟩ = some (.int .i64 up) ∧ w.cell? ⟨G, 1, none⟩ = some (.string nm) ∧ w.cell? ⟨G, 2, none⟩ = some (.string tx) ∧ w.cell? ⟨G, 3, none⟩ = some (.slice a n c) := by
  obtain ⟨T, h⟩ := h
  have e : ∀ i, w.cell? ⟨G, i, none⟩ = #[Value.int .i64 up, .string nm, .string tx, .slice a n c][i]? := fun i => by rw [cell_of_row w G i _ T (0, 0) h]
  exact ⟨e 0, e 1, e 2, e 3⟩
theorem itAt_frozen (h : ItAt w G up nm tx a n c) (i : Nat) : w.frozen? ⟨G, i, none⟩ = false := by
  obtain ⟨T, h⟩ := h
  simp [World.frozen?, h]
theorem itAt_far (h : ItAt w G up nm tx a n c) (p : Addr) (v : Value) (hne : p.block ≠ G) : ItAt (w.setCell p v) G up nm tx a n c := by
  obtain ⟨T, h⟩ := h
  exact ⟨T, by rw [heap_setCell_far _ _ _ _ hne]; exact h⟩
theorem itAt_sets {up' : Int} {nm' tx' : ByteArray} {a' : Option Addr} {n' c' : Nat} (h : ItAt w G up nm tx a n c) :
    ItAt ((((w.setCell ⟨G, 0, none⟩ (.int .i64 up')).setCell ⟨G, 1, none⟩ (.string nm')).setCell ⟨G, 2, none⟩ (.string tx')).setCell ⟨G, 3, none⟩ (.slice a' n' c')) G up' nm' tx' a' n' c' := by
  obtain ⟨T, h0⟩ := h
  have h1 := block_setCell (i := 0) h0 (.int .i64 up')
  have h2 := block_setCell (i := 1) h1 (.string nm')
  have h3 := block_setCell (i := 2) h2 (.string tx')
  have h4 := block_setCell (i := 3) h3 (.slice a' n' c')
  exact ⟨T, by simpa using h4⟩
end
theorem box_item {w w2 : World} {up : Int} {nm tx : ByteArray} {a : Option Addr} {n c : Nat} {T : TypeId} (k : Below (w.alloc (.cells #[.int .i64 up, .string nm, .string tx, .slice a n c] T)).heap.size (w.alloc (.cells #[.int .i64 up, .string nm, .string tx, .slice a n c] T)) w2) :
    ItAt w2 w.heap.size up nm tx a n c ∧ Below w.heap.size w w2 := ⟨itAt_go (itAt_new w up nm tx a n c T) k, ((Below.refl w.heap.size w).alloc (Nat.le_refl _) _).trans (k.mono (by simp))⟩
theorem three_items {w w2 : World} {up : Int} {nm tx : ByteArray} {a : Option Addr} {n c : Nat} {T U V : TypeId}
    (k : Below (((w.alloc (.cells #[.int .i64 up, .string nm, .string tx, .slice a n c] T)).alloc (.cells #[.int .i64 0, .string ⟨#[]⟩, .string ⟨#[]⟩, .slice none 0 0] U)).alloc (.cells #[.int .i64 up, .string nm, .string tx, .slice none 0 0] V)).heap.size
      (((w.alloc (.cells #[.int .i64 up, .string nm, .string tx, .slice a n c] T)).alloc (.cells #[.int .i64 0, .string ⟨#[]⟩, .string ⟨#[]⟩, .slice none 0 0] U)).alloc (.cells #[.int .i64 up, .string nm, .string tx, .slice none 0 0] V)) w2) :
    ItAt w2 w.heap.size up nm tx a n c ∧ ItAt w2 (w.heap.size + 1) 0 ⟨#[]⟩ ⟨#[]⟩ none 0 0 ∧ ItAt w2 (w.heap.size + 1 + 1) up nm tx none 0 0 ∧ Below w.heap.size w w2 := by
  have h1 := itAt_new w up nm tx a n c T
  have h2 := itAt_new (w.alloc (.cells #[.int .i64 up, .string nm, .string tx, .slice a n c] T)) 0 ⟨#[]⟩ ⟨#[]⟩ none 0 0 U
  have h3 := itAt_new ((w.alloc (.cells #[.int .i64 up, .string nm, .string tx, .slice a n c] T)).alloc (.cells #[.int .i64 0, .string ⟨#[]⟩, .string ⟨#[]⟩, .slice none 0 0] U)) up nm tx none 0 0 V
  have st : ∀ (x : World) (o : Obj), Below x.heap.size x (x.alloc o) := fun x o => (Below.refl _ _).alloc (Nat.le_refl _) _
  refine ⟨itAt_go (itAt_go (itAt_go h1 (st _ _)) (st _ _)) k, ?_, ?_, ?_⟩
  · have := itAt_go (itAt_go h2 (st _ _)) k
    simpa using this
  · have := itAt_go h3 k
    simpa using this
  · refine ((((Below.refl w.heap.size w).alloc (Nat.le_refl _) _).alloc (by simp) _).alloc (by simp; omega) _).trans (k.mono (by simp; omega))
/-- Of a row of cells the first k items are those of D, each with its attributes in a block of its own above g. -/
def Quad (w : World) (g : Nat) (xs : List Value) (k : Nat) (D : Dc) : Prop := ∀ j, j < k → ∃ G, g < G ∧ (xs[j * 4]? = some (.int .i64 (D.U j)) ∧ xs[j * 4 + 1]? = some (.string (D.NM j)) ∧ xs[j * 4 + 2]? = some (.string (D.TX j)) ∧ xs[j * 4 + 3]? = some (.slice (some ⟨G, 0, none⟩) (D.AC j) (D.AC j))) ∧ AtAt w (some ⟨G, 0, none⟩) (D.AC j) (D.AN j) (D.AV j) w.heap.size
theorem quad_go {w w' : World} {g k : Nat} {xs : List Value} {D : Dc} (h : Quad w g xs k D) (hb : Below w.heap.size w w') : Quad w' g xs k D := fun j hj => by
  obtain ⟨G, hG, hc, hr⟩ := h j hj
  exact ⟨G, hG, hc, atAt_up (atAt_go hr hb) hb.size⟩
theorem quad_set {w : World} {g k o : Nat} {xs : List Value} {D : Dc} (h : Quad w g xs k D) (v : Value) : Quad (w.setCell ⟨g, o, none⟩ v) g xs k D := fun j hj => by
  obtain ⟨G, hG, hc, hr⟩ := h j hj
  refine ⟨G, hG, hc, ?_⟩
  rw [heap_setCell_size]
  exact atAt_set hr _ _ (by show g ≠ G; omega)
theorem quad_step {w : World} {g k n G : Nat} {xs : List Value} {D : Dc} (h : Quad w g xs k D) (hk : k < n) (hl : xs.length = n * 4) (hG : g < G) (hr : AtAt w (some ⟨G, 0, none⟩) (D.AC k) (D.AN k) (D.AV k) w.heap.size) :
    Quad w g ((((xs.set (k * 4) (.int .i64 (D.U k))).set (k * 4 + 1) (.string (D.NM k))).set (k * 4 + 2) (.string (D.TX k))).set (k * 4 + 3) (.slice (some ⟨G, 0, none⟩) (D.AC k) (D.AC k))) (k + 1) D := by
  intro j hj
  simp only [List.getElem?_set, List.length_set]
  by_cases e : j = k
  · subst e
    refine ⟨G, hG, ⟨?_, ?_, ?_, ?_⟩, hr⟩
    all_goals
      repeat (first | rw [if_pos rfl, if_pos (by omega)] | rw [if_neg (by omega)])
  · obtain ⟨G', hG', ⟨h0, h1, h2, h3⟩, hr'⟩ := h j (by omega)
    refine ⟨G', hG', ⟨?_, ?_, ?_, ?_⟩, hr'⟩
    all_goals
      repeat rw [if_neg (by omega)]
      assumption
theorem own_dc {w : World} {B g n t : Nat} {xs : List Value} {D : Dc} (hn : D.n = n) (h : w.ownsRow B t 4 (.slice (some ⟨g, 0, none⟩) n n) n xs) (hp : Quad w g xs n D) : DcAt w (some ⟨g, 0, none⟩) D w.heap.size := fun h0 => by
  have hg : g < w.heap.size := (h.lt g rfl).2
  refine ⟨g, 0, rfl, hg, fun j hj => ?_⟩
  obtain ⟨G, hG, ⟨h0, h1, h2, h3⟩, hr⟩ := hp j (by omega)
  refine ⟨some ⟨G, 0, none⟩, D.AC j, ⟨?_, ?_, ?_, ?_⟩, hr, Nat.le_refl _⟩
  · rw [Nat.zero_add, h.cellAt (j * 4) (by omega)]; exact h0
  · rw [Nat.zero_add, h.cellAt (j * 4 + 1) (by omega)]; exact h1
  · rw [Nat.zero_add, h.cellAt (j * 4 + 2) (by omega)]; exact h2
  · rw [Nat.zero_add, h.cellAt (j * 4 + 3) (by omega)]; exact h3
end Go.Proofs.YthcggdjkfebemaaGreatDoor
