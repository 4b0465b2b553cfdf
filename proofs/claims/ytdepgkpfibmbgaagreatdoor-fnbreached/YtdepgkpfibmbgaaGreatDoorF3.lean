/-
  Texts put together: Names, TxRow, KyRow, PtMath.
-/
import Derived.Test.YtdepgkpfibmbgaaGreatDoorF1
import Derived.Test.YtdepgkpfibmbgaaGreatDoorChecked
import Derived.WalkKit
import Derived.Below
import Derived.Lib.SplitLaws
import Derived.Lib.Strings
/-
  Contracts: what the specification's and the program's NameOk and their helpers answer at every byte and every string of at most maxLen bytes; the world is as it was.
-/
namespace Go.Proofs.YtdepgkpfibmbgaaGreatDoor
open Go.RowKit
set_option linter.unusedSimpArgs false
theorem cases_digit (c : Int) : c ≤ 47 ∨ (48 ≤ c ∧ c ≤ 57) ∨ 58 ≤ c := by omega
set_option linter.unusedVariables false

theorem cases_byte (c : Int) : c ≤ 44 ∨ c = 45 ∨ c = 46 ∨ c = 47 ∨ (48 ≤ c ∧ c ≤ 57) ∨ (58 ≤ c ∧ c ≤ 64) ∨ (65 ≤ c ∧ c ≤ 90) ∨ (91 ≤ c ∧ c ≤ 94) ∨ c = 95 ∨ c = 96 ∨ (97 ≤ c ∧ c ≤ 122) ∨ 123 ≤ c := by omega
theorem cases_first (c : Int) : c ≤ 64 ∨ (65 ≤ c ∧ c ≤ 90) ∨ (91 ≤ c ∧ c ≤ 94) ∨ c = 95 ∨ c = 96 ∨ (97 ≤ c ∧ c ≤ 122) ∨ 123 ≤ c := by omega

set_option maxHeartbeats 2000000 in
theorem s_first (c : Int) (w : World) : Calls Tryz.prog 72 #[.int .u8 c] w fun e w' => e = .returned (.bool (firstB c)) ∧ w' = w := by
  rcases cases_first c with h | ⟨h, h'⟩ | ⟨h, h'⟩ | h | h | ⟨h, h'⟩ | h
  all_goals
    try subst h
    go_enter Tryz.func72, Tryz.ntmps72
    go_wp2
    go_ret
    exact ⟨ret_bool (by first | decide | (rw [Bool.eq_iff_iff]; simp only [firstB, Bool.or_eq_true, Bool.and_eq_true, decide_eq_true_eq, beq_iff_eq, true_iff, false_iff, iff_true, iff_false, Bool.false_eq_true]; omega)), rfl⟩
set_option maxHeartbeats 2000000 in
theorem i_first (c : Int) (w : World) : Calls Tryz.prog 80 #[.int .u8 c] w fun e w' => e = .returned (.bool (firstB c)) ∧ w' = w := by
  rcases cases_first c with h | ⟨h, h'⟩ | ⟨h, h'⟩ | h | h | ⟨h, h'⟩ | h
  all_goals
    try subst h
    go_enter Tryz.func80, Tryz.ntmps80
    go_wp2
    go_ret
    exact ⟨ret_bool (by first | decide | (rw [Bool.eq_iff_iff]; simp only [firstB, Bool.or_eq_true, Bool.and_eq_true, decide_eq_true_eq, beq_iff_eq, true_iff, false_iff, iff_true, iff_false, Bool.false_eq_true]; omega)), rfl⟩
set_option maxHeartbeats 2000000 in
theorem s_digit (c : Int) (w : World) : Calls Tryz.prog 107 #[.int .u8 c] w fun e w' => e = .returned (.bool (digitB c)) ∧ w' = w := by
  rcases cases_digit c with h | ⟨h, h'⟩ | h
  all_goals
    try subst h
    go_enter Tryz.func107, Tryz.ntmps107
    go_wp2
    go_ret
    exact ⟨ret_bool (by first | decide | (rw [Bool.eq_iff_iff]; simp only [digitB, Bool.or_eq_true, Bool.and_eq_true, decide_eq_true_eq, beq_iff_eq, true_iff, false_iff, iff_true, iff_false, Bool.false_eq_true]; omega)), rfl⟩
set_option maxHeartbeats 2000000 in
theorem s_more (c : Int) (w : World) : Calls Tryz.prog 73 #[.int .u8 c] w fun e w' => e = .returned (.bool (moreB c)) ∧ w' = w := by
  rcases cases_byte c with h | h | h | h | ⟨h, h'⟩ | ⟨h, h'⟩ | ⟨h, h'⟩ | ⟨h, h'⟩ | h | h | ⟨h, h'⟩ | h
  all_goals
    try subst h
    go_enter Tryz.func73, Tryz.ntmps73
    go_wp2
    go_ret
    exact ⟨ret_bool (by first | decide | (rw [Bool.eq_iff_iff]; simp only [moreB, Bool.or_eq_true, Bool.and_eq_true, decide_eq_true_eq, beq_iff_eq, true_iff, false_iff, iff_true, iff_false, Bool.false_eq_true]; omega)), rfl⟩
set_option maxHeartbeats 2000000 in
theorem i_more (c : Int) (w : World) : Calls Tryz.prog 81 #[.int .u8 c] w fun e w' => e = .returned (.bool (moreB c)) ∧ w' = w := by
  rcases cases_byte c with h | h | h | h | ⟨h, h'⟩ | ⟨h, h'⟩ | ⟨h, h'⟩ | ⟨h, h'⟩ | h | h | ⟨h, h'⟩ | h
  all_goals
    try subst h
    go_enter Tryz.func81, Tryz.ntmps81
    go_wp2
    go_ret
    exact ⟨ret_bool (by first | decide | (rw [Bool.eq_iff_iff]; simp only [moreB, Bool.or_eq_true, Bool.and_eq_true, decide_eq_true_eq, beq_iff_eq, true_iff, false_iff, iff_true, iff_false, Bool.false_eq_true]; omega)), rfl⟩
set_option maxHeartbeats 1000000 in
theorem s_name (s : ByteArray) (w : World) (hs : s.size ≤ maxLen) : Calls Tryz.prog 38 #[.string s] w fun e w' => e = .returned (.bool (nameB s)) ∧ w' = w := by
  unfold maxLen at hs
  by_cases h0 : s.size = 0
  · go_enter Tryz.func38, Tryz.ntmps38
    go_wp2
    go_ret
    exact ⟨ret_bool (nameB_none s h0).symm, rfl⟩
  · by_cases h40 : 40 < s.size
    · go_enter Tryz.func38, Tryz.ntmps38
      go_wp2
      go_ret
      exact ⟨ret_bool (nameB_long s h40).symm, rfl⟩
    · have hp : 0 < s.size := by omega
      cases hf : firstB (s[0].toNat : Int)
      · go_enter Tryz.func38, Tryz.ntmps38
        go_wp2_with (go_at_call 72; refine (s_first _ _).mono ?_; rintro e w' ⟨rfl, rfl⟩)
        go_ret
        exact ⟨ret_bool (nameB_first s hp hf).symm, rfl⟩
      · go_enter Tryz.func38, Tryz.ntmps38
        go_wp2_with (go_at_call 72; refine (s_first _ _).mono ?_; rintro e w' ⟨rfl, rfl⟩)
        go_loop [3] (fun i => ∃ k : Nat, 1 ≤ k ∧ k ≤ s.size ∧ i = .int .i64 k ∧ ∀ j (h : j < s.size), 1 ≤ j → j < k → moreB (s[j].toNat : Int) = true) (fun i => s.size - (intOf i).toNat)
        case atStart => exact ⟨1, by omega, by omega, rfl, fun j h a b => by omega⟩
        case round =>
          obtain ⟨k, h1, hk, rfl, hm⟩ := hrel
          have HM : Hid (∀ j (h : j < s.size), 1 ≤ j → j < k → moreB (s[j].toNat : Int) = true) := hm
          clear hm
          by_cases hlt : k < s.size
          · cases hb : moreB (s[k].toNat : Int)
            · go_wp2_with (go_at_call 73; refine (s_more _ _).mono ?_; rintro e w' ⟨rfl, rfl⟩)
              go_ret
              exact ⟨ret_bool (nameB_more s k h1 hlt hb).symm, rfl⟩
            · go_wp2_with (go_at_call 73; refine (s_more _ _).mono ?_; rintro e w' ⟨rfl, rfl⟩)
              go_round
              case rel =>
                refine ⟨k + 1, by omega, by omega, by go_num, fun j h a b => ?_⟩
                by_cases e : j = k
                · subst e; exact hb
                · exact HM.out j h a (by omega)
              case measure => simp [intOf]; omega
          · go_wp2
            go_ret
            exact ⟨ret_bool (nameB_yes s hp (by omega) hf (fun j h a => HM.out j h a (by omega))).symm, rfl⟩
set_option maxHeartbeats 1000000 in
theorem i_name (s : ByteArray) (w : World) (hs : s.size ≤ maxLen) : Calls Tryz.prog 49 #[.string s] w fun e w' => e = .returned (.bool (nameB s)) ∧ w' = w := by
  unfold maxLen at hs
  by_cases h0 : s.size = 0
  · go_enter Tryz.func49, Tryz.ntmps49
    go_wp2
    go_ret
    exact ⟨ret_bool (nameB_none s h0).symm, rfl⟩
  · by_cases h40 : 40 < s.size
    · go_enter Tryz.func49, Tryz.ntmps49
      go_wp2
      go_ret
      exact ⟨ret_bool (nameB_long s h40).symm, rfl⟩
    · have hp : 0 < s.size := by omega
      cases hf : firstB (s[0].toNat : Int)
      · go_enter Tryz.func49, Tryz.ntmps49
        go_wp2_with (go_at_call 80; refine (i_first _ _).mono ?_; rintro e w' ⟨rfl, rfl⟩)
        go_ret
        exact ⟨ret_bool (nameB_first s hp hf).symm, rfl⟩
      · go_enter Tryz.func49, Tryz.ntmps49
        go_wp2_with (go_at_call 80; refine (i_first _ _).mono ?_; rintro e w' ⟨rfl, rfl⟩)
        go_loop [3] (fun i => ∃ k : Nat, 1 ≤ k ∧ k ≤ s.size ∧ i = .int .i64 k ∧ ∀ j (h : j < s.size), 1 ≤ j → j < k → moreB (s[j].toNat : Int) = true) (fun i => s.size - (intOf i).toNat)
        case atStart => exact ⟨1, by omega, by omega, rfl, fun j h a b => by omega⟩
        case round =>
          obtain ⟨k, h1, hk, rfl, hm⟩ := hrel
          have HM : Hid (∀ j (h : j < s.size), 1 ≤ j → j < k → moreB (s[j].toNat : Int) = true) := hm
          clear hm
          by_cases hlt : k < s.size
          · cases hb : moreB (s[k].toNat : Int)
            · go_wp2_with (go_at_call 81; refine (i_more _ _).mono ?_; rintro e w' ⟨rfl, rfl⟩)
              go_ret
              exact ⟨ret_bool (nameB_more s k h1 hlt hb).symm, rfl⟩
            · go_wp2_with (go_at_call 81; refine (i_more _ _).mono ?_; rintro e w' ⟨rfl, rfl⟩)
              go_round
              case rel =>
                refine ⟨k + 1, by omega, by omega, by go_num, fun j h a b => ?_⟩
                by_cases e : j = k
                · subst e; exact hb
                · exact HM.out j h a (by omega)
              case measure => simp [intOf]; omega
          · go_wp2
            go_ret
            exact ⟨ret_bool (nameB_yes s hp (by omega) hf (fun j h a => HM.out j h a (by omega))).symm, rfl⟩
end Go.Proofs.YtdepgkpfibmbgaaGreatDoor

/-
  Contracts of the laws' helpers on rows of texts that come in: how much they hold, a copy in new memory, that two rows that are alike are told so.
-/
namespace Go.Proofs.YtdepgkpfibmbgaaGreatDoor
open Go.RowKit Go.Joins
set_option linter.unusedVariables false
set_option linter.unusedSimpArgs false
theorem infoStrT : (Tryz.prog.info? 9).map (fun i => (i.zero, i.size, i.bytes)) = some (some (.string ByteArray.empty), 1, 16) := by kernel_rfl
theorem drewN_below9 (w : World) (q : Nat) : Below w.heap.size w (w.drewN q) := ⟨rfl, rfl, rfl, Nat.le_refl _, fun _ _ => rfl⟩
/-- A row of texts lies somewhere. -/
def TxAt (w : World) (a : Option Addr) (L : List ByteArray) (B : Nat) : Prop := L ≠ [] → ∃ b off, a = some ⟨b, off, none⟩ ∧ b < B ∧ ∀ j, j < L.length → w.cell? ⟨b, off + j, none⟩ = some (.string (L[j]?.getD ⟨#[]⟩))
theorem tx_go {w w' : World} {a : Option Addr} {L : List ByteArray} {B : Nat} (h : TxAt w a L B) (hb : Below B w w') : TxAt w' a L B := fun h0 => by
  obtain ⟨b, off, e, hl, hc⟩ := h h0
  exact ⟨b, off, e, hl, fun j hj => (hb.cell (p := ⟨b, off + j, none⟩) hl).trans (hc j hj)⟩
theorem tx_up {w : World} {a : Option Addr} {L : List ByteArray} {B B' : Nat} (h : TxAt w a L B) (hB : B ≤ B') : TxAt w a L B' := fun h0 => by
  obtain ⟨b, off, e, hl, hc⟩ := h h0
  exact ⟨b, off, e, Nat.lt_of_lt_of_le hl hB, hc⟩
theorem tx_cell {w : World} {a : Option Addr} {L : List ByteArray} {B : Nat} (h : TxAt w a L B) (j : Nat) (hj : j < L.length) : ∃ b off, a = some ⟨b, off, none⟩ ∧ b < B ∧ ∀ j, j < L.length → w.cell? ⟨b, off + j, none⟩ = some (.string (L[j]?.getD ⟨#[]⟩)) := h (fun e => by rw [e] at hj; simp at hj)
theorem tx_own {w : World} {B n c : Nat} {ad : Option Addr} {t : TypeId} {xs : List ByteArray} (h : w.ownsRow B t 1 (.slice ad n c) n (xs.map Value.string)) : TxAt w ad xs w.heap.size := fun h0 => by
  have hl := h.1
  rcases h.2 with ⟨-, hz⟩ | ⟨g, cap, cur, hv, hB, hh, -, -, -, hx⟩
  · exact absurd (List.length_eq_zero_iff.1 (by rw [hz] at hl; simpa using hl)) h0
  · simp only [Value.slice.injEq] at hv
    obtain ⟨rfl, -, rfl⟩ := hv
    refine ⟨g, 0, rfl, (Array.getElem?_eq_some_iff.1 hh).1, fun j hj => ?_⟩
    have hn : xs.length = n := by simpa using hl
    have := h.cellAt j (by omega)
    rw [Nat.zero_add, this, List.getElem?_map, List.getElem?_eq_getElem hj]
    rfl
/-- How much a row of texts holds. -/
def txS (L : List ByteArray) (k : Nat) : Nat := sumN (fun j => (L[j]?.getD ⟨#[]⟩).size) k
def txTot (L : List ByteArray) : Nat := L.length + txS L L.length
def TxSz (L : List ByteArray) : Prop := L.length ≤ maxLen ∧ ∀ s ∈ L, s.size ≤ maxLen
theorem set_stepT (xs : List ByteArray) (n k : Nat) (hn : xs.length = n) (hk : k < n) :
    ((xs.take k ++ List.replicate (n - k) ByteArray.empty).map Value.string).set k (.string (xs[k]?.getD ⟨#[]⟩)) = (xs.take (k + 1) ++ List.replicate (n - (k + 1)) ByteArray.empty).map Value.string := by
  apply List.ext_getElem
  · simp; omega
  · intro i h1 h2
    simp at h1 h2
    simp only [List.getElem_set, List.getElem_map, List.getElem_append, List.getElem_take, List.length_take, List.getElem_replicate]
    by_cases e : k = i
    · subst e
      simp [List.getElem?_eq_getElem (show k < xs.length by omega), show k < min (k + 1) xs.length by omega]
    · simp only [e, if_false]
      by_cases h : i < k
      · simp [show i < min k xs.length by omega, show i < min (k + 1) xs.length by omega]
      · simp [show ¬ i < min k xs.length by omega, show ¬ i < min (k + 1) xs.length by omega]

end Go.Proofs.YtdepgkpfibmbgaaGreatDoor

/-
  Contracts of the laws' helpers on rows of keys: how much they hold.
-/
namespace Go.Proofs.YtdepgkpfibmbgaaGreatDoor
open Go.RowKit Go.Joins
set_option linter.unusedVariables false
set_option linter.unusedSimpArgs false
/-- A key. -/
structure Ky where
  nm : ByteArray
  kd : Int
  on : ByteArray
  pa : ByteArray
  fl : List ByteArray
  re : ByteArray
/-- No key. -/
def ky0 : Ky := ⟨⟨#[]⟩, 0, ⟨#[]⟩, ⟨#[]⟩, [], ⟨#[]⟩⟩
/-- The key at a place. -/
def kyA (L : List Ky) (j : Nat) : Ky := L[j]?.getD ky0
def KyC (w : World) (b o : Nat) (x : Ky) (ad : Option Addr) (cp : Nat) : Prop := w.cell? ⟨b, o, none⟩ = some (.string x.nm) ∧ w.cell? ⟨b, o + 1, none⟩ = some (.int .i64 x.kd) ∧ w.cell? ⟨b, o + 2, none⟩ = some (.string x.on) ∧ w.cell? ⟨b, o + 3, none⟩ = some (.string x.pa) ∧ w.cell? ⟨b, o + 4, none⟩ = some (.slice ad x.fl.length cp) ∧ w.cell? ⟨b, o + 5, none⟩ = some (.string x.re)
def KyAt (w : World) (a : Option Addr) (L : List Ky) (B : Nat) : Prop := L ≠ [] → ∃ b off, a = some ⟨b, off, none⟩ ∧ b < B ∧ ∀ j, j < L.length → ∃ ad cp, KyC w b (off + j * 6) (kyA L j) ad cp ∧ TxAt w ad (kyA L j).fl B ∧ (kyA L j).fl.length ≤ cp
theorem kyC_go {w w' : World} {b o B : Nat} {x : Ky} {ad : Option Addr} {cp : Nat} (h : KyC w b o x ad cp) (hb : b < B) (k : Below B w w') : KyC w' b o x ad cp := by
  obtain ⟨h0, h1, h2, h3, h4, h5⟩ := h
  exact ⟨(k.cell (p := ⟨b, o, none⟩) hb).trans h0, (k.cell (p := ⟨b, o + 1, none⟩) hb).trans h1, (k.cell (p := ⟨b, o + 2, none⟩) hb).trans h2, (k.cell (p := ⟨b, o + 3, none⟩) hb).trans h3, (k.cell (p := ⟨b, o + 4, none⟩) hb).trans h4, (k.cell (p := ⟨b, o + 5, none⟩) hb).trans h5⟩
theorem kyAt_go {w w' : World} {a : Option Addr} {L : List Ky} {B : Nat} (h : KyAt w a L B) (k : Below B w w') : KyAt w' a L B := fun h0 => by
  obtain ⟨b, off, e, hb, hr⟩ := h h0
  refine ⟨b, off, e, hb, fun j hj => ?_⟩
  obtain ⟨ad, cp, h1, h2, h3⟩ := hr j hj
  exact ⟨ad, cp, kyC_go h1 hb k, tx_go h2 k, h3⟩
theorem kyAt_up {w : World} {a : Option Addr} {L : List Ky} {B B' : Nat} (h : KyAt w a L B) (k : B ≤ B') : KyAt w a L B' := fun h0 => by
  obtain ⟨b, off, e, hb, hr⟩ := h h0
  refine ⟨b, off, e, Nat.lt_of_lt_of_le hb k, fun j hj => ?_⟩
  obtain ⟨ad, cp, h1, h2, h3⟩ := hr j hj
  exact ⟨ad, cp, h1, tx_up h2 k, h3⟩
/-- The sizes that a key in memory can have. -/
def KyZ (x : Ky) : Prop := x.nm.size ≤ maxLen ∧ x.on.size ≤ maxLen ∧ x.pa.size ≤ maxLen ∧ TxSz x.fl ∧ x.re.size ≤ maxLen
def KySz (L : List Ky) : Prop := L.length ≤ maxLen ∧ ∀ j, j < L.length → KyZ (kyA L j)
def kyS (x : Ky) : Nat := x.nm.size + x.on.size + x.pa.size + txTot x.fl + x.re.size
def kyTot (L : List Ky) : Nat := L.length + sumN (fun j => kyS (kyA L j)) L.length
theorem ky_sz {L : List Ky} (h : kyTot L ≤ 1048576) : L.length ≤ 1048576 ∧ ∀ j, j < L.length → kyS (kyA L j) ≤ 1048576 := by
  unfold kyTot at h
  refine ⟨by omega, fun j hj => ?_⟩
  have h1 := sumN_at (fun j => kyS (kyA L j)) hj
  have h2 : (fun j => kyS (kyA L j)) j = kyS (kyA L j) := rfl
  omega
end Go.Proofs.YtdepgkpfibmbgaaGreatDoor

/-
  Plain facts on paths, of no program: the pieces of a text between the signs /, told by what was read so far, and as Go's own Split has them.
-/
namespace Go.Proofs.YtdepgkpfibmbgaaGreatDoor
set_option linter.unusedVariables false
/-- The pieces of a text, 'cur' being what of the first one was read already. -/
def sg (cur : List UInt8) : List UInt8 → List (List UInt8)
  | [] => [cur]
  | c :: t => if c = 47 then cur :: sg [] t else sg (cur ++ [c]) t
theorem sg_sign (cur t : List UInt8) : sg cur (47 :: t) = cur :: sg [] t := by rw [sg, if_pos rfl]
theorem sg_more {c : UInt8} (h : c ≠ 47) (cur t : List UInt8) : sg cur (c :: t) = sg (cur ++ [c]) t := by rw [sg, if_neg h]
theorem sg_len : ∀ (l cur : List UInt8), (sg cur l).length ≤ l.length + 1
  | [], cur => by simp [sg]
  | c :: t, cur => by
    by_cases h : c = 47
    · subst h; rw [sg_sign]; have := sg_len t []; simp; omega
    · rw [sg_more h]; have := sg_len t (cur ++ [c]); simp; omega
def nameL (l : List UInt8) : Bool := nameB ⟨l.toArray⟩
theorem nameL_data (C : ByteArray) : nameL C.data.toList = nameB C := rfl
theorem splitK_ne (k : Nat) (l : List UInt8) : ∃ h t, Lib.splitK [47] 0 k l = h :: t := by
  cases k with
  | zero => exact ⟨_, _, rfl⟩
  | succ k => unfold Lib.splitK; split <;> exact ⟨_, _, rfl⟩
theorem sg_split : ∀ (l cur : List UInt8), ∃ h t, Lib.splitK [47] 0 (Lib.count l [47]) l = h :: t ∧ sg cur l = (cur ++ h) :: t
  | [], cur => by
    rw [Lib.count_miss (by simp [Lib.index])]
    exact ⟨[], [], rfl, by simp [sg]⟩
  | c :: t, cur => by
    by_cases e : c = 47
    · subst e
      obtain ⟨h, r, h1, h2⟩ := sg_split t []
      have hix : Lib.index (47 :: t) [47] = 0 := by rw [Lib.index]; simp [List.isPrefixOf]
      refine ⟨[], h :: r, ?_, ?_⟩
      · rw [Lib.count_cons_eq, Nat.add_comm, Lib.splitK, hix, if_neg (by decide)]
        simp [h1]
      · rw [sg_sign, h2]; simp
    · obtain ⟨h, r, h1, h2⟩ := sg_split t (cur ++ [c])
      have hp : ([47] : List UInt8).isPrefixOf (c :: t) = false := by simp [List.isPrefixOf, Ne.symm e]
      have hix : Lib.index (c :: t) [47] = if Lib.index t [47] == -1 then -1 else Lib.index t [47] + 1 := by rw [Lib.index, hp]; simp
      refine ⟨c :: h, r, ?_, ?_⟩
      · rw [Lib.count_cons_ne c 47 t e]
        cases hk : Lib.count t [47] with
        | zero =>
          rw [hk] at h1
          rw [Lib.splitK] at h1 ⊢
          simp only [List.cons.injEq] at h1
          obtain ⟨rfl, rfl⟩ := h1
          rfl
        | succ k =>
          rw [hk] at h1
          by_cases hm : Lib.index t [47] = -1
          · have := Lib.count_miss hm; omega
          · have hge := Lib.index_ge t [47]
            have hm2 : ¬ ((Lib.index t [47] == -1) = true) := fun h => hm (beq_iff_eq.1 h)
            have hm3 : ¬ ((Lib.index t [47] + 1 == -1) = true) := fun h => by have := beq_iff_eq.1 h; omega
            rw [Lib.splitK, if_neg hm2] at h1
            rw [Lib.splitK, hix, if_neg hm2, if_neg hm3]
            simp only [List.cons.injEq] at h1
            obtain ⟨h3, h4⟩ := h1
            have e1 : (Lib.index t [47] + 1).toNat = (Lib.index t [47]).toNat + 1 := by omega
            obtain ⟨i, hi⟩ : ∃ i, (Lib.index t [47]).toNat = i := ⟨_, rfl⟩
            rw [hi] at h3 h4 e1
            rw [e1]
            simp only [List.length_cons, List.length_nil, Nat.add_zero, Nat.zero_add] at h3 h4 ⊢
            rw [List.take_succ_cons, List.drop_succ_cons, h3, h4]
      · rw [sg_more e, h2]; simp
theorem split_sg (s : ByteArray) : (Lib.splitB ⟨#[47]⟩ 0 (Lib.countB s ⟨#[47]⟩) s).map (·.data.toList) = sg [] s.data.toList := by
  rw [Lib.splitB_data]
  obtain ⟨h, t, h1, h2⟩ := sg_split s.data.toList []
  rw [h2]
  exact h1
theorem split_len (s : ByteArray) : Lib.countB s ⟨#[47]⟩ + 1 = (sg [] s.data.toList).length := by
  rw [← split_sg, List.length_map]
  exact (Lib.splitB_all ⟨#[47]⟩ (by decide) 0 _ s rfl).symm
theorem split_all (s : ByteArray) : (sg [] s.data.toList).all nameL = (Lib.splitB ⟨#[47]⟩ 0 (Lib.countB s ⟨#[47]⟩) s).all nameB := by
  rw [← split_sg, List.all_map]
  rfl
/-- The names of a path that is read without the two signs ahead: all of them are names. -/
def allN (l : List UInt8) : Bool := (sg [] l).all nameL
def cntN (l : List UInt8) : Nat := (sg [] l).length
def deepL (l : List UInt8) : Bool := Lib.hasPrefix l [47, 47]
def restL (l : List UInt8) : List UInt8 := Lib.trimPrefix l [47, 47]
def routeB (s : ByteArray) : Bool := decide (s.size ≤ 20000) && (decide (cntN (restL s.data.toList) ≤ 6) && allN (restL s.data.toList))
/-- What the specification takes for the rest. -/
def deepS (s : ByteArray) : Bool := decide (2 < s.size) && deepL s.data.toList
def restS (s : ByteArray) : ByteArray := if deepS s = true then s.extract 2 s.size else s
theorem rest_same (s : ByteArray) : (allN (restS s).data.toList = allN (restL s.data.toList)) ∧ (allN (restL s.data.toList) = true → (restS s).data.toList = restL s.data.toList ∧ deepS s = deepL s.data.toList) := by
  obtain ⟨⟨l⟩⟩ := s
  by_cases hd : deepL l = true
  · by_cases hl : 2 < l.length
    · have h1 : deepS ⟨⟨l⟩⟩ = true := by unfold deepS; rw [show (⟨⟨l⟩⟩ : ByteArray).data.toList = l from rfl, hd]; simp [ByteArray.size]; exact hl
      have h2 : (restS ⟨⟨l⟩⟩).data.toList = restL l := by
        unfold restS; rw [if_pos h1]
        unfold restL Lib.trimPrefix
        rw [if_pos (show Lib.hasPrefix l [47, 47] = true from hd)]
        have h3 : (ByteArray.extract ⟨⟨l⟩⟩ 2 (ByteArray.size ⟨⟨l⟩⟩)).data.toList = l.drop 2 := by
          rw [Lib.extract_to_end]
        exact h3
      exact ⟨by rw [h2], fun _ => ⟨h2, h1.trans hd.symm⟩⟩
    · have e : l = [47, 47] := by
        have hp : ([47, 47] : List UInt8) <+: l := List.isPrefixOf_iff_prefix.1 hd
        obtain ⟨r, rfl⟩ := hp
        simp at hl
        subst hl
        rfl
      subst e
      have a1 : allN (restL [47, 47]) = false := by decide
      exact ⟨by decide, fun h => by rw [show (⟨⟨[47, 47]⟩⟩ : ByteArray).data.toList = [47, 47] from rfl, a1] at h; cases h⟩
  · have hd' : deepL l = false := by simpa using hd
    have h1 : deepS ⟨⟨l⟩⟩ = false := by unfold deepS; rw [show (⟨⟨l⟩⟩ : ByteArray).data.toList = l from rfl, hd']; simp
    have h2 : (restS ⟨⟨l⟩⟩).data.toList = restL l := by
      unfold restS; rw [if_neg (by rw [h1]; decide)]
      unfold restL Lib.trimPrefix
      rw [if_neg (show ¬ Lib.hasPrefix l [47, 47] = true from hd)]
    exact ⟨by rw [h2], fun _ => ⟨h2, h1.trans hd'.symm⟩⟩
/-- What is left of the pieces at place k. -/
def tailS (l cur : List UInt8) (k : Nat) : List (List UInt8) := if k ≤ l.length then sg cur (l.drop k) else []
theorem tailS_more {l cur : List UInt8} {k : Nat} {c : UInt8} (hk : l[k]? = some c) (hc : c ≠ 47) : tailS l cur k = tailS l (cur ++ [c]) (k + 1) := by
  have hl : k < l.length := by
    rcases Nat.lt_or_ge k l.length with h | h
    · exact h
    · rw [List.getElem?_eq_none h] at hk; cases hk
  have hc' : l[k] = c := by rw [List.getElem?_eq_getElem hl] at hk; exact Option.some.inj hk
  unfold tailS
  rw [if_pos (by omega), if_pos (by omega), List.drop_eq_getElem_cons hl, hc', sg_more hc]
theorem tailS_sign {l cur : List UInt8} {k : Nat} (hk : l[k]? = some 47) : tailS l cur k = cur :: tailS l [] (k + 1) := by
  have hl : k < l.length := by
    rcases Nat.lt_or_ge k l.length with h | h
    · exact h
    · rw [List.getElem?_eq_none h] at hk; cases hk
  have hc' : l[k] = 47 := by rw [List.getElem?_eq_getElem hl] at hk; exact Option.some.inj hk
  unfold tailS
  rw [if_pos (by omega), if_pos (by omega), List.drop_eq_getElem_cons hl, hc', sg_sign]
theorem tailS_end (l cur : List UInt8) : tailS l cur l.length = [cur] := by
  unfold tailS
  rw [if_pos (Nat.le_refl _), List.drop_length, sg]
theorem tailS_out (l cur : List UInt8) : tailS l cur (l.length + 1) = [] := by
  unfold tailS
  rw [if_neg (by omega)]
theorem tailS_zero (l : List UInt8) : tailS l [] 0 = sg [] l := by
  unfold tailS
  rw [if_pos (Nat.zero_le _), List.drop_zero]
end Go.Proofs.YtdepgkpfibmbgaaGreatDoor
