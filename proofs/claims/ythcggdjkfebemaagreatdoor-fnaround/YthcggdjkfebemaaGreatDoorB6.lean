/-
  Texts put together: Plain, Names.
-/
import Derived.Test.YthcggdjkfebemaaGreatDoorB5
import Derived.Test.YthcggdjkfebemaaGreatDoorB2
import Derived.Test.YthcggdjkfebemaaGreatDoorChecked
import Derived.WalkKit
import Derived.Below
/-
  Contracts: what the specification's and the program's look for a plain text answer at every text of at most 1048576 bytes; nothing that was there is written.
-/
namespace Go.Proofs.YthcggdjkfebemaaGreatDoor
open Go.RowKit
set_option linter.unusedVariables false
set_option linter.unusedSimpArgs false
def docB (r : Int) : Bool := decide (r = 9 ∨ r = 10 ∨ r = 13 ∨ (32 ≤ r ∧ r ≤ 55295) ∨ (57344 ≤ r ∧ r ≤ 65533) ∨ (65536 ≤ r ∧ r ≤ 1114111))
theorem doc_t {r : Int} (h : r = 9 ∨ r = 10 ∨ r = 13 ∨ (32 ≤ r ∧ r ≤ 55295) ∨ (57344 ≤ r ∧ r ≤ 65533) ∨ (65536 ≤ r ∧ r ≤ 1114111)) : true = docB r := (decide_eq_true h).symm
theorem doc_f {r : Int} (h : ¬ (r = 9 ∨ r = 10 ∨ r = 13 ∨ (32 ≤ r ∧ r ≤ 55295) ∨ (57344 ≤ r ∧ r ≤ 65533) ∨ (65536 ≤ r ∧ r ≤ 1114111))) : false = docB r := (decide_eq_false h).symm
theorem cases_doc (r : Int) : r < 9 ∨ r = 9 ∨ r = 10 ∨ (11 ≤ r ∧ r ≤ 12) ∨ r = 13 ∨ (14 ≤ r ∧ r ≤ 31) ∨ (32 ≤ r ∧ r ≤ 55295) ∨ (55296 ≤ r ∧ r ≤ 57343) ∨ (57344 ≤ r ∧ r ≤ 65533) ∨ (65534 ≤ r ∧ r ≤ 65535) ∨ (65536 ≤ r ∧ r ≤ 1114111) ∨ 1114112 ≤ r := by omega
set_option maxHeartbeats 4000000 in
theorem s_doc (r : Int) (w : World) : Calls Tryz.prog 64 #[.int .i64 r] w fun e w' => e = .returned (.bool (docB r)) ∧ w' = w := by
  rcases cases_doc r with h | h | h | ⟨h, h'⟩ | h | ⟨h, h'⟩ | ⟨h, h'⟩ | ⟨h, h'⟩ | ⟨h, h'⟩ | ⟨h, h'⟩ | ⟨h, h'⟩ | h
  all_goals
    try subst h
    go_enter Tryz.func64, Tryz.ntmps64
    go_wp2
    go_ret
    exact ⟨ret_bool (by first | decide | exact doc_t (by omega) | exact doc_f (by omega) | (rw [Bool.eq_iff_iff]; simp only [docB, Bool.or_eq_true, Bool.and_eq_true, decide_eq_true_eq, beq_iff_eq, true_iff, false_iff, iff_true, iff_false, Bool.false_eq_true]; omega)), rfl⟩
set_option maxHeartbeats 4000000 in
theorem i_doc (r : Int) (w : World) : Calls Tryz.prog 53 #[.int .i64 r] w fun e w' => e = .returned (.bool (docB r)) ∧ w' = w := by
  rcases cases_doc r with h | h | h | ⟨h, h'⟩ | h | ⟨h, h'⟩ | ⟨h, h'⟩ | ⟨h, h'⟩ | ⟨h, h'⟩ | ⟨h, h'⟩ | ⟨h, h'⟩ | h
  all_goals
    try subst h
    go_enter Tryz.func53, Tryz.ntmps53
    go_wp2
    go_ret
    exact ⟨ret_bool (by first | decide | exact doc_t (by omega) | exact doc_f (by omega) | (rw [Bool.eq_iff_iff]; simp only [docB, Bool.or_eq_true, Bool.and_eq_true, decide_eq_true_eq, beq_iff_eq, true_iff, false_iff, iff_true, iff_false, Bool.false_eq_true]; omega)), rfl⟩

/-- Is it a plain text? -/
def plainB (s : ByteArray) : Bool := (rns s).isSome && (outL (rns s)).all docB
theorem plainB_none {s : ByteArray} (h : (rns s).isSome = false) : plainB s = false := by simp [plainB, h]
theorem plainB_bad {s : ByteArray} {L : List Int} {k : Nat} (hL : outL (rns s) = L) (hk : k < L.length) (hb : docB (L[k]?.getD 0) = false) : plainB s = false := by
  have : (outL (rns s)).all docB = false := by
    rw [hL, List.all_eq_false]
    exact ⟨L[k], List.getElem_mem hk, by rw [List.getElem?_eq_getElem hk] at hb; simpa using hb⟩
  simp [plainB, this]
theorem plainB_yes {s : ByteArray} {L : List Int} (hs : (rns s).isSome = true) (hL : outL (rns s) = L) (h : ∀ j, j < L.length → docB (L[j]?.getD 0) = true) : plainB s = true := by
  have : (outL (rns s)).all docB = true := by
    rw [hL, List.all_eq_true]
    intro x hx
    obtain ⟨k, hk, rfl⟩ := List.mem_iff_getElem.1 hx
    have := h k hk
    rw [List.getElem?_eq_getElem hk] at this
    exact this
  simp [plainB, this, hs]
theorem own_rowAt' {w : World} {B n c : Nat} {ad : Option Addr} {e : TypeId} {xs : List Int} (hx : xs.length = n) (h : w.ownsRow B e 1 (.slice ad n c) n (xs.map (Value.int .i64))) : RowAt .i64 w ad xs w.heap.size := by
  intro hne
  rcases h.2 with ⟨hv, h0⟩ | ⟨g, cap, cur, hv, hB, hg, rest⟩
  · exact absurd (List.length_eq_zero_iff.1 (by omega)) hne
  · simp only [Value.slice.injEq] at hv
    obtain ⟨rfl, _, rfl⟩ := hv
    refine ⟨g, 0, rfl, (h.lt g rfl).2, fun j hj => ?_⟩
    rw [Nat.zero_add, h.cellAt j (by omega)]
    simp [List.getElem?_eq_getElem hj]
theorem runesL_len : ∀ (f : Nat) (l : List UInt8), l.length ≤ f → ∀ x, runesL l = some x → x.length ≤ l.length
  | 0, l, hf, x, hx => by
    have : l = [] := List.length_eq_zero_iff.1 (by omega)
    subst this
    rw [runesL_nil] at hx
    cases hx
    exact Nat.le_refl _
  | f + 1, l, hf, x, hx => by
    by_cases h : l = []
    · subst h
      rw [runesL_nil] at hx
      cases hx
      exact Nat.le_refl _
    · by_cases hb : Lib.decodeL l = (65533, 1)
      · rw [runesL_bad h hb] at hx; cases hx
      · have hl : 0 < l.length := List.length_pos_iff.2 h
        have hw := Lib.decodeL_width l
        rw [runesL_step h hb] at hx
        cases hy : runesL (l.drop (Lib.decodeL l).2) with
        | none => rw [hy] at hx; cases hx
        | some y =>
          rw [hy] at hx
          simp at hx
          subst hx
          have := runesL_len f (l.drop (Lib.decodeL l).2) (by rw [List.length_drop]; omega) y hy
          rw [List.length_drop] at this
          simp
          omega
theorem outL_len (s : ByteArray) : (outL (rns s)).length ≤ 20000 := by
  unfold rns
  by_cases h : s.size ≤ 20000
  · rw [if_pos h]
    cases hx : runesL s.data.toList with
    | none => simp [outL]
    | some x =>
      have := runesL_len s.data.toList.length s.data.toList (Nat.le_refl _) x hx
      have e : s.data.toList.length = s.size := Array.length_toList
      rw [e] at this
      show x.length ≤ 20000
      omega
  · rw [if_neg h]; simp [outL]
theorem s_runes_lb (s : ByteArray) (L : List Int) (b : Bool) (w : World) (hs : s.size ≤ 1048576) (hL : outL (rns s) = L) (hb : (rns s).isSome = b) :
    Calls Tryz.prog 63 #[.string s] w fun e w' => ∃ ad c, e = .returned (.tuple #[.slice ad L.length c, .bool b]) ∧ w'.ownsRow w.heap.size 2 1 (.slice ad L.length c) L.length (L.map (Value.int .i64)) ∧ Below w.heap.size w w' := by
  subst hL; subst hb; exact s_runes s w hs
theorem i_runes_lb (s : ByteArray) (L : List Int) (b : Bool) (w : World) (hs : s.size ≤ 1048576) (hT : Tabs w) (hL : outL (rns s) = L) (hb : (rns s).isSome = b) :
    Calls Tryz.prog 52 #[.string s] w fun e w' => ∃ ad c, e = .returned (.tuple #[.slice ad L.length c, .bool b]) ∧ w'.ownsRow w.heap.size 2 1 (.slice ad L.length c) L.length (L.map (Value.int .i64)) ∧ Below w.heap.size w w' := by
  subst hL; subst hb; exact i_runes s w hs hT

set_option maxHeartbeats 1000000 in
theorem s_text (s : ByteArray) (w : World) (hs : s.size ≤ 1048576) :
    Calls Tryz.prog 32 #[.string s] w fun e w' => e = .returned (.bool (plainB s)) ∧ Below w.heap.size w w' := by
  have hlen := outL_len s
  obtain ⟨L, hL⟩ : ∃ L, outL (rns s) = L := ⟨_, rfl⟩
  rw [hL] at hlen
  have HL := hide hL
  clear hL
  cases hb : (rns s).isSome
  · have HB := hide hb
    clear hb
    go_enter Tryz.func32, Tryz.ntmps32
    go_wp2_with fail
    refine (s_runes_lb s L false _ hs HL.out HB.out).mono ?_
    rintro e wA ⟨ad, c, rfl, ho, hbA⟩
    go_wp2
    go_ret
    exact ⟨ret_bool (plainB_none HB.out).symm, hbA⟩
  · have HB := hide hb
    clear hb
    go_enter Tryz.func32, Tryz.ntmps32
    go_wp2_with fail
    refine (s_runes_lb s L true _ hs HL.out HB.out).mono ?_
    rintro e wA ⟨ad, c, rfl, ho, hbA⟩
    have HR := hide (own_rowAt' rfl ho)
    have HA := hide hbA
    clear ho hbA
    go_wp2
    go_loop [5] (fun i => ∃ k : Nat, k ≤ L.length ∧ i = .int .i64 k ∧ ∀ j, j < k → docB (L[j]?.getD 0) = true) (fun i => L.length - (intOf i).toNat)
    case atStart => exact ⟨0, Nat.zero_le _, rfl, fun j h => by omega⟩
    case round =>
      obtain ⟨k, hk, rfl, hj⟩ := hrel
      have HJ := hide hj
      clear hj
      by_cases hlt : k < L.length
      · obtain ⟨b, off, rfl, hbs, hc⟩ := rowAt_cell HR.out k hlt
        have hc1 := hc k hlt
        obtain ⟨r, hr⟩ : ∃ r, L[k]?.getD 0 = r := ⟨_, rfl⟩
        rw [hr] at hc1
        have HRr := hide hr
        clear hr hc
        cases hd : docB r
        · go_wp2_with (go_at_call 64; refine (s_doc _ _).mono ?_; rintro e w' ⟨rfl, rfl⟩)
          go_ret
          exact ⟨ret_bool (plainB_bad HL.out hlt (by rw [HRr.out]; exact hd)).symm, HA.out⟩
        · go_wp2_with (go_at_call 64; refine (s_doc _ _).mono ?_; rintro e w' ⟨rfl, rfl⟩)
          go_round
          case rel =>
            refine ⟨k + 1, by omega, by go_num, fun j h => ?_⟩
            by_cases e : j = k
            · subst e; rw [HRr.out]; exact hd
            · exact HJ.out j (by omega)
          case measure => simp [intOf]; omega
      · go_wp2
        go_ret
        exact ⟨ret_bool (plainB_yes HB.out HL.out (fun j h => HJ.out j (by omega))).symm, HA.out⟩

set_option maxHeartbeats 1000000 in
theorem i_plain (s : ByteArray) (w : World) (hs : s.size ≤ 1048576) (hT : Tabs w) :
    Calls Tryz.prog 27 #[.string s] w fun e w' => e = .returned (.bool (plainB s)) ∧ Below w.heap.size w w' := by
  have hlen := outL_len s
  obtain ⟨L, hL⟩ : ∃ L, outL (rns s) = L := ⟨_, rfl⟩
  rw [hL] at hlen
  have HL := hide hL
  clear hL
  cases hb : (rns s).isSome
  · have HB := hide hb
    clear hb
    go_enter Tryz.func27, Tryz.ntmps27
    go_wp2_with fail
    refine (i_runes_lb s L false _ hs hT HL.out HB.out).mono ?_
    rintro e wA ⟨ad, c, rfl, ho, hbA⟩
    go_wp2
    go_ret
    exact ⟨ret_bool (plainB_none HB.out).symm, hbA⟩
  · have HB := hide hb
    clear hb
    go_enter Tryz.func27, Tryz.ntmps27
    go_wp2_with fail
    refine (i_runes_lb s L true _ hs hT HL.out HB.out).mono ?_
    rintro e wA ⟨ad, c, rfl, ho, hbA⟩
    have HR := hide (own_rowAt' rfl ho)
    have HA := hide hbA
    clear ho hbA
    go_wp2
    go_loop [16] (fun i => ∃ k : Nat, k ≤ L.length ∧ i = .int .i64 k ∧ ∀ j, j < k → docB (L[j]?.getD 0) = true) (fun i => L.length - (intOf i).toNat)
    case atStart => exact ⟨0, Nat.zero_le _, rfl, fun j h => by omega⟩
    case round =>
      obtain ⟨k, hk, rfl, hj⟩ := hrel
      have HJ := hide hj
      clear hj
      by_cases hlt : k < L.length
      · obtain ⟨b, off, rfl, hbs, hc⟩ := rowAt_cell HR.out k hlt
        have hc1 := hc k hlt
        obtain ⟨r, hr⟩ : ∃ r, L[k]?.getD 0 = r := ⟨_, rfl⟩
        rw [hr] at hc1
        have HRr := hide hr
        clear hr hc
        cases hd : docB r
        · go_wp2_with (go_at_call 53; refine (i_doc _ _).mono ?_; rintro e w' ⟨rfl, rfl⟩)
          go_ret
          exact ⟨ret_bool (plainB_bad HL.out hlt (by rw [HRr.out]; exact hd)).symm, HA.out⟩
        · go_wp2_with (go_at_call 53; refine (i_doc _ _).mono ?_; rintro e w' ⟨rfl, rfl⟩)
          go_round
          case rel =>
            refine ⟨k + 1, by omega, by go_num, fun j h => ?_⟩
            by_cases e : j = k
            · subst e; rw [HRr.out]; exact hd
            · exact HJ.out j (by omega)
          case measure => simp [intOf]; omega
      · go_wp2
        go_ret
        exact ⟨ret_bool (plainB_yes HB.out HL.out (fun j h => HJ.out j (by omega))).symm, HA.out⟩
end Go.Proofs.YthcggdjkfebemaaGreatDoor

/-
  Contracts: what the specification's and the program's NameOk and their helpers answer at every byte and every string of at most maxLen bytes; the world is as it was.
-/
namespace Go.Proofs.YthcggdjkfebemaaGreatDoor
open Go.RowKit
set_option linter.unusedSimpArgs false
theorem cases_digit (c : Int) : c ≤ 47 ∨ (48 ≤ c ∧ c ≤ 57) ∨ 58 ≤ c := by omega
set_option linter.unusedVariables false

theorem cases_byte (c : Int) : c ≤ 44 ∨ c = 45 ∨ c = 46 ∨ c = 47 ∨ (48 ≤ c ∧ c ≤ 57) ∨ (58 ≤ c ∧ c ≤ 64) ∨ (65 ≤ c ∧ c ≤ 90) ∨ (91 ≤ c ∧ c ≤ 94) ∨ c = 95 ∨ c = 96 ∨ (97 ≤ c ∧ c ≤ 122) ∨ 123 ≤ c := by omega
theorem cases_first (c : Int) : c ≤ 64 ∨ (65 ≤ c ∧ c ≤ 90) ∨ (91 ≤ c ∧ c ≤ 94) ∨ c = 95 ∨ c = 96 ∨ (97 ≤ c ∧ c ≤ 122) ∨ 123 ≤ c := by omega

set_option maxHeartbeats 2000000 in
theorem s_first (c : Int) (w : World) : Calls Tryz.prog 112 #[.int .u8 c] w fun e w' => e = .returned (.bool (firstB c)) ∧ w' = w := by
  rcases cases_first c with h | ⟨h, h'⟩ | ⟨h, h'⟩ | h | h | ⟨h, h'⟩ | h
  all_goals
    try subst h
    go_enter Tryz.func112, Tryz.ntmps112
    go_wp2
    go_ret
    exact ⟨ret_bool (by first | decide | (rw [Bool.eq_iff_iff]; simp only [firstB, Bool.or_eq_true, Bool.and_eq_true, decide_eq_true_eq, beq_iff_eq, true_iff, false_iff, iff_true, iff_false, Bool.false_eq_true]; omega)), rfl⟩
set_option maxHeartbeats 2000000 in
theorem i_first (c : Int) (w : World) : Calls Tryz.prog 116 #[.int .u8 c] w fun e w' => e = .returned (.bool (firstB c)) ∧ w' = w := by
  rcases cases_first c with h | ⟨h, h'⟩ | ⟨h, h'⟩ | h | h | ⟨h, h'⟩ | h
  all_goals
    try subst h
    go_enter Tryz.func116, Tryz.ntmps116
    go_wp2
    go_ret
    exact ⟨ret_bool (by first | decide | (rw [Bool.eq_iff_iff]; simp only [firstB, Bool.or_eq_true, Bool.and_eq_true, decide_eq_true_eq, beq_iff_eq, true_iff, false_iff, iff_true, iff_false, Bool.false_eq_true]; omega)), rfl⟩
set_option maxHeartbeats 2000000 in
theorem s_digit (c : Int) (w : World) : Calls Tryz.prog 113 #[.int .u8 c] w fun e w' => e = .returned (.bool (digitB c)) ∧ w' = w := by
  rcases cases_digit c with h | ⟨h, h'⟩ | h
  all_goals
    try subst h
    go_enter Tryz.func113, Tryz.ntmps113
    go_wp2
    go_ret
    exact ⟨ret_bool (by first | decide | (rw [Bool.eq_iff_iff]; simp only [digitB, Bool.or_eq_true, Bool.and_eq_true, decide_eq_true_eq, beq_iff_eq, true_iff, false_iff, iff_true, iff_false, Bool.false_eq_true]; omega)), rfl⟩
set_option maxHeartbeats 2000000 in
theorem s_more (c : Int) (w : World) : Calls Tryz.prog 90 #[.int .u8 c] w fun e w' => e = .returned (.bool (moreB c)) ∧ w' = w := by
  rcases cases_byte c with h | h | h | h | ⟨h, h'⟩ | ⟨h, h'⟩ | ⟨h, h'⟩ | ⟨h, h'⟩ | h | h | ⟨h, h'⟩ | h
  all_goals
    try subst h
    go_enter Tryz.func90, Tryz.ntmps90
    go_wp2
    go_ret
    exact ⟨ret_bool (by first | decide | (rw [Bool.eq_iff_iff]; simp only [moreB, Bool.or_eq_true, Bool.and_eq_true, decide_eq_true_eq, beq_iff_eq, true_iff, false_iff, iff_true, iff_false, Bool.false_eq_true]; omega)), rfl⟩
set_option maxHeartbeats 2000000 in
theorem i_more (c : Int) (w : World) : Calls Tryz.prog 104 #[.int .u8 c] w fun e w' => e = .returned (.bool (moreB c)) ∧ w' = w := by
  rcases cases_byte c with h | h | h | h | ⟨h, h'⟩ | ⟨h, h'⟩ | ⟨h, h'⟩ | ⟨h, h'⟩ | h | h | ⟨h, h'⟩ | h
  all_goals
    try subst h
    go_enter Tryz.func104, Tryz.ntmps104
    go_wp2
    go_ret
    exact ⟨ret_bool (by first | decide | (rw [Bool.eq_iff_iff]; simp only [moreB, Bool.or_eq_true, Bool.and_eq_true, decide_eq_true_eq, beq_iff_eq, true_iff, false_iff, iff_true, iff_false, Bool.false_eq_true]; omega)), rfl⟩
set_option maxHeartbeats 1000000 in
theorem s_name (s : ByteArray) (w : World) (hs : s.size ≤ maxLen) : Calls Tryz.prog 93 #[.string s] w fun e w' => e = .returned (.bool (nameB s)) ∧ w' = w := by
  unfold maxLen at hs
  by_cases h0 : s.size = 0
  · go_enter Tryz.func93, Tryz.ntmps93
    go_wp2
    go_ret
    exact ⟨ret_bool (nameB_none s h0).symm, rfl⟩
  · by_cases h40 : 40 < s.size
    · go_enter Tryz.func93, Tryz.ntmps93
      go_wp2
      go_ret
      exact ⟨ret_bool (nameB_long s h40).symm, rfl⟩
    · have hp : 0 < s.size := by omega
      cases hf : firstB (s[0].toNat : Int)
      · go_enter Tryz.func93, Tryz.ntmps93
        go_wp2_with (go_at_call 112; refine (s_first _ _).mono ?_; rintro e w' ⟨rfl, rfl⟩)
        go_ret
        exact ⟨ret_bool (nameB_first s hp hf).symm, rfl⟩
      · go_enter Tryz.func93, Tryz.ntmps93
        go_wp2_with (go_at_call 112; refine (s_first _ _).mono ?_; rintro e w' ⟨rfl, rfl⟩)
        go_loop [3] (fun i => ∃ k : Nat, 1 ≤ k ∧ k ≤ s.size ∧ i = .int .i64 k ∧ ∀ j (h : j < s.size), 1 ≤ j → j < k → moreB (s[j].toNat : Int) = true) (fun i => s.size - (intOf i).toNat)
        case atStart => exact ⟨1, by omega, by omega, rfl, fun j h a b => by omega⟩
        case round =>
          obtain ⟨k, h1, hk, rfl, hm⟩ := hrel
          have HM : Hid (∀ j (h : j < s.size), 1 ≤ j → j < k → moreB (s[j].toNat : Int) = true) := hm
          clear hm
          by_cases hlt : k < s.size
          · cases hb : moreB (s[k].toNat : Int)
            · go_wp2_with (go_at_call 90; refine (s_more _ _).mono ?_; rintro e w' ⟨rfl, rfl⟩)
              go_ret
              exact ⟨ret_bool (nameB_more s k h1 hlt hb).symm, rfl⟩
            · go_wp2_with (go_at_call 90; refine (s_more _ _).mono ?_; rintro e w' ⟨rfl, rfl⟩)
              go_round
              case rel =>
                refine ⟨k + 1, by omega, by omega, by go_num, fun j h a b => ?_⟩
                by_cases e : j = k
                · subst e; exact hb
                · exact HM.out j h a (by omega)
              case measure => simp [intOf]; omega
          · go_wp2
            go_ret
            exact ⟨ret_bool (nameB_yes s hp (by omega) hf (fun j h a => HM.out j h a (by omega))).symm, rfl⟩
set_option maxHeartbeats 1000000 in
theorem i_name (s : ByteArray) (w : World) (hs : s.size ≤ maxLen) : Calls Tryz.prog 95 #[.string s] w fun e w' => e = .returned (.bool (nameB s)) ∧ w' = w := by
  unfold maxLen at hs
  by_cases h0 : s.size = 0
  · go_enter Tryz.func95, Tryz.ntmps95
    go_wp2
    go_ret
    exact ⟨ret_bool (nameB_none s h0).symm, rfl⟩
  · by_cases h40 : 40 < s.size
    · go_enter Tryz.func95, Tryz.ntmps95
      go_wp2
      go_ret
      exact ⟨ret_bool (nameB_long s h40).symm, rfl⟩
    · have hp : 0 < s.size := by omega
      cases hf : firstB (s[0].toNat : Int)
      · go_enter Tryz.func95, Tryz.ntmps95
        go_wp2_with (go_at_call 116; refine (i_first _ _).mono ?_; rintro e w' ⟨rfl, rfl⟩)
        go_ret
        exact ⟨ret_bool (nameB_first s hp hf).symm, rfl⟩
      · go_enter Tryz.func95, Tryz.ntmps95
        go_wp2_with (go_at_call 116; refine (i_first _ _).mono ?_; rintro e w' ⟨rfl, rfl⟩)
        go_loop [3] (fun i => ∃ k : Nat, 1 ≤ k ∧ k ≤ s.size ∧ i = .int .i64 k ∧ ∀ j (h : j < s.size), 1 ≤ j → j < k → moreB (s[j].toNat : Int) = true) (fun i => s.size - (intOf i).toNat)
        case atStart => exact ⟨1, by omega, by omega, rfl, fun j h a b => by omega⟩
        case round =>
          obtain ⟨k, h1, hk, rfl, hm⟩ := hrel
          have HM : Hid (∀ j (h : j < s.size), 1 ≤ j → j < k → moreB (s[j].toNat : Int) = true) := hm
          clear hm
          by_cases hlt : k < s.size
          · cases hb : moreB (s[k].toNat : Int)
            · go_wp2_with (go_at_call 104; refine (i_more _ _).mono ?_; rintro e w' ⟨rfl, rfl⟩)
              go_ret
              exact ⟨ret_bool (nameB_more s k h1 hlt hb).symm, rfl⟩
            · go_wp2_with (go_at_call 104; refine (i_more _ _).mono ?_; rintro e w' ⟨rfl, rfl⟩)
              go_round
              case rel =>
                refine ⟨k + 1, by omega, by omega, by go_num, fun j h a b => ?_⟩
                by_cases e : j = k
                · subst e; exact hb
                · exact HM.out j h a (by omega)
              case measure => simp [intOf]; omega
          · go_wp2
            go_ret
            exact ⟨ret_bool (nameB_yes s hp (by omega) hf (fun j h a => HM.out j h a (by omega))).symm, rfl⟩
end Go.Proofs.YthcggdjkfebemaaGreatDoor
