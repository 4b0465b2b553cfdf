/-
  Texts put together: Plain, Split.
-/
import Derived.Test.YtfbahffljhnjbaaGreatDoorD15
import Derived.Test.YtfbahffljhnjbaaGreatDoorD5
import Derived.Test.YtfbahffljhnjbaaGreatDoorD7
import Derived.WalkKit
import Derived.Below
import Derived.RegionTactic
import Derived.ChangeAlike
import Derived.Lib.Walk
import Derived.Lib.Strings
import Derived.Lib.Bytealg
import Derived.Lib.IndexLaws
import Derived.Deep.Draws
import Derived.Laws.Strings3
import Derived.BigCall
import Derived.BigGuard
/-
  Contracts: what the specification's and the program's look for a plain text answer at every text of at most 1048576 bytes; nothing that was there is written.
-/
namespace Go.Proofs.YtfbahffljhnjbaaGreatDoor
open Go.RowKit
set_option linter.unusedVariables false
set_option linter.unusedSimpArgs false
def docB (r : Int) : Bool := decide (r = 9 ∨ r = 10 ∨ r = 13 ∨ (32 ≤ r ∧ r ≤ 55295) ∨ (57344 ≤ r ∧ r ≤ 65533) ∨ (65536 ≤ r ∧ r ≤ 1114111))
theorem doc_t {r : Int} (h : r = 9 ∨ r = 10 ∨ r = 13 ∨ (32 ≤ r ∧ r ≤ 55295) ∨ (57344 ≤ r ∧ r ≤ 65533) ∨ (65536 ≤ r ∧ r ≤ 1114111)) : true = docB r := (decide_eq_true h).symm
theorem doc_f {r : Int} (h : ¬ (r = 9 ∨ r = 10 ∨ r = 13 ∨ (32 ≤ r ∧ r ≤ 55295) ∨ (57344 ≤ r ∧ r ≤ 65533) ∨ (65536 ≤ r ∧ r ≤ 1114111))) : false = docB r := (decide_eq_false h).symm
theorem cases_doc (r : Int) : r < 9 ∨ r = 9 ∨ r = 10 ∨ (11 ≤ r ∧ r ≤ 12) ∨ r = 13 ∨ (14 ≤ r ∧ r ≤ 31) ∨ (32 ≤ r ∧ r ≤ 55295) ∨ (55296 ≤ r ∧ r ≤ 57343) ∨ (57344 ≤ r ∧ r ≤ 65533) ∨ (65534 ≤ r ∧ r ≤ 65535) ∨ (65536 ≤ r ∧ r ≤ 1114111) ∨ 1114112 ≤ r := by omega
set_option maxHeartbeats 4000000 in
theorem s_doc (r : Int) (w : World) : Calls Tryz.prog 90 #[.int .i64 r] w fun e w' => e = .returned (.bool (docB r)) ∧ w' = w := by
  rcases cases_doc r with h | h | h | ⟨h, h'⟩ | h | ⟨h, h'⟩ | ⟨h, h'⟩ | ⟨h, h'⟩ | ⟨h, h'⟩ | ⟨h, h'⟩ | ⟨h, h'⟩ | h
  all_goals
    try subst h
    go_enter Tryz.func90, Tryz.ntmps90
    go_wp2
    go_ret
    exact ⟨ret_bool (by first | decide | exact doc_t (by omega) | exact doc_f (by omega) | (rw [Bool.eq_iff_iff]; simp only [docB, Bool.or_eq_true, Bool.and_eq_true, decide_eq_true_eq, beq_iff_eq, true_iff, false_iff, iff_true, iff_false, Bool.false_eq_true]; omega)), rfl⟩
set_option maxHeartbeats 4000000 in
theorem i_doc (r : Int) (w : World) : Calls Tryz.prog 140 #[.int .i64 r] w fun e w' => e = .returned (.bool (docB r)) ∧ w' = w := by
  rcases cases_doc r with h | h | h | ⟨h, h'⟩ | h | ⟨h, h'⟩ | ⟨h, h'⟩ | ⟨h, h'⟩ | ⟨h, h'⟩ | ⟨h, h'⟩ | ⟨h, h'⟩ | h
  all_goals
    try subst h
    go_enter Tryz.func140, Tryz.ntmps140
    go_wp2
    go_ret
    exact ⟨ret_bool (by first | decide | exact doc_t (by omega) | exact doc_f (by omega) | (rw [Bool.eq_iff_iff]; simp only [docB, Bool.or_eq_true, Bool.and_eq_true, decide_eq_true_eq, beq_iff_eq, true_iff, false_iff, iff_true, iff_false, Bool.false_eq_true]; omega)), rfl⟩

/-- Is it a plain text? -/
def plainB (s : ByteArray) : Bool := (rns s).isSome && (outL (rns s)).all docB
theorem plainB_none {s : ByteArray} (h : (rns s).isSome = false) : plainB s = false := by simp [plainB, h]
theorem plainB_bad {s : ByteArray} {L : List Int} {k : Nat} (hL : outL (rns s) = L) (hk : k < L.length) (hb : docB (L[k]?.getD 0) = false) : plainB s = false := by
  have : (outL (rns s)).all docB = false := by
    rw [hL, List.all_eq_false]
    exact ⟨L[k], List.getElem_mem hk, by rw [List.getElem?_eq_getElem hk] at hb; simpa using hb⟩
  simp [plainB, this]
theorem plainB_yes {s : ByteArray} {L : List Int} (hs : (rns s).isSome = true) (hL : outL (rns s) = L) (h : ∀ j, j < L.length → docB (L[j]?.getD 0) = true) : plainB s = true := by
  have : (outL (rns s)).all docB = true := by
    rw [hL, List.all_eq_true]
    intro x hx
    obtain ⟨k, hk, rfl⟩ := List.mem_iff_getElem.1 hx
    have := h k hk
    rw [List.getElem?_eq_getElem hk] at this
    exact this
  simp [plainB, this, hs]
theorem own_rowAt' {w : World} {B n c : Nat} {ad : Option Addr} {e : TypeId} {xs : List Int} (hx : xs.length = n) (h : w.ownsRow B e 1 (.slice ad n c) n (xs.map (Value.int .i64))) : RowAt .i64 w ad xs w.heap.size := by
  intro hne
  rcases h.2 with ⟨hv, h0⟩ | ⟨g, cap, cur, hv, hB, hg, rest⟩
  · exact absurd (List.length_eq_zero_iff.1 (by omega)) hne
  · simp only [Value.slice.injEq] at hv
    obtain ⟨rfl, _, rfl⟩ := hv
    refine ⟨g, 0, rfl, (h.lt g rfl).2, fun j hj => ?_⟩
    rw [Nat.zero_add, h.cellAt j (by omega)]
    simp [List.getElem?_eq_getElem hj]
theorem runesL_len : ∀ (f : Nat) (l : List UInt8), l.length ≤ f → ∀ x, runesL l = some x → x.length ≤ l.length
  | 0, l, hf, x, hx => by
    have : l = [] := List.length_eq_zero_iff.1 (by omega)
    subst this
    rw [runesL_nil] at hx
    cases hx
    exact Nat.le_refl _
  | f + 1, l, hf, x, hx => by
    by_cases h : l = []
    · subst h
      rw [runesL_nil] at hx
      cases hx
      exact Nat.le_refl _
    · by_cases hb : Lib.decodeL l = (65533, 1)
      · rw [runesL_bad h hb] at hx; cases hx
      · have hl : 0 < l.length := List.length_pos_iff.2 h
        have hw := Lib.decodeL_width l
        rw [runesL_step h hb] at hx
        cases hy : runesL (l.drop (Lib.decodeL l).2) with
        | none => rw [hy] at hx; cases hx
        | some y =>
          rw [hy] at hx
          simp at hx
          subst hx
          have := runesL_len f (l.drop (Lib.decodeL l).2) (by rw [List.length_drop]; omega) y hy
          rw [List.length_drop] at this
          simp
          omega
theorem outL_len (s : ByteArray) : (outL (rns s)).length ≤ 20000 := by
  unfold rns
  by_cases h : s.size ≤ 20000
  · rw [if_pos h]
    cases hx : runesL s.data.toList with
    | none => simp [outL]
    | some x =>
      have := runesL_len s.data.toList.length s.data.toList (Nat.le_refl _) x hx
      have e : s.data.toList.length = s.size := Array.length_toList
      rw [e] at this
      show x.length ≤ 20000
      omega
  · rw [if_neg h]; simp [outL]
theorem s_runes_lb (s : ByteArray) (L : List Int) (b : Bool) (w : World) (hs : s.size ≤ 1048576) (hL : outL (rns s) = L) (hb : (rns s).isSome = b) :
    Calls Tryz.prog 89 #[.string s] w fun e w' => ∃ ad c, e = .returned (.tuple #[.slice ad L.length c, .bool b]) ∧ w'.ownsRow w.heap.size 2 1 (.slice ad L.length c) L.length (L.map (Value.int .i64)) ∧ Below w.heap.size w w' := by
  subst hL; subst hb; exact s_runes s w hs
theorem i_runes_lb (s : ByteArray) (L : List Int) (b : Bool) (w : World) (hs : s.size ≤ 1048576) (hT : Tabs w) (hL : outL (rns s) = L) (hb : (rns s).isSome = b) :
    Calls Tryz.prog 139 #[.string s] w fun e w' => ∃ ad c, e = .returned (.tuple #[.slice ad L.length c, .bool b]) ∧ w'.ownsRow w.heap.size 2 1 (.slice ad L.length c) L.length (L.map (Value.int .i64)) ∧ Below w.heap.size w w' := by
  subst hL; subst hb; exact i_runes s w hs hT

set_option maxHeartbeats 1000000 in
theorem s_text (s : ByteArray) (w : World) (hs : s.size ≤ 1048576) :
    Calls Tryz.prog 59 #[.string s] w fun e w' => e = .returned (.bool (plainB s)) ∧ Below w.heap.size w w' := by
  have hlen := outL_len s
  obtain ⟨L, hL⟩ : ∃ L, outL (rns s) = L := ⟨_, rfl⟩
  rw [hL] at hlen
  have HL := hide hL
  clear hL
  cases hb : (rns s).isSome
  · have HB := hide hb
    clear hb
    go_enter Tryz.func59, Tryz.ntmps59
    go_wp2_with fail
    refine (s_runes_lb s L false _ hs HL.out HB.out).mono ?_
    rintro e wA ⟨ad, c, rfl, ho, hbA⟩
    go_wp2
    go_ret
    exact ⟨ret_bool (plainB_none HB.out).symm, hbA⟩
  · have HB := hide hb
    clear hb
    go_enter Tryz.func59, Tryz.ntmps59
    go_wp2_with fail
    refine (s_runes_lb s L true _ hs HL.out HB.out).mono ?_
    rintro e wA ⟨ad, c, rfl, ho, hbA⟩
    have HR := hide (own_rowAt' rfl ho)
    have HA := hide hbA
    clear ho hbA
    go_wp2
    go_loop [5] (fun i => ∃ k : Nat, k ≤ L.length ∧ i = .int .i64 k ∧ ∀ j, j < k → docB (L[j]?.getD 0) = true) (fun i => L.length - (intOf i).toNat)
    case atStart => exact ⟨0, Nat.zero_le _, rfl, fun j h => by omega⟩
    case round =>
      obtain ⟨k, hk, rfl, hj⟩ := hrel
      have HJ := hide hj
      clear hj
      by_cases hlt : k < L.length
      · obtain ⟨b, off, rfl, hbs, hc⟩ := rowAt_cell HR.out k hlt
        have hc1 := hc k hlt
        obtain ⟨r, hr⟩ : ∃ r, L[k]?.getD 0 = r := ⟨_, rfl⟩
        rw [hr] at hc1
        have HRr := hide hr
        clear hr hc
        cases hd : docB r
        · go_wp2_with (go_at_call 90; refine (s_doc _ _).mono ?_; rintro e w' ⟨rfl, rfl⟩)
          go_ret
          exact ⟨ret_bool (plainB_bad HL.out hlt (by rw [HRr.out]; exact hd)).symm, HA.out⟩
        · go_wp2_with (go_at_call 90; refine (s_doc _ _).mono ?_; rintro e w' ⟨rfl, rfl⟩)
          go_round
          case rel =>
            refine ⟨k + 1, by omega, by go_num, fun j h => ?_⟩
            by_cases e : j = k
            · subst e; rw [HRr.out]; exact hd
            · exact HJ.out j (by omega)
          case measure => simp [intOf]; omega
      · go_wp2
        go_ret
        exact ⟨ret_bool (plainB_yes HB.out HL.out (fun j h => HJ.out j (by omega))).symm, HA.out⟩

set_option maxHeartbeats 1000000 in
theorem i_plain (s : ByteArray) (w : World) (hs : s.size ≤ 1048576) (hT : Tabs w) :
    Calls Tryz.prog 117 #[.string s] w fun e w' => e = .returned (.bool (plainB s)) ∧ Below w.heap.size w w' := by
  have hlen := outL_len s
  obtain ⟨L, hL⟩ : ∃ L, outL (rns s) = L := ⟨_, rfl⟩
  rw [hL] at hlen
  have HL := hide hL
  clear hL
  cases hb : (rns s).isSome
  · have HB := hide hb
    clear hb
    go_enter Tryz.func117, Tryz.ntmps117
    go_wp2_with fail
    refine (i_runes_lb s L false _ hs hT HL.out HB.out).mono ?_
    rintro e wA ⟨ad, c, rfl, ho, hbA⟩
    go_wp2
    go_ret
    exact ⟨ret_bool (plainB_none HB.out).symm, hbA⟩
  · have HB := hide hb
    clear hb
    go_enter Tryz.func117, Tryz.ntmps117
    go_wp2_with fail
    refine (i_runes_lb s L true _ hs hT HL.out HB.out).mono ?_
    rintro e wA ⟨ad, c, rfl, ho, hbA⟩
    have HR := hide (own_rowAt' rfl ho)
    have HA := hide hbA
    clear ho hbA
    go_wp2
    go_loop [16] (fun i => ∃ k : Nat, k ≤ L.length ∧ i = .int .i64 k ∧ ∀ j, j < k → docB (L[j]?.getD 0) = true) (fun i => L.length - (intOf i).toNat)
    case atStart => exact ⟨0, Nat.zero_le _, rfl, fun j h => by omega⟩
    case round =>
      obtain ⟨k, hk, rfl, hj⟩ := hrel
      have HJ := hide hj
      clear hj
      by_cases hlt : k < L.length
      · obtain ⟨b, off, rfl, hbs, hc⟩ := rowAt_cell HR.out k hlt
        have hc1 := hc k hlt
        obtain ⟨r, hr⟩ : ∃ r, L[k]?.getD 0 = r := ⟨_, rfl⟩
        rw [hr] at hc1
        have HRr := hide hr
        clear hr hc
        cases hd : docB r
        · go_wp2_with (go_at_call 140; refine (i_doc _ _).mono ?_; rintro e w' ⟨rfl, rfl⟩)
          go_ret
          exact ⟨ret_bool (plainB_bad HL.out hlt (by rw [HRr.out]; exact hd)).symm, HA.out⟩
        · go_wp2_with (go_at_call 140; refine (i_doc _ _).mono ?_; rintro e w' ⟨rfl, rfl⟩)
          go_round
          case rel =>
            refine ⟨k + 1, by omega, by go_num, fun j h => ?_⟩
            by_cases e : j = k
            · subst e; rw [HRr.out]; exact hd
            · exact HJ.out j (by omega)
          case measure => simp [intOf]; omega
      · go_wp2
        go_ret
        exact ⟨ret_bool (plainB_yes HB.out HL.out (fun j h => HJ.out j (by omega))).symm, HA.out⟩
end Go.Proofs.YtfbahffljhnjbaaGreatDoor

/-
  Contracts: what the specification's and the program's Split answer, by where the first colon of the text stands; the world is as it was but for the count of draws.
-/
namespace Go.Proofs.YtfbahffljhnjbaaGreatDoor
open Go.RowKit
set_option linter.unusedVariables false
set_option linter.unusedSimpArgs false

/-- Where the first colon stands; -1: there is none. -/
def colon (s : ByteArray) : Int := Lib.indexByte s.data.toList 58
theorem colon_cases (s : ByteArray) : colon s = -1 ∨ ∃ k : Nat, colon s = k ∧ k < s.size := by
  by_cases h : colon s = -1
  · exact .inl h
  · right
    have := Lib.indexByte_ge s.data.toList 58
    refine ⟨(colon s).toNat, by unfold colon at *; omega, ?_⟩
    have e : Lib.indexByte s.data.toList 58 = ((colon s).toNat : Int) := by unfold colon at *; omega
    have h2 := (Lib.indexByte_some e).1
    have h3 : (colon s).toNat < s.data.toList.length := by
      rcases Nat.lt_or_ge (colon s).toNat s.data.toList.length with h4 | h4
      · exact h4
      · rw [List.getElem?_eq_none h4] at h2; simp at h2
    simpa using h3
theorem byte_at (s : ByteArray) (k : Nat) (h : k < s.size) : s.data.toList[k]? = some s[k] := by
  have h' : k < s.data.toList.length := by simpa using h
  rw [List.getElem?_eq_getElem h']; rfl
theorem byte_ne (b : UInt8) (h : b ≠ 58) : ((b.toNat : Int) == 58) = false := by
  have : b.toNat ≠ 58 := fun e => h (UInt8.toNat_inj.1 e)
  simp; omega
theorem colon_none {s : ByteArray} (h : colon s = -1) (k : Nat) (hk : k < s.size) : ((s[k].toNat : Int) == 58) = false := by
  apply byte_ne; intro e
  exact Lib.indexByte_none h k (by rw [byte_at s k hk, e])
theorem colon_hit {s : ByteArray} {o : Nat} (h : colon s = o) (ho : o < s.size) : ((s[o].toNat : Int) == 58) = true := by
  have := (Lib.indexByte_some h).1
  rw [byte_at s o ho] at this
  have e : s[o] = 58 := by simpa using this
  rw [e]; rfl
theorem colon_less {s : ByteArray} {o : Nat} (h : colon s = o) (k : Nat) (hk : k < o) (hs : k < s.size) : ((s[k].toNat : Int) == 58) = false := by
  apply byte_ne; intro e
  exact (Lib.indexByte_some h).2 k hk (by rw [byte_at s k hs, e])

def noText : ByteArray := ⟨#[]⟩

set_option maxHeartbeats 1000000 in
theorem i_cut_none (s : ByteArray) (w : World) (hs : s.size ≤ 1048576) (hc : colon s = -1) :
    Calls Tryz.prog 98 #[.string s, .string ⟨#[58]⟩] w fun e w' => e = (.returned (.tuple #[.string s, .string ⟨#[]⟩, .bool false]) : Ending) ∧ ∃ n, w' = w.drewN n := by
  have HC : Hid (colon s = -1) := hc
  clear hc
  go_enter Tryz.func98, Tryz.ntmps98
  go_wp2_with (go_at_call 124; refine (Tryz.stringslite_Index_one _ _ _).mono ?_; rintro e w' ⟨rfl, rfl⟩; rw [show Lib.indexByte s.data.toList 58 = _ from HC.out])
  go_ret3
  exact ⟨rfl, 0, rfl⟩

set_option maxHeartbeats 1000000 in
theorem i_cut_some (s : ByteArray) (k : Nat) (w : World) (hs : s.size ≤ 1048576) (hc : colon s = k) (hk : k < s.size) :
    Calls Tryz.prog 98 #[.string s, .string ⟨#[58]⟩] w fun e w' => e = (.returned (.tuple #[.string (s.extract 0 k), .string (s.extract (k + 1) s.size), .bool true]) : Ending) ∧ ∃ n, w' = w.drewN n := by
  have HC : Hid (colon s = k) := hc
  clear hc
  have c1 : (0 : Int) ≤ ↑k := by omega
  have c2 : (↑k : Int) ≤ ↑s.size := by omega
  have c3 : (0 : Int) ≤ ↑k + 1 := by omega
  have c4 : (↑k + 1 : Int) ≤ ↑s.size := by omega
  go_enter Tryz.func98, Tryz.ntmps98
  go_wp2_with (go_at_call 124; refine (Tryz.stringslite_Index_one _ _ _).mono ?_; rintro e w' ⟨rfl, rfl⟩; rw [show Lib.indexByte s.data.toList 58 = _ from HC.out])
  go_region
  go_wp2
  go_ret3
  exact ⟨rfl, 1, rfl⟩

set_option maxHeartbeats 1000000 in
theorem i_scut_none (s : ByteArray) (w : World) (hs : s.size ≤ 1048576) (hc : colon s = -1) :
    Calls Tryz.prog 66 #[.string s, .string ⟨#[58]⟩] w fun e w' => e = (.returned (.tuple #[.string s, .string ⟨#[]⟩, .bool false]) : Ending) ∧ ∃ n, w' = w.drewN n := by
  have HC : Hid (colon s = -1) := hc
  clear hc
  go_enter Tryz.func66, Tryz.ntmps66
  go_wp2_with (go_at_call 98; refine (i_cut_none _ _ hs HC.out).mono ?_; rintro e w' ⟨rfl, n, rfl⟩)
  go_ret3
  exact ⟨rfl, _, rfl⟩

set_option maxHeartbeats 1000000 in
theorem i_scut_some (s : ByteArray) (k : Nat) (w : World) (hs : s.size ≤ 1048576) (hc : colon s = k) (hk : k < s.size) :
    Calls Tryz.prog 66 #[.string s, .string ⟨#[58]⟩] w fun e w' => e = (.returned (.tuple #[.string (s.extract 0 k), .string (s.extract (k + 1) s.size), .bool true]) : Ending) ∧ ∃ n, w' = w.drewN n := by
  have HC : Hid (colon s = k) := hc
  clear hc
  go_enter Tryz.func66, Tryz.ntmps66
  go_wp2_with (go_at_call 98; refine (i_cut_some _ k _ hs HC.out hk).mono ?_; rintro e w' ⟨rfl, n, rfl⟩)
  go_ret3
  exact ⟨rfl, _, rfl⟩

def pre (s : ByteArray) : ByteArray := s.extract 0 (colon s).toNat
def post (s : ByteArray) : ByteArray := s.extract ((colon s).toNat + 1) s.size
def spl (s : ByteArray) : ByteArray × ByteArray × Bool :=
  if colon s = -1 then (if nameB s = true then (noText, s, true) else (noText, noText, false))
  else if nameB (pre s) = true ∧ nameB (post s) = true then (pre s, post s, true) else (noText, noText, false)
theorem spl_a {s : ByteArray} (h : colon s = -1) (h1 : nameB s = true) : spl s = (noText, s, true) := by rw [spl, if_pos h, if_pos h1]
theorem spl_b {s : ByteArray} (h : colon s = -1) (h1 : nameB s = false) : spl s = (noText, noText, false) := by rw [spl, if_pos h, if_neg (by simp [h1])]
theorem pre_eq {s : ByteArray} {k : Nat} (h : colon s = k) : pre s = s.extract 0 k := by rw [pre, h]; rfl
theorem post_eq {s : ByteArray} {k : Nat} (h : colon s = k) : post s = s.extract (k + 1) s.size := by rw [post, h]; rfl
theorem spl_c {s : ByteArray} {k : Nat} (h : colon s = k) (h1 : nameB (s.extract 0 k) = true) (h2 : nameB (s.extract (k + 1) s.size) = true) : spl s = (s.extract 0 k, s.extract (k + 1) s.size, true) := by
  rw [spl, if_neg (by omega), pre_eq h, post_eq h, if_pos ⟨h1, h2⟩]
theorem spl_d {s : ByteArray} {k : Nat} (h : colon s = k) (h1 : nameB (s.extract 0 k) = false ∨ nameB (s.extract (k + 1) s.size) = false) : spl s = (noText, noText, false) := by
  rw [spl, if_neg (by omega), pre_eq h, post_eq h, if_neg (by rintro ⟨a, b⟩; rcases h1 with h1 | h1 <;> simp_all)]
theorem piece_len (s : ByteArray) (a b : Nat) (hs : s.size ≤ 1048576) : (s.extract a b).size ≤ maxLen := by
  rw [ByteArray.size_extract]; unfold maxLen; omega
theorem text_len (s : ByteArray) (hs : s.size ≤ 1048576) : s.size ≤ maxLen := by unfold maxLen; omega

set_option maxHeartbeats 1000000 in
theorem i_split_none (s : ByteArray) (b : Bool) (w : World) (hs : s.size ≤ 1048576) (hc : colon s = -1) (hn : nameB s = b) :
    Calls Tryz.prog 141 #[.string s] w fun e w' => e = (if b = true then (.returned (.tuple #[.string ⟨#[]⟩, .string s, .bool true]) : Ending) else (.returned (.tuple #[.string ⟨#[]⟩, .string ⟨#[]⟩, .bool false]) : Ending)) ∧ ∃ n, w' = w.drewN n := by
  have HC : Hid (colon s = -1) := hc
  clear hc
  have hl := text_len s hs
  cases b
  all_goals
    go_enter Tryz.func141, Tryz.ntmps141
    go_wp2_with (first | (go_at_call 66; refine (i_scut_none _ _ hs HC.out).mono ?_; rintro e w' ⟨rfl, n, rfl⟩) | (go_at_call 68; refine (i_name _ _ hl).mono ?_; rintro e w' ⟨rfl, rfl⟩))
    go_ret3
    exact ⟨rfl, _, rfl⟩

set_option maxHeartbeats 1000000 in
theorem i_split_some (s : ByteArray) (k : Nat) (b1 b2 : Bool) (w : World) (hs : s.size ≤ 1048576) (hc : colon s = k) (hk : k < s.size) (h1 : nameB (s.extract 0 k) = b1) (h2 : nameB (s.extract (k + 1) s.size) = b2) :
    Calls Tryz.prog 141 #[.string s] w fun e w' => e = (if b1 = true ∧ b2 = true then (.returned (.tuple #[.string (s.extract 0 k), .string (s.extract (k + 1) s.size), .bool true]) : Ending) else (.returned (.tuple #[.string ⟨#[]⟩, .string ⟨#[]⟩, .bool false]) : Ending)) ∧ ∃ n, w' = w.drewN n := by
  have HC : Hid (colon s = k) := hc
  clear hc
  have l1 := piece_len s 0 k hs
  have l2 := piece_len s (k + 1) s.size hs
  cases b1 <;> cases b2
  all_goals
    go_enter Tryz.func141, Tryz.ntmps141
    go_wp2_with (first | (go_at_call 66; refine (i_scut_some _ k _ hs HC.out hk).mono ?_; rintro e w' ⟨rfl, n, rfl⟩) | (go_at_call 68; refine (i_name _ _ (by first | exact l1 | exact l2)).mono ?_; rintro e w' ⟨rfl, rfl⟩))
    go_ret3
    exact ⟨by simp, _, rfl⟩

set_option maxHeartbeats 2000000 in
theorem s_split_none (s : ByteArray) (b : Bool) (w : World) (hs : s.size ≤ 1048576) (hc : colon s = -1) (hn : nameB s = b) :
    Calls Tryz.prog 91 #[.string s] w fun e w' => e = (if b = true then (.returned (.tuple #[.string ⟨#[]⟩, .string s, .bool true]) : Ending) else (.returned (.tuple #[.string ⟨#[]⟩, .string ⟨#[]⟩, .bool false]) : Ending)) ∧ ∃ n, w' = w.drewN n := by
  have HC : Hid (colon s = -1) := hc
  clear hc
  have hl := text_len s hs
  cases b
  all_goals
    go_enter Tryz.func91, Tryz.ntmps91
    go_wp2
    go_loop [5, 6] (fun a i => ∃ k : Nat, k ≤ s.size ∧ a = .int .i64 (-1) ∧ i = .int .i64 k) (fun _ i => s.size - (intOf i).toNat)
    case atStart => exact ⟨0, by omega, rfl, rfl⟩
    case round =>
      obtain ⟨k, hk, rfl, rfl⟩ := hrel
      by_cases hlt : k < s.size
      · have hb := colon_none HC.out k hlt
        go_wp2
        go_round
        case rel => exact ⟨k + 1, by omega, rfl, by go_num⟩
        case measure => simp [intOf]; omega
      · go_wp2_with (go_at_call 57; refine (s_name _ _ hl).mono ?_; rintro e w' ⟨rfl, rfl⟩)
        go_ret3
        exact ⟨rfl, 0, rfl⟩

set_option maxHeartbeats 4000000 in
theorem s_split_some (s : ByteArray) (k : Nat) (b1 b2 : Bool) (w : World) (hs : s.size ≤ 1048576) (hc : colon s = k) (hk : k < s.size) (h1 : nameB (s.extract 0 k) = b1) (h2 : nameB (s.extract (k + 1) s.size) = b2) :
    Calls Tryz.prog 91 #[.string s] w fun e w' => e = (if b1 = true ∧ b2 = true then (.returned (.tuple #[.string (s.extract 0 k), .string (s.extract (k + 1) s.size), .bool true]) : Ending) else (.returned (.tuple #[.string ⟨#[]⟩, .string ⟨#[]⟩, .bool false]) : Ending)) ∧ ∃ n, w' = w.drewN n := by
  have HC : Hid (colon s = k) := hc
  clear hc
  have l1 := piece_len s 0 k hs
  have l2 := piece_len s (k + 1) s.size hs
  have c1 : (0 : Int) ≤ ↑k := by omega
  have c2 : (↑k : Int) ≤ ↑s.size := by omega
  have c3 : (0 : Int) ≤ ↑k + 1 := by omega
  have c4 : (↑k + 1 : Int) ≤ ↑s.size := by omega
  cases b1 <;> cases b2
  all_goals
    go_enter Tryz.func91, Tryz.ntmps91
    go_wp2
    go_loop [5, 6] (fun a i => (∃ j : Nat, j ≤ k ∧ a = .int .i64 (-1) ∧ i = .int .i64 j) ∨ (a = .int .i64 k ∧ i = .int .i64 (k + 1))) (fun _ i => s.size - (intOf i).toNat)
    case atStart => exact .inl ⟨0, by omega, rfl, rfl⟩
    case round =>
      rcases hrel with ⟨j, hj, rfl, rfl⟩ | ⟨rfl, rfl⟩
      · have hjs : j < s.size := by omega
        by_cases hlt : j < k
        · have hb := colon_less HC.out j hlt hjs
          go_wp2
          go_round
          case rel => exact .inl ⟨j + 1, by omega, rfl, by go_num⟩
          case measure => simp [intOf]; omega
        · have e : j = k := by omega
          subst e
          have hb := colon_hit HC.out hjs
          go_wp2
          go_round
          case rel => exact .inr ⟨rfl, rfl⟩
          case measure => simp [intOf]; omega
      · by_cases hlt : k + 1 < s.size
        all_goals
          go_wp2_with (go_at_call 57; refine (s_name _ _ (by first | exact l1 | exact l2)).mono ?_; rintro e w' ⟨rfl, rfl⟩)
          first
            | (go_ret3; exact ⟨by simp, 0, rfl⟩)
            | (go_region; go_wp2; go_ret3; exact ⟨by simp, 1, rfl⟩)

theorem split_of (s : ByteArray) (w : World) (f : Nat) (hs : s.size ≤ 1048576)
    (hn : ∀ b, colon s = -1 → nameB s = b → Calls Tryz.prog f #[.string s] w fun e w' => e = (if b = true then (.returned (.tuple #[.string ⟨#[]⟩, .string s, .bool true]) : Ending) else (.returned (.tuple #[.string ⟨#[]⟩, .string ⟨#[]⟩, .bool false]) : Ending)) ∧ ∃ n, w' = w.drewN n)
    (hm : ∀ (k : Nat) b1 b2, colon s = k → k < s.size → nameB (s.extract 0 k) = b1 → nameB (s.extract (k + 1) s.size) = b2 → Calls Tryz.prog f #[.string s] w fun e w' => e = (if b1 = true ∧ b2 = true then (.returned (.tuple #[.string (s.extract 0 k), .string (s.extract (k + 1) s.size), .bool true]) : Ending) else (.returned (.tuple #[.string ⟨#[]⟩, .string ⟨#[]⟩, .bool false]) : Ending)) ∧ ∃ n, w' = w.drewN n) :
    Calls Tryz.prog f #[.string s] w fun e w' => e = (.returned (.tuple #[.string (spl s).1, .string (spl s).2.1, .bool (spl s).2.2]) : Ending) ∧ ∃ n, w' = w.drewN n := by
  rcases colon_cases s with h | ⟨k, h, hk⟩
  · cases hb : nameB s
    · refine (hn _ h hb).mono ?_; rintro e w' ⟨rfl, h'⟩; rw [spl_b h hb]; exact ⟨rfl, h'⟩
    · refine (hn _ h hb).mono ?_; rintro e w' ⟨rfl, h'⟩; rw [spl_a h hb]; exact ⟨rfl, h'⟩
  · cases h1 : nameB (s.extract 0 k)
    · refine (hm k _ _ h hk h1 rfl).mono ?_; rintro e w' ⟨rfl, h'⟩; rw [spl_d h (.inl h1)]; exact ⟨by simp [noText], h'⟩
    · cases h2 : nameB (s.extract (k + 1) s.size)
      · refine (hm k _ _ h hk h1 h2).mono ?_; rintro e w' ⟨rfl, h'⟩; rw [spl_d h (.inr h2)]; exact ⟨by simp [noText], h'⟩
      · refine (hm k _ _ h hk h1 h2).mono ?_; rintro e w' ⟨rfl, h'⟩; rw [spl_c h h1 h2]; exact ⟨by simp, h'⟩
theorem s_split (s : ByteArray) (w : World) (hs : s.size ≤ 1048576) : Calls Tryz.prog 91 #[.string s] w fun e w' => e = (.returned (.tuple #[.string (spl s).1, .string (spl s).2.1, .bool (spl s).2.2]) : Ending) ∧ ∃ n, w' = w.drewN n :=
  split_of s w _ hs (fun b h hb => s_split_none s b w hs h hb) (fun k b1 b2 h hk h1 h2 => s_split_some s k b1 b2 w hs h hk h1 h2)
theorem i_split (s : ByteArray) (w : World) (hs : s.size ≤ 1048576) : Calls Tryz.prog 141 #[.string s] w fun e w' => e = (.returned (.tuple #[.string (spl s).1, .string (spl s).2.1, .bool (spl s).2.2]) : Ending) ∧ ∃ n, w' = w.drewN n :=
  split_of s w _ hs (fun b h hb => i_split_none s b w hs h hb) (fun k b1 b2 h hk h1 h2 => i_split_some s k b1 b2 w hs h hk h1 h2)
end Go.Proofs.YtfbahffljhnjbaaGreatDoor
