/-
  Texts put together: Rune1, Ints.
-/
import Derived.Test.YthcggdjkfebemaaGreatDoorB2
import Derived.Test.YthcggdjkfebemaaGreatDoorChecked
import Derived.WalkKit
import Derived.WalkLawsBesides
import Derived.Below
import Derived.Deep.Draws
import Derived.Laws.Closers25
import Derived.OwnWalk
import Derived.Laws.OwnMore
import Derived.RegionTactic
import Derived.Deep.QuietTactic
import Derived.BigQuiet
import Derived.KernelRfl
/-
  Contracts of the specification's reader of one character: at every text that is not empty it answers the character with which the text begins and how many bytes it has, or nought twice; the world is as it was.
-/
namespace Go.Proofs.YthcggdjkfebemaaGreatDoor
open Go.RowKit
set_option linter.unusedVariables false
set_option linter.unusedSimpArgs false
def charB (r : Int) : Bool := decide ((0 ≤ r ∧ r ≤ 55295) ∨ (57344 ≤ r ∧ r ≤ 1114111))
theorem cases_char (r : Int) : r < 0 ∨ (0 ≤ r ∧ r ≤ 55295) ∨ (55296 ≤ r ∧ r ≤ 57343) ∨ (57344 ≤ r ∧ r ≤ 1114111) ∨ 1114112 ≤ r := by omega
set_option maxHeartbeats 1000000 in
theorem s_char (r : Int) (w : World) : Calls Tryz.prog 111 #[.int .i64 r] w fun e w' => e = .returned (.bool (charB r)) ∧ w' = w := by
  rcases cases_char r with h | ⟨h, h'⟩ | ⟨h, h'⟩ | ⟨h, h'⟩ | h
  all_goals
    go_enter Tryz.func111, Tryz.ntmps111
    go_wp2
    go_ret
    exact ⟨ret_bool (by first | decide | (rw [Bool.eq_iff_iff]; simp only [charB, Bool.or_eq_true, Bool.and_eq_true, decide_eq_true_eq, beq_iff_eq, true_iff, false_iff, iff_true, iff_false, Bool.false_eq_true]; omega)), rfl⟩
theorem ret_pair {a b c d : Int} (h : (a, b) = (c, d)) : Ending.returned (.tuple #[.int .i64 a, .int .i64 b]) = .returned (.tuple #[.int .i64 c, .int .i64 d]) := by
  obtain ⟨rfl, rfl⟩ := Prod.mk.inj h; rfl
/-- What the reader is to answer. -/
def rn (s : ByteArray) : Int × Int := rnF (Lib.decodeL s.data.toList)
theorem rn_bad {s : ByteArray} (h : Lib.decodeN s.size (byN s 0) (byN s 1) (byN s 2) (byN s 3) = (65533, 1)) : ((0 : Int), (0 : Int)) = ((rn s).1, (rn s).2) := by
  rw [rn, dec_byN, rnF_bad h]
theorem rn_ok {s : ByteArray} {x k : Nat} {a b : Int} (h : Lib.decodeN s.size (byN s 0) (byN s 1) (byN s 2) (byN s 3) = (x, k)) (hk : k ≠ 1 ∨ x ≠ 65533) (ha : a = x) (hb : b = k) : (a, b) = ((rn s).1, (rn s).2) := by
  rw [rn, dec_byN, rnF_ok h hk, ha, hb]
theorem not_empty {s : ByteArray} (h : 0 < s.size) : s.toList.isEmpty = false := by
  rw [Lib.toList_data]
  cases hs : s.data.toList with
  | nil => have := congrArg List.length hs; rw [Array.length_toList] at this; exact absurd h (by show ¬ 0 < s.data.size; rw [this]; simp)
  | cons a t => rfl


set_option maxRecDepth 100000 in
set_option maxHeartbeats 1000000 in
theorem s_rune1 (s : ByteArray) (w : World) (hs : s.size ≤ 1048576) (h0 : 0 < s.size) (hb : byN s 0 < 192 ∨ 248 ≤ byN s 0) :
    Calls Tryz.prog 89 #[.string s] w fun e w' => e = .returned (.tuple #[.int .i64 (rn s).1, .int .i64 (rn s).2]) ∧ w' = w := by
  have E0 := hide (byN_eq s 0 h0)
  have hem := not_empty h0
  have HB := hide hb
  have hu : (s[0].toNat : Int) ≤ 255 := by rw [E0.out]; have := byN_lt s 0; omega
  clear hb
  by_cases h1 : (s[0].toNat : Int) < 128
  · have H1 := hide h1
    go_enter Tryz.func89, Tryz.ntmps89
    go_wp2
    go_ret2
    exact ⟨ret_pair (rn_ok (d1 (by rw [← E0.out]; have := H1.out; omega)) (.inr (by rw [← E0.out]; have := H1.out; omega)) (by rw [← E0.out]) rfl), rfl⟩
  · by_cases h2 : (s[0].toNat : Int) < 192
    · have H1 := hide h1
      have H2 := hide h2
      have h3 : ¬ (192 : Int) ≤ (s[0].toNat : Int) := by omega
      have h4 : ¬ (224 : Int) ≤ (s[0].toNat : Int) := by omega
      have h5 : ¬ (240 : Int) ≤ (s[0].toNat : Int) := by omega
      go_enter Tryz.func89, Tryz.ntmps89
      go_wp2
      go_ret2
      exact ⟨ret_pair (rn_bad (dx (by rw [← E0.out]; have := H1.out; omega) (by rw [← E0.out]; have := H2.out; omega))), rfl⟩
    · have h3 : (248 : Int) ≤ (s[0].toNat : Int) := by
        have := HB.out
        rw [← E0.out] at this
        omega
      have H1 := hide h1
      have H3 := hide h3
      clear h1 h2
      go_enter Tryz.func89, Tryz.ntmps89
      go_wp2
      go_ret2
      exact ⟨ret_pair (rn_bad (dx (by rw [← E0.out]; have := H1.out; omega) (by rw [← E0.out]; have := H3.out; omega))), rfl⟩
set_option maxRecDepth 100000 in
set_option maxHeartbeats 1000000 in
theorem s_rune2 (s : ByteArray) (w : World) (hs : s.size ≤ 1048576) (h0 : 0 < s.size) (hb : 192 ≤ byN s 0) (hb' : byN s 0 < 224) :
    Calls Tryz.prog 89 #[.string s] w fun e w' => e = .returned (.tuple #[.int .i64 (rn s).1, .int .i64 (rn s).2]) ∧ w' = w := by
  have E0 := hide (byN_eq s 0 h0)
  have hem := not_empty h0
  have i1 : (192 : Int) ≤ (s[0].toNat : Int) := by rw [E0.out]; omega
  have i2 : (s[0].toNat : Int) < 224 := by rw [E0.out]; omega
  have HB := hide (And.intro hb hb')
  clear hb hb'
  by_cases hn : s.size < 2
  · have hni : (s.size : Int) < 2 := by omega
    have HN := hide hn
    clear hn
    go_enter Tryz.func89, Tryz.ntmps89
    go_wp2
    go_ret2
    exact ⟨ret_pair (rn_bad (d2n HB.out.1 HB.out.2 (.inl HN.out) (byN_lt s 1))), rfl⟩
  · have hni : (2 : Int) ≤ (s.size : Int) := by omega
    have q1 : 1 < s.size := by omega
    have E1 := hide (byN_eq s 1 q1)
    have u1 : (s[1].toNat : Int) ≤ 255 := by rw [E1.out]; have := byN_lt s 1; omega
    clear hn
    go_enter Tryz.func89, Tryz.ntmps89
    go_wp2
    go_loop [4, 7] (fun b i => (∃ r : Int, Hid (((s[0].toNat : Int) % 32) = r) ∧ 0 ≤ r ∧ r ≤ 2097151 ∧ b = .int .i64 r ∧ i = .int .i64 1) ∨ ((128 : Int) ≤ (s[1].toNat : Int) ∧ (s[1].toNat : Int) < 192 ∧ ∃ r : Int, Hid ((64 * ((s[0].toNat : Int) % 32) + (s[1].toNat : Int) % 64) = r) ∧ 0 ≤ r ∧ r ≤ 2097151 ∧ b = .int .i64 r ∧ i = .int .i64 2)) (fun _ i => 2 - (intOf i).toNat)
    case atStart => exact .inl ⟨((s[0].toNat : Int) % 32), hide rfl, by omega, by omega, rfl, rfl⟩
    case round =>
      rcases hrel with ⟨r, HV, jl, jh, rfl, rfl⟩ | ⟨f1, g1, r, HV, jl, jh, rfl, rfl⟩
      · skip
        by_cases hlo : (s[1].toNat : Int) < 128
        · have HLO := hide hlo
          go_wp2
          go_ret2
          exact ⟨ret_pair (rn_bad (d2n HB.out.1 HB.out.2 (.inr (.inl (by rw [← E1.out]; have := HLO.out; omega))) (byN_lt s 1))), rfl⟩
        · by_cases hhi : (192 : Int) ≤ (s[1].toNat : Int)
          · have HHI := hide hhi
            go_wp2
            go_ret2
            exact ⟨ret_pair (rn_bad (d2n HB.out.1 HB.out.2 (.inr (.inr ((by rw [← E1.out]; have := HHI.out; omega)))) (byN_lt s 1))), rfl⟩
          · have HLO := hide hlo
            have HHI := hide hhi
            go_wp2
            go_round
            case rel => exact .inr (⟨by have := HLO.out; omega, by have := HHI.out; omega, (64 * ((s[0].toNat : Int) % 32) + (s[1].toNat : Int) % 64), hide rfl, by have := HV.out; omega, by have := HV.out; omega, congrArg (Value.int .i64) (by have := HV.out; omega), rfl⟩)
            case measure => simp [intOf]
      · have F1 := hide (And.intro f1 g1); 
        have EV := hide (show r = (((64 * (byN s 0 % 32) + byN s 1 % 64) : Nat) : Int) by rw [← HV.out, E0.out, E1.out]; omega)
        clear f1 g1
        by_cases hlow : r < 128
        · have HLOW := hide hlow
          go_wp2
          go_ret2
          exact ⟨ret_pair (rn_bad (d2l HB.out.1 HB.out.2 (by omega) (by rw [← E1.out]; have := F1.out; omega) (by rw [← E1.out]; have := F1.out; omega) (by have := HLOW.out; have := EV.out; omega))), rfl⟩
        · have HLOW := hide hlow
          cases hch : charB r
          · have HC := hide (of_decide_eq_false hch)
            exact absurd (show (0 ≤ r ∧ r ≤ 55295) ∨ (57344 ≤ r ∧ r ≤ 1114111) by have := EV.out; have := HB.out; omega) HC.out
          · have HC := hide (of_decide_eq_true hch)
            go_wp2_with (go_at_call 111; refine (s_char _ _).mono ?_; rintro e w' ⟨rfl, rfl⟩)
            go_ret2
            exact ⟨ret_pair (rn_ok (d2y HB.out.1 HB.out.2 (by omega) (by rw [← E1.out]; have := F1.out; omega) (by rw [← E1.out]; have := F1.out; omega) (by have := HLOW.out; have := EV.out; omega)) (.inl (by decide)) EV.out rfl), rfl⟩

set_option maxRecDepth 100000 in
set_option maxHeartbeats 1000000 in
theorem s_rune3 (s : ByteArray) (w : World) (hs : s.size ≤ 1048576) (h0 : 0 < s.size) (hb : 224 ≤ byN s 0) (hb' : byN s 0 < 240) :
    Calls Tryz.prog 89 #[.string s] w fun e w' => e = .returned (.tuple #[.int .i64 (rn s).1, .int .i64 (rn s).2]) ∧ w' = w := by
  have E0 := hide (byN_eq s 0 h0)
  have hem := not_empty h0
  have i1 : (224 : Int) ≤ (s[0].toNat : Int) := by rw [E0.out]; omega
  have i2 : (s[0].toNat : Int) < 240 := by rw [E0.out]; omega
  have HB := hide (And.intro hb hb')
  clear hb hb'
  by_cases hn : s.size < 3
  · have hni : (s.size : Int) < 3 := by omega
    have HN := hide hn
    clear hn
    go_enter Tryz.func89, Tryz.ntmps89
    go_wp2
    go_ret2
    exact ⟨ret_pair (rn_bad (d3n HB.out.1 HB.out.2 (.inl HN.out) (byN_lt s 1) (byN_lt s 2))), rfl⟩
  · have hni : (3 : Int) ≤ (s.size : Int) := by omega
    have q1 : 1 < s.size := by omega
    have E1 := hide (byN_eq s 1 q1)
    have u1 : (s[1].toNat : Int) ≤ 255 := by rw [E1.out]; have := byN_lt s 1; omega
    have q2 : 2 < s.size := by omega
    have E2 := hide (byN_eq s 2 q2)
    have u2 : (s[2].toNat : Int) ≤ 255 := by rw [E2.out]; have := byN_lt s 2; omega
    clear hn
    go_enter Tryz.func89, Tryz.ntmps89
    go_wp2
    go_loop [4, 7] (fun b i => (∃ r : Int, Hid (((s[0].toNat : Int) % 16) = r) ∧ 0 ≤ r ∧ r ≤ 2097151 ∧ b = .int .i64 r ∧ i = .int .i64 1) ∨ ((128 : Int) ≤ (s[1].toNat : Int) ∧ (s[1].toNat : Int) < 192 ∧ ∃ r : Int, Hid ((64 * ((s[0].toNat : Int) % 16) + (s[1].toNat : Int) % 64) = r) ∧ 0 ≤ r ∧ r ≤ 2097151 ∧ b = .int .i64 r ∧ i = .int .i64 2) ∨ ((128 : Int) ≤ (s[1].toNat : Int) ∧ (s[1].toNat : Int) < 192 ∧ (128 : Int) ≤ (s[2].toNat : Int) ∧ (s[2].toNat : Int) < 192 ∧ ∃ r : Int, Hid ((64 * (64 * ((s[0].toNat : Int) % 16) + (s[1].toNat : Int) % 64) + (s[2].toNat : Int) % 64) = r) ∧ 0 ≤ r ∧ r ≤ 2097151 ∧ b = .int .i64 r ∧ i = .int .i64 3)) (fun _ i => 3 - (intOf i).toNat)
    case atStart => exact .inl ⟨((s[0].toNat : Int) % 16), hide rfl, by omega, by omega, rfl, rfl⟩
    case round =>
      rcases hrel with ⟨r, HV, jl, jh, rfl, rfl⟩ | ⟨f1, g1, r, HV, jl, jh, rfl, rfl⟩ | ⟨f1, g1, f2, g2, r, HV, jl, jh, rfl, rfl⟩
      · skip
        by_cases hlo : (s[1].toNat : Int) < 128
        · have HLO := hide hlo
          go_wp2
          go_ret2
          exact ⟨ret_pair (rn_bad (d3n HB.out.1 HB.out.2 (.inr (.inl (by rw [← E1.out]; have := HLO.out; omega))) (byN_lt s 1) (byN_lt s 2))), rfl⟩
        · by_cases hhi : (192 : Int) ≤ (s[1].toNat : Int)
          · have HHI := hide hhi
            go_wp2
            go_ret2
            exact ⟨ret_pair (rn_bad (d3n HB.out.1 HB.out.2 (.inr (.inr (.inl (by rw [← E1.out]; have := HHI.out; omega)))) (byN_lt s 1) (byN_lt s 2))), rfl⟩
          · have HLO := hide hlo
            have HHI := hide hhi
            go_wp2
            go_round
            case rel => exact .inr (.inl ⟨by have := HLO.out; omega, by have := HHI.out; omega, (64 * ((s[0].toNat : Int) % 16) + (s[1].toNat : Int) % 64), hide rfl, by have := HV.out; omega, by have := HV.out; omega, congrArg (Value.int .i64) (by have := HV.out; omega), rfl⟩)
            case measure => simp [intOf]
      · have F1 := hide (And.intro f1 g1); 
        by_cases hlo : (s[2].toNat : Int) < 128
        · have HLO := hide hlo
          go_wp2
          go_ret2
          exact ⟨ret_pair (rn_bad (d3n HB.out.1 HB.out.2 (.inr (.inr (.inr (.inl (by rw [← E2.out]; have := HLO.out; omega))))) (byN_lt s 1) (byN_lt s 2))), rfl⟩
        · by_cases hhi : (192 : Int) ≤ (s[2].toNat : Int)
          · have HHI := hide hhi
            go_wp2
            go_ret2
            exact ⟨ret_pair (rn_bad (d3n HB.out.1 HB.out.2 (.inr (.inr (.inr (.inr ((by rw [← E2.out]; have := HHI.out; omega)))))) (byN_lt s 1) (byN_lt s 2))), rfl⟩
          · have HLO := hide hlo
            have HHI := hide hhi
            go_wp2
            go_round
            case rel => exact .inr (.inr (⟨F1.out.1, F1.out.2, by have := HLO.out; omega, by have := HHI.out; omega, (64 * (64 * ((s[0].toNat : Int) % 16) + (s[1].toNat : Int) % 64) + (s[2].toNat : Int) % 64), hide rfl, by have := HV.out; omega, by have := HV.out; omega, congrArg (Value.int .i64) (by have := HV.out; omega), rfl⟩))
            case measure => simp [intOf]
      · have F1 := hide (And.intro f1 g1); have F2 := hide (And.intro f2 g2); 
        have EV := hide (show r = (((64 * (64 * (byN s 0 % 16) + byN s 1 % 64) + byN s 2 % 64) : Nat) : Int) by rw [← HV.out, E0.out, E1.out, E2.out]; omega)
        clear f1 g1 f2 g2
        by_cases hlow : r < 2048
        · have HLOW := hide hlow
          go_wp2
          go_ret2
          exact ⟨ret_pair (rn_bad (d3l HB.out.1 HB.out.2 (by omega) (by rw [← E1.out]; have := F1.out; omega) (by rw [← E1.out]; have := F1.out; omega) (by rw [← E2.out]; have := F2.out; omega) (by rw [← E2.out]; have := F2.out; omega) (.inl (by have := HLOW.out; have := EV.out; omega)))), rfl⟩
        · have HLOW := hide hlow
          cases hch : charB r
          · have HC := hide (of_decide_eq_false hch)
            go_wp2_with (go_at_call 111; refine (s_char _ _).mono ?_; rintro e w' ⟨rfl, rfl⟩)
            go_ret2
            exact ⟨ret_pair (rn_bad (d3l HB.out.1 HB.out.2 (by omega) (by rw [← E1.out]; have := F1.out; omega) (by rw [← E1.out]; have := F1.out; omega) (by rw [← E2.out]; have := F2.out; omega) (by rw [← E2.out]; have := F2.out; omega) (.inr (by have := HC.out; have := EV.out; have := HB.out; omega)))), rfl⟩
          · have HC := hide (of_decide_eq_true hch)
            go_wp2_with (go_at_call 111; refine (s_char _ _).mono ?_; rintro e w' ⟨rfl, rfl⟩)
            go_ret2
            exact ⟨ret_pair (rn_ok (d3y HB.out.1 HB.out.2 (by omega) (by rw [← E1.out]; have := F1.out; omega) (by rw [← E1.out]; have := F1.out; omega) (by rw [← E2.out]; have := F2.out; omega) (by rw [← E2.out]; have := F2.out; omega) (by have := HLOW.out; have := EV.out; omega) (by have := HC.out; have := EV.out; omega)) (.inl (by decide)) EV.out rfl), rfl⟩

set_option maxRecDepth 100000 in
set_option maxHeartbeats 1000000 in
theorem s_rune4 (s : ByteArray) (w : World) (hs : s.size ≤ 1048576) (h0 : 0 < s.size) (hb : 240 ≤ byN s 0) (hb' : byN s 0 < 248) :
    Calls Tryz.prog 89 #[.string s] w fun e w' => e = .returned (.tuple #[.int .i64 (rn s).1, .int .i64 (rn s).2]) ∧ w' = w := by
  have E0 := hide (byN_eq s 0 h0)
  have hem := not_empty h0
  have i1 : (240 : Int) ≤ (s[0].toNat : Int) := by rw [E0.out]; omega
  have i2 : (s[0].toNat : Int) < 248 := by rw [E0.out]; omega
  have HB := hide (And.intro hb hb')
  clear hb hb'
  by_cases hn : s.size < 4
  · have hni : (s.size : Int) < 4 := by omega
    have HN := hide hn
    clear hn
    go_enter Tryz.func89, Tryz.ntmps89
    go_wp2
    go_ret2
    exact ⟨ret_pair (rn_bad (d4n HB.out.1 HB.out.2 (.inl HN.out) (byN_lt s 1) (byN_lt s 2) (byN_lt s 3))), rfl⟩
  · have hni : (4 : Int) ≤ (s.size : Int) := by omega
    have q1 : 1 < s.size := by omega
    have E1 := hide (byN_eq s 1 q1)
    have u1 : (s[1].toNat : Int) ≤ 255 := by rw [E1.out]; have := byN_lt s 1; omega
    have q2 : 2 < s.size := by omega
    have E2 := hide (byN_eq s 2 q2)
    have u2 : (s[2].toNat : Int) ≤ 255 := by rw [E2.out]; have := byN_lt s 2; omega
    have q3 : 3 < s.size := by omega
    have E3 := hide (byN_eq s 3 q3)
    have u3 : (s[3].toNat : Int) ≤ 255 := by rw [E3.out]; have := byN_lt s 3; omega
    clear hn
    go_enter Tryz.func89, Tryz.ntmps89
    go_wp2
    go_loop [4, 7] (fun b i => (∃ r : Int, Hid (((s[0].toNat : Int) % 8) = r) ∧ 0 ≤ r ∧ r ≤ 2097151 ∧ b = .int .i64 r ∧ i = .int .i64 1) ∨ ((128 : Int) ≤ (s[1].toNat : Int) ∧ (s[1].toNat : Int) < 192 ∧ ∃ r : Int, Hid ((64 * ((s[0].toNat : Int) % 8) + (s[1].toNat : Int) % 64) = r) ∧ 0 ≤ r ∧ r ≤ 2097151 ∧ b = .int .i64 r ∧ i = .int .i64 2) ∨ ((128 : Int) ≤ (s[1].toNat : Int) ∧ (s[1].toNat : Int) < 192 ∧ (128 : Int) ≤ (s[2].toNat : Int) ∧ (s[2].toNat : Int) < 192 ∧ ∃ r : Int, Hid ((64 * (64 * ((s[0].toNat : Int) % 8) + (s[1].toNat : Int) % 64) + (s[2].toNat : Int) % 64) = r) ∧ 0 ≤ r ∧ r ≤ 2097151 ∧ b = .int .i64 r ∧ i = .int .i64 3) ∨ ((128 : Int) ≤ (s[1].toNat : Int) ∧ (s[1].toNat : Int) < 192 ∧ (128 : Int) ≤ (s[2].toNat : Int) ∧ (s[2].toNat : Int) < 192 ∧ (128 : Int) ≤ (s[3].toNat : Int) ∧ (s[3].toNat : Int) < 192 ∧ ∃ r : Int, Hid ((64 * (64 * (64 * ((s[0].toNat : Int) % 8) + (s[1].toNat : Int) % 64) + (s[2].toNat : Int) % 64) + (s[3].toNat : Int) % 64) = r) ∧ 0 ≤ r ∧ r ≤ 2097151 ∧ b = .int .i64 r ∧ i = .int .i64 4)) (fun _ i => 4 - (intOf i).toNat)
    case atStart => exact .inl ⟨((s[0].toNat : Int) % 8), hide rfl, by omega, by omega, rfl, rfl⟩
    case round =>
      rcases hrel with ⟨r, HV, jl, jh, rfl, rfl⟩ | ⟨f1, g1, r, HV, jl, jh, rfl, rfl⟩ | ⟨f1, g1, f2, g2, r, HV, jl, jh, rfl, rfl⟩ | ⟨f1, g1, f2, g2, f3, g3, r, HV, jl, jh, rfl, rfl⟩
      · skip
        by_cases hlo : (s[1].toNat : Int) < 128
        · have HLO := hide hlo
          go_wp2
          go_ret2
          exact ⟨ret_pair (rn_bad (d4n HB.out.1 HB.out.2 (.inr (.inl (by rw [← E1.out]; have := HLO.out; omega))) (byN_lt s 1) (byN_lt s 2) (byN_lt s 3))), rfl⟩
        · by_cases hhi : (192 : Int) ≤ (s[1].toNat : Int)
          · have HHI := hide hhi
            go_wp2
            go_ret2
            exact ⟨ret_pair (rn_bad (d4n HB.out.1 HB.out.2 (.inr (.inr (.inl (by rw [← E1.out]; have := HHI.out; omega)))) (byN_lt s 1) (byN_lt s 2) (byN_lt s 3))), rfl⟩
          · have HLO := hide hlo
            have HHI := hide hhi
            go_wp2
            go_round
            case rel => exact .inr (.inl ⟨by have := HLO.out; omega, by have := HHI.out; omega, (64 * ((s[0].toNat : Int) % 8) + (s[1].toNat : Int) % 64), hide rfl, by have := HV.out; omega, by have := HV.out; omega, congrArg (Value.int .i64) (by have := HV.out; omega), rfl⟩)
            case measure => simp [intOf]
      · have F1 := hide (And.intro f1 g1); 
        by_cases hlo : (s[2].toNat : Int) < 128
        · have HLO := hide hlo
          go_wp2
          go_ret2
          exact ⟨ret_pair (rn_bad (d4n HB.out.1 HB.out.2 (.inr (.inr (.inr (.inl (by rw [← E2.out]; have := HLO.out; omega))))) (byN_lt s 1) (byN_lt s 2) (byN_lt s 3))), rfl⟩
        · by_cases hhi : (192 : Int) ≤ (s[2].toNat : Int)
          · have HHI := hide hhi
            go_wp2
            go_ret2
            exact ⟨ret_pair (rn_bad (d4n HB.out.1 HB.out.2 (.inr (.inr (.inr (.inr (.inl (by rw [← E2.out]; have := HHI.out; omega)))))) (byN_lt s 1) (byN_lt s 2) (byN_lt s 3))), rfl⟩
          · have HLO := hide hlo
            have HHI := hide hhi
            go_wp2
            go_round
            case rel => exact .inr (.inr (.inl ⟨F1.out.1, F1.out.2, by have := HLO.out; omega, by have := HHI.out; omega, (64 * (64 * ((s[0].toNat : Int) % 8) + (s[1].toNat : Int) % 64) + (s[2].toNat : Int) % 64), hide rfl, by have := HV.out; omega, by have := HV.out; omega, congrArg (Value.int .i64) (by have := HV.out; omega), rfl⟩))
            case measure => simp [intOf]
      · have F1 := hide (And.intro f1 g1); have F2 := hide (And.intro f2 g2); 
        by_cases hlo : (s[3].toNat : Int) < 128
        · have HLO := hide hlo
          go_wp2
          go_ret2
          exact ⟨ret_pair (rn_bad (d4n HB.out.1 HB.out.2 (.inr (.inr (.inr (.inr (.inr (.inl (by rw [← E3.out]; have := HLO.out; omega))))))) (byN_lt s 1) (byN_lt s 2) (byN_lt s 3))), rfl⟩
        · by_cases hhi : (192 : Int) ≤ (s[3].toNat : Int)
          · have HHI := hide hhi
            go_wp2
            go_ret2
            exact ⟨ret_pair (rn_bad (d4n HB.out.1 HB.out.2 (.inr (.inr (.inr (.inr (.inr (.inr ((by rw [← E3.out]; have := HHI.out; omega)))))))) (byN_lt s 1) (byN_lt s 2) (byN_lt s 3))), rfl⟩
          · have HLO := hide hlo
            have HHI := hide hhi
            go_wp2
            go_round
            case rel => exact .inr (.inr (.inr (⟨F1.out.1, F1.out.2, F2.out.1, F2.out.2, by have := HLO.out; omega, by have := HHI.out; omega, (64 * (64 * (64 * ((s[0].toNat : Int) % 8) + (s[1].toNat : Int) % 64) + (s[2].toNat : Int) % 64) + (s[3].toNat : Int) % 64), hide rfl, by have := HV.out; omega, by have := HV.out; omega, congrArg (Value.int .i64) (by have := HV.out; omega), rfl⟩)))
            case measure => simp [intOf]
      · have F1 := hide (And.intro f1 g1); have F2 := hide (And.intro f2 g2); have F3 := hide (And.intro f3 g3); 
        have EV := hide (show r = (((64 * (64 * (64 * (byN s 0 % 8) + byN s 1 % 64) + byN s 2 % 64) + byN s 3 % 64) : Nat) : Int) by rw [← HV.out, E0.out, E1.out, E2.out, E3.out]; omega)
        clear f1 g1 f2 g2 f3 g3
        by_cases hlow : r < 65536
        · have HLOW := hide hlow
          go_wp2
          go_ret2
          exact ⟨ret_pair (rn_bad (d4l HB.out.1 HB.out.2 (by omega) (by rw [← E1.out]; have := F1.out; omega) (by rw [← E1.out]; have := F1.out; omega) (by rw [← E2.out]; have := F2.out; omega) (by rw [← E2.out]; have := F2.out; omega) (by rw [← E3.out]; have := F3.out; omega) (by rw [← E3.out]; have := F3.out; omega) (.inl (by have := HLOW.out; have := EV.out; omega)))), rfl⟩
        · have HLOW := hide hlow
          cases hch : charB r
          · have HC := hide (of_decide_eq_false hch)
            go_wp2_with (go_at_call 111; refine (s_char _ _).mono ?_; rintro e w' ⟨rfl, rfl⟩)
            go_ret2
            exact ⟨ret_pair (rn_bad (d4l HB.out.1 HB.out.2 (by omega) (by rw [← E1.out]; have := F1.out; omega) (by rw [← E1.out]; have := F1.out; omega) (by rw [← E2.out]; have := F2.out; omega) (by rw [← E2.out]; have := F2.out; omega) (by rw [← E3.out]; have := F3.out; omega) (by rw [← E3.out]; have := F3.out; omega) (by have := HC.out; have := HLOW.out; have := EV.out; omega))), rfl⟩
          · have HC := hide (of_decide_eq_true hch)
            go_wp2_with (go_at_call 111; refine (s_char _ _).mono ?_; rintro e w' ⟨rfl, rfl⟩)
            go_ret2
            exact ⟨ret_pair (rn_ok (d4y HB.out.1 HB.out.2 (by omega) (by rw [← E1.out]; have := F1.out; omega) (by rw [← E1.out]; have := F1.out; omega) (by rw [← E2.out]; have := F2.out; omega) (by rw [← E2.out]; have := F2.out; omega) (by rw [← E3.out]; have := F3.out; omega) (by rw [← E3.out]; have := F3.out; omega) (by have := HLOW.out; have := EV.out; omega) (by have := HC.out; have := EV.out; omega)) (.inl (by decide)) EV.out rfl), rfl⟩

theorem s_rune (s : ByteArray) (w : World) (hs : s.size ≤ 1048576) (h0 : 0 < s.size) :
    Calls Tryz.prog 89 #[.string s] w fun e w' => e = .returned (.tuple #[.int .i64 (rn s).1, .int .i64 (rn s).2]) ∧ w' = w := by
  by_cases h1 : byN s 0 < 192 ∨ 248 ≤ byN s 0
  · exact s_rune1 s w hs h0 h1
  · by_cases h2 : byN s 0 < 224
    · exact s_rune2 s w hs h0 (by omega) h2
    · by_cases h3 : byN s 0 < 240
      · exact s_rune3 s w hs h0 (by omega) h3
      · exact s_rune4 s w hs h0 (by omega) (by omega)
end Go.Proofs.YthcggdjkfebemaaGreatDoor

/-
  Contracts of the laws' helpers on rows of int64: a copy in new memory, and whether two rows are alike; nothing that was there is written.
-/
namespace Go.Proofs.YthcggdjkfebemaaGreatDoor
open Go.RowKit
set_option linter.unusedVariables false
set_option linter.unusedSimpArgs false

theorem info64 : (Tryz.prog.info? 2).map (fun i => (i.zero, i.size, i.bytes)) = some (some (.int .i64 0), 1, 8) := by kernel_rfl

/-- What is laid of a row of int64: its first 'n' cells hold 'xs', in a block below 'B'. -/
def RowAt (k : IntKind) (w : World) (a : Option Addr) (xs : List Int) (B : Nat) : Prop :=
  xs ≠ [] → ∃ b off, a = some ⟨b, off, none⟩ ∧ b < B ∧ ∀ j, j < xs.length → w.cell? ⟨b, off + j, none⟩ = some (.int k (xs[j]?.getD 0))

theorem set_step (xs : List Int) (n k : Nat) (hn : xs.length = n) (hk : k < n) :
    ((xs.take k ++ List.replicate (n - k) 0).map (Value.int .i64)).set k (.int .i64 (xs[k]?.getD 0)) = (xs.take (k + 1) ++ List.replicate (n - (k + 1)) 0).map (Value.int .i64) := by
  apply List.ext_getElem
  · simp; omega
  · intro i h1 h2
    simp at h1 h2
    simp only [List.getElem_set, List.getElem_map, List.getElem_append, List.getElem_take, List.length_take, List.getElem_replicate]
    by_cases e : k = i
    · subst e
      simp [List.getElem?_eq_getElem (show k < xs.length by omega), show k < min (k + 1) xs.length by omega]
    · simp only [e, if_false]
      by_cases h : i < k
      · simp [show i < min k xs.length by omega, show i < min (k + 1) xs.length by omega]
      · simp [show ¬ i < min k xs.length by omega, show ¬ i < min (k + 1) xs.length by omega]


theorem get_ext (xs ys : List Int) (h : xs.length = ys.length) (hk : ∀ j, j < xs.length → xs[j]?.getD 0 = ys[j]?.getD 0) : xs = ys := by
  apply List.ext_getElem h
  intro i h1 h2
  have := hk i h1
  simpa [List.getElem?_eq_getElem h1, List.getElem?_eq_getElem h2] using this
theorem rowAt_cell {k : IntKind} {w : World} {a : Option Addr} {xs : List Int} {B : Nat} (h : RowAt k w a xs B) (j : Nat) (hj : j < xs.length) : ∃ b off, a = some ⟨b, off, none⟩ ∧ b < B ∧ ∀ j, j < xs.length → w.cell? ⟨b, off + j, none⟩ = some (.int k (xs[j]?.getD 0)) :=
  h (fun e => by rw [e] at hj; simp at hj)
theorem eqB_f (xs ys : List Int) (h : xs ≠ ys) : false = decide (xs = ys) := (decide_eq_false h).symm
theorem eqB_t (xs ys : List Int) (h : xs = ys) : true = decide (xs = ys) := (decide_eq_true h).symm


end Go.Proofs.YthcggdjkfebemaaGreatDoor
