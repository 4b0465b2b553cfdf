/-
  Texts put together: RmD, BtMath, Shelf, BtI, PaI.
-/
import Derived.Test.YtfohfljdgmlibaaDoorR6
import Derived.Test.YtfohfljdgmlibaaDoorR7
import Derived.Test.YtfohfljdgmlibaaDoorR1
import Derived.Lib.TrailingZeros
import Derived.Shelf.Lays7
import Derived.Shelf.Spec.TrailingZeros
import Derived.Test.YtfohfljdgmlibaaDoorProg
import Derived.Laws.Bits64b
import Derived.Laws.BitsAllLaws
/-
  Contracts of the drawing reader: the text of a model's part; the drawn model, whatever the code is.
-/
namespace Go.Proofs.YtfohfljdgmlibaaDoor
open Go.RowKit Go.Joins
set_option linter.unusedVariables false
set_option linter.unusedSimpArgs false
/-- How long the text of a part may be. -/
def mtL : Nat → Nat
  | 0 => 2
  | d + 1 => 3 * mtL d + 5
set_option maxRecDepth 100000 in
set_option maxHeartbeats 4000000 in
theorem d_mtextF (G : Nat) (a : Option Addr) (n cap : Nat) (zs : List Int) (d : Nat) (w : World) (hd : d ≤ 2) (h : RdAt w G a n cap zs)
    (hI : ∀ e, d = e + 1 → ∀ w, RdAt w G a n cap zs → Calls Tryd.prog 61 #[.pointer (some ⟨G, 0, none⟩), .int .i64 e] w fun r w' => ∃ t : ByteArray, t.size ≤ mtL e ∧ r = .returned (.string t) ∧ Drew G a n cap zs w w') :
    Calls Tryd.prog 61 #[.pointer (some ⟨G, 0, none⟩), .int .i64 d] w fun r w' => ∃ t : ByteArray, t.size ≤ mtL d ∧ r = .returned (.string t) ∧ Drew G a n cap zs w w' := by
  have HH := hide h
  have hG := rd_lt h
  have HI := hide hI
  clear h hI
  have hm2 : mtL d ≤ 1000 := by
    rcases (show d = 0 ∨ d = 1 ∨ d = 2 by omega) with rfl | rfl | rfl <;> decide
  have hm1 : 2 ≤ mtL d := by
    rcases (show d = 0 ∨ d = 1 ∨ d = 2 by omega) with rfl | rfl | rfl <;> decide
  go_enter Tryd.func61, Tryd.ntmps61
  go_wp2_with fail
  refine (d_below G a n cap zs 5 _ (by omega) (by omega) (rd_alloc HH.out _)).mono ?_
  rintro e w1 ⟨x, hx0, hx1, rfl, hd1⟩
  obtain ⟨sg, hsg, hsg1⟩ := str_cell 1 hd1.2 hx0 hx1 rfl hG (fun k hk => by
    have hk' : k < 5 := hk
    have hx : k = 0 ∨ k = 1 ∨ k = 2 ∨ k = 3 ∨ k = 4 := by omega
    rcases hx with e | e | e | e | e <;> subst e <;> exact ⟨_, rfl, by decide⟩)
  have HD1 := hide (drew_alloc _ hd1)
  have hG1 := rd_lt hd1.1
  clear hd1
  go_upto_region 2 with fail
  clear hsg
  go_cut [19] (fun v wx => ∃ b : Bool, v = .bool b ∧ Hid (Drew G a n cap zs w wx) ∧ (d = 0 → b = true))
  case first =>
    by_cases hd0 : d = 0
    · subst hd0
      go_wp2
      go_meet
      exact ⟨true, rfl, HD1, fun _ => rfl⟩
    · have hd0b : (((d : Nat) : Int) == 0) = false := by simp; omega
      go_wp2_with fail
      refine (d_once G a n cap zs 2 _ (by omega) (by omega) HD1.out.1).mono ?_
      rintro e w2 ⟨b, rfl, hd2⟩
      have HD2 := hide (drew_trans HD1.out hd2)
      clear hd2
      cases b
      all_goals
        go_wp2
        go_meet
        exact ⟨_, rfl, HD2, fun h => absurd h hd0⟩
  case rest =>
    obtain ⟨b, rfl, HD2, hb0⟩ := hcut
    have hG2 := rd_lt HD2.out.1
    clear HD1
    cases b
    case true =>
      go_wp2_with fail
      refine (d_below G a n cap zs 7 _ (by omega) (by omega) (rd_alloc HD2.out.1 _)).mono ?_
      rintro e w3 ⟨y, hy0, hy1, rfl, hd3⟩
      obtain ⟨nm, hnm, hnm1⟩ := str_cell 1 hd3.2 hy0 hy1 rfl hG2 (fun k hk => by
        have hk' : k < 7 := hk
        have hx : k = 0 ∨ k = 1 ∨ k = 2 ∨ k = 3 ∨ k = 4 ∨ k = 5 ∨ k = 6 := by omega
        rcases hx with e | e | e | e | e | e | e <;> subst e <;> exact ⟨_, rfl, by decide⟩)
      have HD3 := hide (drew_trans HD2.out (drew_alloc _ hd3))
      have hsz : ¬ 9223372036854775807 < nm.size + sg.size := by omega
      clear hd3
      go_wp2
      go_ret
      exact ⟨nm ++ sg, by rw [ByteArray.size_append]; omega, rfl, HD3.out⟩
    case false =>
      have hd1 : 1 ≤ d := by
        rcases Nat.eq_zero_or_pos d with h | h
        · cases hb0 h
        · exact h
      obtain ⟨f, rfl⟩ : ∃ f, d = f + 1 := ⟨d - 1, by omega⟩
      have hfi : (((f + 1 : Nat) : Int)) - 1 = (f : Int) := by omega
      have hfw : IntKind.i64.wrap ((((f + 1 : Nat) : Int)) - 1) = (f : Int) := by rw [IntKind.wrap_i64]; omega
      have CI := hide (HI.out f rfl)
      have HML : Hid (mtL (f + 1) = 3 * mtL f + 5) := hide rfl
      obtain ⟨q, hq⟩ : ∃ q, mtL f = q := ⟨_, rfl⟩
      rw [hq] at CI HML
      have hq2 : 3 * q + 5 ≤ 1000 := by rw [← HML.out]; exact hm2
      clear hq hb0 hm2 hm1
      go_wp2_with fail
      refine (CI.out _ HD2.out.1).mono ?_
      rintro e w3 ⟨t0, ht0, rfl, hd3⟩
      have HD3 := hide (drew_trans HD2.out hd3)
      have hG3 := rd_lt hd3.1
      clear hd3 HD2
      go_wp2_with fail
      refine (d_below G a n cap zs 2 _ (by omega) (by omega) (rd_alloc HD3.out.1 _)).mono ?_
      rintro e w4 ⟨y, hy0, hy1, rfl, hd4⟩
      obtain ⟨bt, hbt, hbt1⟩ := str_cell 1 hd4.2 hy0 hy1 rfl hG3 (fun k hk => by
        have hk' : k < 2 := hk
        have hx : k = 0 ∨ k = 1 := by omega
        rcases hx with e | e <;> subst e <;> exact ⟨_, rfl, by decide⟩)
      have HD4 := hide (drew_trans HD3.out (drew_alloc _ hd4))
      clear hd4 HD3
      go_wp2_with fail
      refine (d_below G a n cap zs 3 _ (by omega) (by omega) HD4.out.1).mono ?_
      rintro e w5 ⟨z, hz0, hz1, rfl, hd5⟩
      have HD5 := hide (drew_trans HD4.out hd5)
      clear hd5 HD4 hbt
      go_wp2_with fail
      go_loopw [6, 8] (fun vs vi wr => ∃ (t : ByteArray) (k : Nat), vs = .string t ∧ vi = .int .i64 k ∧ k ≤ 2 ∧ t.size + k * (q + 1) ≤ 3 * q + 2 ∧ Hid (Drew G a n cap zs w wr)) (fun _ vi _ => (intOf vi).toNat)
      case atStart =>
        refine ⟨t0, z.toNat, rfl, by congr 1; omega, by omega, ?_, HD5⟩
        have : z.toNat * (q + 1) ≤ 2 * (q + 1) := Nat.mul_le_mul_right _ (by omega)
        omega
      case round =>
        clear HD5
        obtain ⟨t, k, rfl, rfl, hk, htk, HD5⟩ := hrel
        by_cases hk0 : 0 < k
        · have hk1 : (0 : Int) < (k : Int) := by omega
          obtain ⟨j, rfl⟩ : ∃ j, k = j + 1 := ⟨k - 1, by omega⟩
          have hkm : (j + 1) * (q + 1) = j * (q + 1) + (q + 1) := Nat.succ_mul j (q + 1)
          have hs1 : ¬ 9223372036854775807 < t.size + bt.size := by omega
          have hki : ((j + 1 : Nat) : Int) - 1 = (j : Int) := by omega
          go_wp2_with fail
          refine (CI.out _ HD5.out.1).mono ?_
          rintro e w6 ⟨t2, ht2, rfl, hd6⟩
          have HD6 := hide (drew_trans HD5.out hd6)
          have hs2 : ¬ 9223372036854775807 < t.size + bt.size + t2.size := by omega
          clear hd6 HD5
          go_wp2
          go_roundw
          case rel => exact ⟨t ++ bt ++ t2, j, rfl, by go_num, by omega, by rw [ByteArray.size_append, ByteArray.size_append]; omega, HD6⟩
          case measure => simp [intOf]
        · have hk0' : k = 0 := by omega
          subst hk0'
          have hs1 : ¬ 9223372036854775807 < 1 + t.size := by omega
          have hs2 : ¬ 9223372036854775807 < 1 + t.size + 1 := by omega
          have hs3 : ¬ 9223372036854775807 < 1 + t.size + 1 + sg.size := by omega
          go_wp2
          go_ret
          refine ⟨_, ?_, rfl, HD5.out⟩
          rw [HML.out]
          simp only [ByteArray.size_append]
          show 1 + t.size + 1 + sg.size ≤ _
          omega
theorem d_mtext (G : Nat) (a : Option Addr) (n cap : Nat) (zs : List Int) : ∀ (d : Nat), d ≤ 2 → ∀ w : World, RdAt w G a n cap zs →
    Calls Tryd.prog 61 #[.pointer (some ⟨G, 0, none⟩), .int .i64 d] w fun r w' => ∃ t : ByteArray, t.size ≤ mtL d ∧ r = .returned (.string t) ∧ Drew G a n cap zs w w'
  | 0, hd, w, h => d_mtextF G a n cap zs 0 w hd h (fun e he => by omega)
  | d + 1, hd, w, h => d_mtextF G a n cap zs (d + 1) w hd h (fun e he w' h' => by
      have : e = d := by omega
      subst this
      exact d_mtext G a n cap zs e (by omega) w' h')
end Go.Proofs.YtfohfljdgmlibaaDoor

/-
  Plain facts on sets told by bits, of no program: the places of a set, in order.
-/
namespace Go.Proofs.YtfohfljdgmlibaaDoor
set_option linter.unusedVariables false
set_option linter.unusedSimpArgs false
/-- The set without its lowest place. -/
def cutB (x : Nat) : Nat := x &&& (x - 1)
theorem cut_lt {x : Nat} (h : x ≠ 0) : cutB x < x := by
  have : x &&& (x - 1) ≤ x - 1 := Nat.and_le_right
  unfold cutB
  omega
theorem ctz_form {x : Nat} (h0 : x ≠ 0) (h : x < 18446744073709551616) : ∃ m, x = 2 ^ Lib.ctz 64 x * (2 * m + 1) ∧ Lib.ctz 64 x < 64 := by
  obtain ⟨m, hm, hk⟩ := Lib.ctzFrom_spec 64 x (by omega) h
  have e : Lib.ctz 64 x = Lib.ctzFrom 64 x := by simp [Lib.ctz, h0]
  rw [e]
  exact ⟨m, hm, hk⟩
theorem ctz_bit {x : Nat} (h0 : x ≠ 0) (h : x < 18446744073709551616) : x.testBit (Lib.ctz 64 x) = true ∧ ∀ j, j < Lib.ctz 64 x → x.testBit j = false := by
  obtain ⟨m, hm, hk⟩ := ctz_form h0 h
  obtain ⟨k, hkk⟩ : ∃ k, Lib.ctz 64 x = k := ⟨_, rfl⟩
  rw [hkk] at hm ⊢
  have hp : 0 < 2 ^ k := Nat.two_pow_pos k
  refine ⟨?_, fun j hj => ?_⟩
  · rw [Nat.testBit_eq_decide_div_mod_eq, hm, Nat.mul_div_cancel_left _ hp, decide_eq_true_eq]
    omega
  · rw [Nat.testBit_eq_decide_div_mod_eq, hm, decide_eq_false_iff_not]
    obtain ⟨d, rfl⟩ : ∃ d, k = j + 1 + d := ⟨k - (j + 1), by omega⟩
    rw [show 2 ^ (j + 1 + d) * (2 * m + 1) = 2 ^ j * (2 * (2 ^ d * (2 * m + 1))) by rw [Nat.pow_add, Nat.pow_succ]; simp only [Nat.mul_assoc], Nat.mul_div_cancel_left _ (Nat.two_pow_pos j)]
    omega
theorem cut_bit {x : Nat} (h0 : x ≠ 0) (h : x < 18446744073709551616) (j : Nat) : (cutB x).testBit j = (x.testBit j && decide (j ≠ Lib.ctz 64 x)) := by
  obtain ⟨m, hm, hk⟩ := ctz_form h0 h
  have hb := ctz_bit h0 h
  obtain ⟨k, hkk⟩ : ∃ k, Lib.ctz 64 x = k := ⟨_, rfl⟩
  rw [hkk] at hm hb ⊢
  have hp : 0 < 2 ^ k := Nat.two_pow_pos k
  unfold cutB
  rw [Nat.testBit_and]
  rcases Nat.lt_trichotomy j k with hj | hj | hj
  · rw [hb.2 j hj]; rfl
  · subst hj
    have e : (x - 1).testBit j = false := by
      rw [Nat.testBit_eq_decide_div_mod_eq, decide_eq_false_iff_not]
      have : (x - 1) / 2 ^ j = 2 * m := by
        rw [show x - 1 = 2 ^ j * (2 * m) + (2 ^ j - 1) by rw [hm, Nat.mul_add]; omega, Nat.mul_add_div hp, Nat.div_eq_of_lt (by omega)]
        omega
      rw [this]
      omega
    rw [e]
    simp
  · have e : (x - 1).testBit j = x.testBit j := by
      obtain ⟨d, rfl⟩ : ∃ d, j = k + 1 + d := ⟨j - (k + 1), by omega⟩
      rw [Nat.testBit_eq_decide_div_mod_eq, Nat.testBit_eq_decide_div_mod_eq]
      have h1 : (x - 1) / 2 ^ (k + 1) = m := by
        rw [show x - 1 = 2 ^ (k + 1) * m + (2 ^ k - 1) by rw [hm, Nat.mul_add, Nat.pow_succ, Nat.mul_assoc]; omega, Nat.mul_add_div (Nat.two_pow_pos _), Nat.div_eq_of_lt (by rw [Nat.pow_succ]; omega)]
        omega
      have h2 : x / 2 ^ (k + 1) = m := by
        rw [show x = 2 ^ (k + 1) * m + 2 ^ k by rw [hm, Nat.mul_add, Nat.pow_succ, Nat.mul_assoc]; omega, Nat.mul_add_div (Nat.two_pow_pos _), Nat.div_eq_of_lt (by rw [Nat.pow_succ]; omega)]
        omega
      rw [Nat.pow_add, ← Nat.div_div_eq_div_mul, ← Nat.div_div_eq_div_mul, h1, h2]
    rw [e, decide_eq_true (by omega)]
    cases x.testBit j <;> rfl
/-- The places of a set. -/
def btF : Nat → Nat → List Int
  | 0, _ => []
  | f + 1, x => if x = 0 then [] else (Lib.ctz 64 x : Int) :: btF f (cutB x)
def bts (x : Nat) : List Int := btF (x + 1) x
theorem btF_more : ∀ (f g x : Nat), x < f → x < g → btF f x = btF g x
  | 0, g, x, h1, h2 => by omega
  | f + 1, 0, x, h1, h2 => by omega
  | f + 1, g + 1, x, h1, h2 => by
    rw [btF, btF]
    split
    · rfl
    · rename_i h0
      have := cut_lt h0
      rw [btF_more f g (cutB x) (by omega) (by omega)]
theorem bts_zero : bts 0 = [] := rfl
theorem bts_step {x : Nat} (h : x ≠ 0) : bts x = (Lib.ctz 64 x : Int) :: bts (cutB x) := by
  have := cut_lt h
  unfold bts
  rw [btF, if_neg h, btF_more x (cutB x + 1) (cutB x) (by omega) (by omega)]
theorem bts_mem : ∀ (m x : Nat), x < m → x < 18446744073709551616 → ∀ (z : Int), z ∈ bts x ↔ ∃ j : Nat, z = j ∧ x.testBit j = true
  | 0, x, hm, hx, z => by omega
  | m + 1, x, hm, hx, z => by
    by_cases h0 : x = 0
    · subst h0
      rw [bts_zero]
      simp
    · have hc := cut_lt h0
      rw [bts_step h0, List.mem_cons, bts_mem m (cutB x) (by omega) (by omega) z]
      constructor
      · rintro (rfl | ⟨j, rfl, hj⟩)
        · exact ⟨_, rfl, (ctz_bit h0 hx).1⟩
        · rw [cut_bit h0 hx] at hj
          simp only [Bool.and_eq_true] at hj
          exact ⟨j, rfl, hj.1⟩
      · rintro ⟨j, rfl, hj⟩
        by_cases e : j = Lib.ctz 64 x
        · exact .inl (by rw [e])
        · exact .inr ⟨j, rfl, by rw [cut_bit h0 hx, hj, decide_eq_true e]; rfl⟩
theorem bts_sorted : ∀ (m x : Nat), x < m → x < 18446744073709551616 → (bts x).Pairwise (· < ·)
  | 0, x, hm, hx => by omega
  | m + 1, x, hm, hx => by
    by_cases h0 : x = 0
    · subst h0; exact List.Pairwise.nil
    · have hc := cut_lt h0
      rw [bts_step h0]
      refine List.pairwise_cons.2 ⟨fun z hz => ?_, bts_sorted m (cutB x) (by omega) (by omega)⟩
      obtain ⟨j, rfl, hj⟩ := (bts_mem x (cutB x) (by omega) (by omega) z).1 hz
      rw [cut_bit h0 hx] at hj
      simp only [Bool.and_eq_true, decide_eq_true_eq] at hj
      rcases Nat.lt_trichotomy j (Lib.ctz 64 x) with h | h | h
      · rw [(ctz_bit h0 hx).2 j h] at hj; exact absurd hj.1 (by decide)
      · exact absurd h hj.2
      · omega
theorem bts_range {n x : Nat} (hx : x < 18446744073709551616) (hn : x < 2 ^ n) : ∀ z ∈ bts x, 0 ≤ z ∧ z < (n : Int) := by
  intro z hz
  obtain ⟨j, rfl, hj⟩ := (bts_mem (x + 1) x (by omega) hx z).1 hz
  refine ⟨by omega, ?_⟩
  rcases Nat.lt_or_ge j n with h | h
  · omega
  · rw [Nat.testBit_lt_two_pow (Nat.lt_of_lt_of_le hn (Nat.pow_le_pow_right (by decide) h))] at hj
    cases hj
theorem sorted_len {n : Nat} : ∀ {L : List Int}, L.Pairwise (· < ·) → (∀ z ∈ L, 0 ≤ z ∧ z < (n : Int)) → L.length ≤ n := by
  have key : ∀ (L : List Int) (a : Int), L.Pairwise (· < ·) → (∀ z ∈ L, a ≤ z ∧ z < (n : Int)) → a ≤ n → (L.length : Int) ≤ n - a := by
    intro L
    induction L with
    | nil => intro a _ _ h; simp; omega
    | cons x t ih =>
      intro a hp hr ha
      obtain ⟨h1, h2⟩ := List.pairwise_cons.1 hp
      have hx := hr x (by simp)
      have := ih (x + 1) h2 (fun z hz => ⟨by have := h1 z hz; omega, (hr z (by simp [hz])).2⟩) (by omega)
      rw [List.length_cons]
      omega
  intro L hp hr
  have := key L 0 hp hr (by omega)
  omega
theorem bts_len {x : Nat} (hx : x < 18446744073709551616) : (bts x).length ≤ 64 := sorted_len (bts_sorted (x + 1) x (by omega) hx) (bts_range (n := 64) hx hx)
end Go.Proofs.YtfohfljdgmlibaaDoor

/-
  Contracts of Go's own library at this program, laid by the shelf's plain mode: each is one application of a theorem of the library.
-/
namespace Go.Proofs
open Go.Shelf
def Tryd.lays29_ren : Go.Shelf.Ren := ⟨fun | 29 => 76 | n => n, fun | 22 => 51 | 3 => 3 | 4 => 4 | 25 => 109 | 54 => 108 | 0 => 0 | 5 => 5 | n => n, fun | 1 => 0 | n => n⟩
theorem Tryd.lays29 : Go.Proofs.Lays7.n29 Tryd.prog Tryd.lays29_ren := {
  mixed := by kernel_rfl
  f29 := Tryd.func76.trans (congrArg some (by kernel_rfl))
  t0 := Tryd.underlying0
  a0 := Tryd.isAgg0
  z0 := Tryd.sizeOf0
  v0 := Tryd.zeroValue0
  i0 := by kernel_rfl
  t3 := Tryd.underlying3
  a3 := Tryd.isAgg3
  z3 := Tryd.sizeOf3
  v3 := Tryd.zeroValue3
  i3 := by kernel_rfl
  t4 := Tryd.underlying4
  a4 := Tryd.isAgg4
  z4 := Tryd.sizeOf4
  v4 := Tryd.zeroValue4
  i4 := by kernel_rfl
  t5 := Tryd.underlying5
  a5 := Tryd.isAgg5
  z5 := Tryd.sizeOf5
  v5 := Tryd.zeroValue5
  i5 := by kernel_rfl
  t22 := Tryd.underlying51
  a22 := Tryd.isAgg51
  z22 := Tryd.sizeOf51
  v22 := Tryd.zeroValue51
  i22 := by kernel_rfl
  t25 := Tryd.underlying109
  a25 := Tryd.isAgg109
  z25 := Tryd.sizeOf109
  v25 := Tryd.zeroValue109
  i25 := by kernel_rfl
  t54 := Tryd.underlying108
  a54 := Tryd.isAgg108
  z54 := Tryd.sizeOf108
  g1 := by kernel_rfl }
end Go.Proofs

/-
  Contracts: sets told by bits (the program's).
-/
namespace Go.Proofs.YtfohfljdgmlibaaDoor
open Go.RowKit
set_option linter.unusedVariables false
set_option linter.unusedSimpArgs false
/-- A row of numbers in memory of one's own. -/
def IntR (B : Nat) (w : World) (ad : Option Addr) (c : Nat) (L : List Int) : Prop := w.ownsRow B 2 1 (.slice ad L.length c) L.length (L.map (Value.int .i64))
theorem gOne_list (k : IntKind) (z : Int) : ∀ u ∈ [Value.int k z], u.oneCell' = true := by
  intro u hu
  simp at hu
  subst hu
  rfl
theorem intR_nil (B : Nat) (w : World) : IntR B w none 0 [] := ⟨rfl, .inl ⟨rfl, rfl⟩⟩
theorem intR_put {B : Nat} {w2 : World} {ad : Option Addr} {c : Nat} {L : List Int} {z : Int} (h : w2.ownsRow B 2 1 (.slice ad (L.length + 1) c) (L.length + 1) (L.map (Value.int .i64) ++ [.int .i64 z])) : IntR B w2 ad c (L ++ [z]) := by
  unfold IntR
  rw [List.length_append, List.length_singleton, List.map_append]
  exact h
/-- The library's table stands. -/
def TzT (w : World) : Prop := TabAt 0 Lib.deBruijn64tab w
theorem tzT_go {w w' : World} {B : Nat} (h : TzT w) (hb : Below B w w') (hB : w.heap.size ≤ B) : TzT w' := fun j hj => (hb.cell (p := ⟨0, j, none⟩) (Nat.lt_of_lt_of_le (World.block_lt_of_cell? _ _ (h j hj)) hB)).trans (h j hj)
theorem i_only (n : Nat) (w : World) (hn : n ≤ 40) : Calls Tryd.prog 35 #[.int .i64 n] w fun e w' => e = .returned (.int .u64 ((2 ^ n : Nat) : Int)) ∧ w' = w := by
  have hs : IntKind.u64.wrap ((2 : Int) ^ n) = ((2 ^ n : Nat) : Int) := by
    have : (2 ^ n : Nat) ≤ 2 ^ 40 := Nat.pow_le_pow_right (by decide) hn
    have e : ((2 : Int) ^ n) = ((2 ^ n : Nat) : Int) := by rw [Int.natCast_pow]; rfl
    rw [e, IntKind.wrap_u64]
    obtain ⟨q, hq⟩ : ∃ q, (2 ^ n : Nat) = q := ⟨_, rfl⟩
    rw [hq] at this ⊢
    have h40 : (2 ^ 40 : Nat) = 1099511627776 := by decide
    omega
  have hn0 : (0 : Int) ≤ (n : Int) := by omega
  go_enter Tryd.func35, Tryd.ntmps35
  go_wp2
  go_ret
  exact ⟨rfl, rfl⟩
set_option maxRecDepth 100000 in
set_option maxHeartbeats 2000000 in
theorem i_list (x : Nat) (w : World) (hx : x < 18446744073709551616) (hT : TzT w) :
    Calls Tryd.prog 43 #[.int .u64 x] w fun e w' => ∃ ad c, e = .returned (.slice ad (bts x).length c) ∧ IntR w.heap.size w' ad c (bts x) ∧ Below w.heap.size w w' := by
  obtain ⟨i0, hi, hz0, hz1, hz2⟩ := info_parts info64
  have HT := hide hT
  have hxl := bts_len hx
  clear hT
  go_enter Tryd.func43, Tryd.ntmps43
  go_wp2
  go_loopw [3, 4] (fun lv rv wr => ∃ (r : Nat) (L : List Int) (ad : Option Addr) (c : Nat), r ≤ x ∧ rv = .int .u64 r ∧ lv = .slice ad L.length c ∧ IntR w.heap.size wr ad c L ∧ Below w.heap.size w wr ∧ Hid (L ++ bts r = bts x)) (fun _ rv _ => (intOf rv).toNat)
  case atStart => exact ⟨x, [], none, 0, Nat.le_refl _, rfl, rfl, intR_nil _ _, Below.refl _ _, hide rfl⟩
  case round =>
    obtain ⟨r, L, ad, c, hr, rfl, rfl, ho, hb, HE⟩ := hrel
    have HO := hide ho
    have HB := hide hb
    have hsz : w.heap.size ≤ wr.heap.size := hb.size
    have hLl : L.length ≤ 64 := by have := congrArg List.length HE.out; rw [List.length_append] at this; omega
    by_cases h0 : r = 0
    · subst h0
      have e : L = bts x := by have := HE.out; rw [bts_zero, List.append_nil] at this; exact this
      subst e
      clear ho hb
      go_wp2
      go_ret
      exact ⟨ad, c, rfl, HO.out, HB.out⟩
    · have hne : ((r : Int) == 0) = false := by rw [beq_eq_false_iff_ne]; omega
      have HST := hide (bts_step h0)
      have hcl := cut_lt h0
      have CT := hide (Any7.bits_TrailingZeros64 Tryd.lays29 r (by omega) wr (fun _ => tzT_go HT.out HB.out (Nat.le_refl _)))
      have hra : bits .and .u64 (r : Int) ((r : Int) - 1) = (cutB r : Int) := by rw [show (r : Int) - 1 = ((r - 1 : Nat) : Int) by omega, bits_and_u64_nat r (r - 1) (by omega) (by omega)]; rfl
      have hrw : IntKind.u64.wrap ((r : Int) - 1) = (r : Int) - 1 := by rw [IntKind.wrap_u64]; omega
      clear ho hb
      obtain ⟨z, hz⟩ : ∃ z, (Lib.ctz 64 r : Int) = z := ⟨_, rfl⟩
      rw [hz] at HST CT
      clear hz
      go_wp2_with (first
        | (go_at_call 76; refine CT.out.mono ?_; rintro e w9 ⟨rfl, h9⟩; rw [h9]; clear h9 w9)
        | (at_builtin; refine wpList_append_own _ rfl (.tmp 12) (.tmp 15) 30 rfl w.heap.size 2 i0 (.int .i64 0) 1 8 Tryd.underlying30 hi hz0 hz1 hz2 rfl (by decide) (.slice ad L.length c) L.length (L.map (Value.int .i64)) rfl (HO.out.alloc _) ⟨wr.heap.size, 0, none⟩ 1 1 [.int .i64 z] rfl rfl (fun j u hj => gOne_new wr _ _ j u hj) (gOne_list _ _) (by unfold maxLen; omega) (by omega) (by simp; omega) ?_; intro v2 w2 hown2 hgrow2 _; obtain ⟨ad2, c2', hv2⟩ := gOwn_shape hown2; rw [hv2] at hown2 ⊢; clear hv2; have HB3 := hide (gBelow_one HB.out HO.out hgrow2); have HO2 := hide hown2; clear hown2 hgrow2))
      go_roundw
      case rel => exact ⟨cutB r, L ++ [z], ad2, c2', by omega, by go_num, by rw [List.length_append, List.length_singleton], intR_put HO2.out, HB3.out, hide (by rw [List.append_assoc, List.singleton_append, ← HST.out]; exact HE.out)⟩
      case measure => simp [intOf]; omega
end Go.Proofs.YtfohfljdgmlibaaDoor

/-
  Contracts: what parts of a model tell (the program's).
-/
namespace Go.Proofs.YtfohfljdgmlibaaDoor
open Go.RowKit
set_option linter.unusedVariables false
set_option linter.unusedSimpArgs false
/-- What a part tells. -/
def paV (e : Bool) (f l : Nat) : Value := .agg #[.bool e, .int .u64 (f : Int), .int .u64 (l : Int)]
def thF (e1 : Bool) (f1 f2 : Nat) : Nat := if e1 = true then f1 ||| f2 else f1
def thL (e2 : Bool) (l2 l1 : Nat) : Nat := if e2 = true then l2 ||| l1 else l2
set_option maxRecDepth 100000 in
set_option maxHeartbeats 4000000 in
theorem i_then (e1 : Bool) (f1 l1 : Nat) (e2 : Bool) (f2 l2 : Nat) (w : World) (h1 : f1 < 18446744073709551616) (h2 : l1 < 18446744073709551616) (h3 : f2 < 18446744073709551616) (h4 : l2 < 18446744073709551616) :
    Calls Tryd.prog 87 #[paV e1 f1 l1, paV e2 f2 l2] w fun e w' => e = .returned (paV (e1 && e2) (thF e1 f1 f2) (thL e2 l2 l1)) ∧ Below w.heap.size w w' := by
  have b1 : bits .or .u64 (f1 : Int) (f2 : Int) = ((f1 ||| f2 : Nat) : Int) := u64_or_nat f1 f2 h1 h3
  have b2 : bits .or .u64 (l2 : Int) (l1 : Int) = ((l2 ||| l1 : Nat) : Int) := u64_or_nat l2 l1 h4 h2
  unfold paV
  cases e1 <;> cases e2
  all_goals
    go_enter Tryd.func87, Tryd.ntmps87
    go_wp2
    refine bodyPost_ret (v := .agg #[_, _, _]) (by simp [results, Tryd.results87, go_sem, b1, b2]; first | done | exact ⟨rfl, rfl, rfl⟩) rfl ⟨?_, ?_⟩
    rotate_left
    · iterate 4 (refine Below.alloc ?_ (by simp; try omega) _)
      exact Below.refl _ _
    · first | rfl | simp [thF, thL, b1, b2]
set_option maxRecDepth 100000 in
set_option maxHeartbeats 4000000 in
theorem i_or (e1 : Bool) (f1 l1 : Nat) (e2 : Bool) (f2 l2 : Nat) (w : World) (h1 : f1 < 18446744073709551616) (h2 : l1 < 18446744073709551616) (h3 : f2 < 18446744073709551616) (h4 : l2 < 18446744073709551616) :
    Calls Tryd.prog 68 #[paV e1 f1 l1, paV e2 f2 l2] w fun e w' => e = .returned (paV (e1 || e2) (f1 ||| f2) (l1 ||| l2)) ∧ Below w.heap.size w w' := by
  have b1 : bits .or .u64 (f1 : Int) (f2 : Int) = ((f1 ||| f2 : Nat) : Int) := u64_or_nat f1 f2 h1 h3
  have b2 : bits .or .u64 (l1 : Int) (l2 : Int) = ((l1 ||| l2 : Nat) : Int) := u64_or_nat l1 l2 h2 h4
  unfold paV
  cases e1 <;> cases e2
  all_goals
    go_enter Tryd.func68, Tryd.ntmps68
    go_wp2
    refine bodyPost_ret (v := .agg #[_, _, _]) (by simp [results, Tryd.results68, go_sem, b1, b2]; first | done | exact ⟨rfl, rfl, rfl⟩) rfl ⟨?_, ?_⟩
    rotate_left
    · iterate 3 (refine Below.alloc ?_ (by simp; try omega) _)
      exact Below.refl _ _
    · first | rfl | simp [b1, b2]
end Go.Proofs.YtfohfljdgmlibaaDoor
