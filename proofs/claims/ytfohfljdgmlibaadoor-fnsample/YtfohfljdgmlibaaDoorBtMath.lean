/-
  Plain facts on sets told by bits, of no program: the places of a set, in order.
-/
import Derived.Test.YtfohfljdgmlibaaDoorBase
import Derived.Lib.TrailingZeros
namespace Go.Proofs.YtfohfljdgmlibaaDoor
set_option linter.unusedVariables false
set_option linter.unusedSimpArgs false
/-- The set without its lowest place. -/
def cutB (x : Nat) : Nat := x &&& (x - 1)
theorem cut_lt {x : Nat} (h : x ≠ 0) : cutB x < x := by
  have : x &&& (x - 1) ≤ x - 1 := Nat.and_le_right
  unfold cutB
  omega
theorem ctz_form {x : Nat} (h0 : x ≠ 0) (h : x < 18446744073709551616) : ∃ m, x = 2 ^ Lib.ctz 64 x * (2 * m + 1) ∧ Lib.ctz 64 x < 64 := by
  obtain ⟨m, hm, hk⟩ := Lib.ctzFrom_spec 64 x (by omega) h
  have e : Lib.ctz 64 x = Lib.ctzFrom 64 x := by simp [Lib.ctz, h0]
  rw [e]
  exact ⟨m, hm, hk⟩
theorem ctz_bit {x : Nat} (h0 : x ≠ 0) (h : x < 18446744073709551616) : x.testBit (Lib.ctz 64 x) = true ∧ ∀ j, j < Lib.ctz 64 x → x.testBit j = false := by
  obtain ⟨m, hm, hk⟩ := ctz_form h0 h
  obtain ⟨k, hkk⟩ : ∃ k, Lib.ctz 64 x = k := ⟨_, rfl⟩
  rw [hkk] at hm ⊢
  have hp : 0 < 2 ^ k := Nat.two_pow_pos k
  refine ⟨?_, fun j hj => ?_⟩
  · rw [Nat.testBit_eq_decide_div_mod_eq, hm, Nat.mul_div_cancel_left _ hp, decide_eq_true_eq]
    omega
  · rw [Nat.testBit_eq_decide_div_mod_eq, hm, decide_eq_false_iff_not]
    obtain ⟨d, rfl⟩ : ∃ d, k = j + 1 + d := ⟨k - (j + 1), by omega⟩
    rw [show 2 ^ (j + 1 + d) * (2 * m + 1) = 2 ^ j * (2 * (2 ^ d * (2 * m + 1))) by rw [Nat.pow_add, Nat.pow_succ]; simp only [Nat.mul_assoc], Nat.mul_div_cancel_left _ (Nat.two_pow_pos j)]
    omega
theorem cut_bit {x : Nat} (h0 : x ≠ 0) (h : x < 18446744073709551616) (j : Nat) : (cutB x).testBit j = (x.testBit j && decide (j ≠ Lib.ctz 64 x)) := by
  obtain ⟨m, hm, hk⟩ := ctz_form h0 h
  have hb := ctz_bit h0 h
  obtain ⟨k, hkk⟩ : ∃ k, Lib.ctz 64 x = k := ⟨_, rfl⟩
  rw [hkk] at hm hb ⊢
  have hp : 0 < 2 ^ k := Nat.two_pow_pos k
  unfold cutB
  rw [Nat.testBit_and]
  rcases Nat.lt_trichotomy j k with hj | hj | hj
  · rw [hb.2 j hj]; rfl
  · subst hj
    have e : (x - 1).testBit j = false := by
      rw [Nat.testBit_eq_decide_div_mod_eq, decide_eq_false_iff_not]
      have : (x - 1) / 2 ^ j = 2 * m := by
        rw [show x - 1 = 2 ^ j * (2 * m) + (2 ^ j - 1) by rw [hm, Nat.mul_add]; omega, Nat.mul_add_div hp, Nat.div_eq_of_lt (by omega)]
        omega
      rw [this]
      omega
    rw [e]
    simp
  · have e : (x - 1).testBit j = x.testBit j := by
      obtain ⟨d, rfl⟩ : ∃ d, j = k + 1 + d := ⟨j - (k + 1), by omega⟩
      rw [Nat.testBit_eq_decide_div_mod_eq, Nat.testBit_eq_decide_div_mod_eq]
      have h1 : (x - 1) / 2 ^ (k + 1) = m := by
        rw [show x - 1 = 2 ^ (k + 1) * m + (2 ^ k - 1) by rw [hm, Nat.mul_add, Nat.pow_succ, Nat.mul_assoc]; omega, Nat.mul_add_div (Nat.two_pow_pos _), Nat.div_eq_of_lt (by rw [Nat.pow_succ]; omega)]
        omega
      have h2 : x / 2 ^ (k + 1) = m := by
        rw [show x = 2 ^ (k + 1) * m + 2 ^ k by rw [hm, Nat.mul_add, Nat.pow_succ, Nat.mul_assoc]; omega, Nat.mul_add_div (Nat.two_pow_pos _), Nat.div_eq_of_lt (by rw [Nat.pow_succ]; omega)]
        omega
      rw [Nat.pow_add, ← Nat.div_div_eq_div_mul, ← Nat.div_div_eq_div_mul, h1, h2]
    rw [e, decide_eq_true (by omega)]
    cases x.testBit j <;> rfl
/-- The places of a set. -/
def btF : Nat → Nat → List Int
  | 0, _ => []
  | f + 1, x => if x = 0 then [] else (Lib.ctz 64 x : Int) :: btF f (cutB x)
def bts (x : Nat) : List Int := btF (x + 1) x
theorem btF_more : ∀ (f g x : Nat), x < f → x < g → btF f x = btF g x
  | 0, g, x, h1, h2 => by omega
  | f + 1, 0, x, h1, h2 => by omega
  | f + 1, g + 1, x, h1, h2 => by
    rw [btF, btF]
    split
    · rfl
    · rename_i h0
      have := cut_lt h0
      rw [btF_more f g (cutB x) (by omega) (by omega)]
theorem bts_zero : bts 0 = [] := rfl
theorem bts_step {x : Nat} (h : x ≠ 0) : bts x = (Lib.ctz 64 x : Int) :: bts (cutB x) := by
  have := cut_lt h
  unfold bts
  rw [btF, if_neg h, btF_more x (cutB x + 1) (cutB x) (by omega) (by omega)]
theorem bts_mem : ∀ (m x : Nat), x < m → x < 18446744073709551616 → ∀ (z : Int), z ∈ bts x ↔ ∃ j : Nat, z = j ∧ x.testBit j = true
  | 0, x, hm, hx, z => by omega
  | m + 1, x, hm, hx, z => by
    by_cases h0 : x = 0
    · subst h0
      rw [bts_zero]
      simp
    · have hc := cut_lt h0
      rw [bts_step h0, List.mem_cons, bts_mem m (cutB x) (by omega) (by omega) z]
      constructor
      · rintro (rfl | ⟨j, rfl, hj⟩)
        · exact ⟨_, rfl, (ctz_bit h0 hx).1⟩
        · rw [cut_bit h0 hx] at hj
          simp only [Bool.and_eq_true] at hj
          exact ⟨j, rfl, hj.1⟩
      · rintro ⟨j, rfl, hj⟩
        by_cases e : j = Lib.ctz 64 x
        · exact .inl (by rw [e])
        · exact .inr ⟨j, rfl, by rw [cut_bit h0 hx, hj, decide_eq_true e]; rfl⟩
theorem bts_sorted : ∀ (m x : Nat), x < m → x < 18446744073709551616 → (bts x).Pairwise (· < ·)
  | 0, x, hm, hx => by omega
  | m + 1, x, hm, hx => by
    by_cases h0 : x = 0
    · subst h0; exact List.Pairwise.nil
    · have hc := cut_lt h0
      rw [bts_step h0]
      refine List.pairwise_cons.2 ⟨fun z hz => ?_, bts_sorted m (cutB x) (by omega) (by omega)⟩
      obtain ⟨j, rfl, hj⟩ := (bts_mem x (cutB x) (by omega) (by omega) z).1 hz
      rw [cut_bit h0 hx] at hj
      simp only [Bool.and_eq_true, decide_eq_true_eq] at hj
      rcases Nat.lt_trichotomy j (Lib.ctz 64 x) with h | h | h
      · rw [(ctz_bit h0 hx).2 j h] at hj; exact absurd hj.1 (by decide)
      · exact absurd h hj.2
      · omega
theorem bts_range {n x : Nat} (hx : x < 18446744073709551616) (hn : x < 2 ^ n) : ∀ z ∈ bts x, 0 ≤ z ∧ z < (n : Int) := by
  intro z hz
  obtain ⟨j, rfl, hj⟩ := (bts_mem (x + 1) x (by omega) hx z).1 hz
  refine ⟨by omega, ?_⟩
  rcases Nat.lt_or_ge j n with h | h
  · omega
  · rw [Nat.testBit_lt_two_pow (Nat.lt_of_lt_of_le hn (Nat.pow_le_pow_right (by decide) h))] at hj
    cases hj
theorem sorted_len {n : Nat} : ∀ {L : List Int}, L.Pairwise (· < ·) → (∀ z ∈ L, 0 ≤ z ∧ z < (n : Int)) → L.length ≤ n := by
  have key : ∀ (L : List Int) (a : Int), L.Pairwise (· < ·) → (∀ z ∈ L, a ≤ z ∧ z < (n : Int)) → a ≤ n → (L.length : Int) ≤ n - a := by
    intro L
    induction L with
    | nil => intro a _ _ h; simp; omega
    | cons x t ih =>
      intro a hp hr ha
      obtain ⟨h1, h2⟩ := List.pairwise_cons.1 hp
      have hx := hr x (by simp)
      have := ih (x + 1) h2 (fun z hz => ⟨by have := h1 z hz; omega, (hr z (by simp [hz])).2⟩) (by omega)
      rw [List.length_cons]
      omega
  intro L hp hr
  have := key L 0 hp hr (by omega)
  omega
theorem bts_len {x : Nat} (hx : x < 18446744073709551616) : (bts x).length ≤ 64 := sorted_len (bts_sorted (x + 1) x (by omega) hx) (bts_range (n := 64) hx hx)
end Go.Proofs.YtfohfljdgmlibaaDoor
