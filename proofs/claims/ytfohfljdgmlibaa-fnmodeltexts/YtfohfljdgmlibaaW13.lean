/-
  Texts put together: RmD, FwK.
-/
import Derived.Test.YtfohfljdgmlibaaW11
import Derived.Test.YtfohfljdgmlibaaW12
import Derived.Test.YtfohfljdgmlibaaW6
/-
  Contracts of the drawing reader: the text of a model's part; the drawn model, whatever the code is.
-/
namespace Go.Proofs.Ytfohfljdgmlibaa
open Go.RowKit Go.Joins
set_option linter.unusedVariables false
set_option linter.unusedSimpArgs false
/-- How long the text of a part may be. -/
def mtL : Nat → Nat
  | 0 => 2
  | d + 1 => 3 * mtL d + 5
set_option maxRecDepth 100000 in
set_option maxHeartbeats 4000000 in
theorem d_mtextF (G : Nat) (a : Option Addr) (n cap : Nat) (zs : List Int) (d : Nat) (w : World) (hd : d ≤ 2) (h : RdAt w G a n cap zs)
    (hI : ∀ e, d = e + 1 → ∀ w, RdAt w G a n cap zs → Calls Try.prog 44 #[.pointer (some ⟨G, 0, none⟩), .int .i64 e] w fun r w' => ∃ t : ByteArray, t.size ≤ mtL e ∧ r = .returned (.string t) ∧ Drew G a n cap zs w w') :
    Calls Try.prog 44 #[.pointer (some ⟨G, 0, none⟩), .int .i64 d] w fun r w' => ∃ t : ByteArray, t.size ≤ mtL d ∧ r = .returned (.string t) ∧ Drew G a n cap zs w w' := by
  have HH := hide h
  have hG := rd_lt h
  have HI := hide hI
  clear h hI
  have hm2 : mtL d ≤ 1000 := by
    rcases (show d = 0 ∨ d = 1 ∨ d = 2 by omega) with rfl | rfl | rfl <;> decide
  have hm1 : 2 ≤ mtL d := by
    rcases (show d = 0 ∨ d = 1 ∨ d = 2 by omega) with rfl | rfl | rfl <;> decide
  go_enter Try.func44, Try.ntmps44
  go_wp2_with fail
  refine (d_below G a n cap zs 5 _ (by omega) (by omega) (rd_alloc HH.out _)).mono ?_
  rintro e w1 ⟨x, hx0, hx1, rfl, hd1⟩
  obtain ⟨sg, hsg, hsg1⟩ := str_cell 1 hd1.2 hx0 hx1 rfl hG (fun k hk => by
    have hk' : k < 5 := hk
    have hx : k = 0 ∨ k = 1 ∨ k = 2 ∨ k = 3 ∨ k = 4 := by omega
    rcases hx with e | e | e | e | e <;> subst e <;> exact ⟨_, rfl, by decide⟩)
  have HD1 := hide (drew_alloc _ hd1)
  have hG1 := rd_lt hd1.1
  clear hd1
  go_upto_region 2 with fail
  clear hsg
  go_cut [19] (fun v wx => ∃ b : Bool, v = .bool b ∧ Hid (Drew G a n cap zs w wx) ∧ (d = 0 → b = true))
  case first =>
    by_cases hd0 : d = 0
    · subst hd0
      go_wp2
      go_meet
      exact ⟨true, rfl, HD1, fun _ => rfl⟩
    · have hd0b : (((d : Nat) : Int) == 0) = false := by simp; omega
      go_wp2_with fail
      refine (d_once G a n cap zs 2 _ (by omega) (by omega) HD1.out.1).mono ?_
      rintro e w2 ⟨b, rfl, hd2⟩
      have HD2 := hide (drew_trans HD1.out hd2)
      clear hd2
      cases b
      all_goals
        go_wp2
        go_meet
        exact ⟨_, rfl, HD2, fun h => absurd h hd0⟩
  case rest =>
    obtain ⟨b, rfl, HD2, hb0⟩ := hcut
    have hG2 := rd_lt HD2.out.1
    clear HD1
    cases b
    case true =>
      go_wp2_with fail
      refine (d_below G a n cap zs 7 _ (by omega) (by omega) (rd_alloc HD2.out.1 _)).mono ?_
      rintro e w3 ⟨y, hy0, hy1, rfl, hd3⟩
      obtain ⟨nm, hnm, hnm1⟩ := str_cell 1 hd3.2 hy0 hy1 rfl hG2 (fun k hk => by
        have hk' : k < 7 := hk
        have hx : k = 0 ∨ k = 1 ∨ k = 2 ∨ k = 3 ∨ k = 4 ∨ k = 5 ∨ k = 6 := by omega
        rcases hx with e | e | e | e | e | e | e <;> subst e <;> exact ⟨_, rfl, by decide⟩)
      have HD3 := hide (drew_trans HD2.out (drew_alloc _ hd3))
      have hsz : ¬ 9223372036854775807 < nm.size + sg.size := by omega
      clear hd3
      go_wp2
      go_ret
      exact ⟨nm ++ sg, by rw [ByteArray.size_append]; omega, rfl, HD3.out⟩
    case false =>
      have hd1 : 1 ≤ d := by
        rcases Nat.eq_zero_or_pos d with h | h
        · cases hb0 h
        · exact h
      obtain ⟨f, rfl⟩ : ∃ f, d = f + 1 := ⟨d - 1, by omega⟩
      have hfi : (((f + 1 : Nat) : Int)) - 1 = (f : Int) := by omega
      have hfw : IntKind.i64.wrap ((((f + 1 : Nat) : Int)) - 1) = (f : Int) := by rw [IntKind.wrap_i64]; omega
      have CI := hide (HI.out f rfl)
      have HML : Hid (mtL (f + 1) = 3 * mtL f + 5) := hide rfl
      obtain ⟨q, hq⟩ : ∃ q, mtL f = q := ⟨_, rfl⟩
      rw [hq] at CI HML
      have hq2 : 3 * q + 5 ≤ 1000 := by rw [← HML.out]; exact hm2
      clear hq hb0 hm2 hm1
      go_wp2_with fail
      refine (CI.out _ HD2.out.1).mono ?_
      rintro e w3 ⟨t0, ht0, rfl, hd3⟩
      have HD3 := hide (drew_trans HD2.out hd3)
      have hG3 := rd_lt hd3.1
      clear hd3 HD2
      go_wp2_with fail
      refine (d_below G a n cap zs 2 _ (by omega) (by omega) (rd_alloc HD3.out.1 _)).mono ?_
      rintro e w4 ⟨y, hy0, hy1, rfl, hd4⟩
      obtain ⟨bt, hbt, hbt1⟩ := str_cell 1 hd4.2 hy0 hy1 rfl hG3 (fun k hk => by
        have hk' : k < 2 := hk
        have hx : k = 0 ∨ k = 1 := by omega
        rcases hx with e | e <;> subst e <;> exact ⟨_, rfl, by decide⟩)
      have HD4 := hide (drew_trans HD3.out (drew_alloc _ hd4))
      clear hd4 HD3
      go_wp2_with fail
      refine (d_below G a n cap zs 3 _ (by omega) (by omega) HD4.out.1).mono ?_
      rintro e w5 ⟨z, hz0, hz1, rfl, hd5⟩
      have HD5 := hide (drew_trans HD4.out hd5)
      clear hd5 HD4 hbt
      go_wp2_with fail
      go_loopw [6, 8] (fun vs vi wr => ∃ (t : ByteArray) (k : Nat), vs = .string t ∧ vi = .int .i64 k ∧ k ≤ 2 ∧ t.size + k * (q + 1) ≤ 3 * q + 2 ∧ Hid (Drew G a n cap zs w wr)) (fun _ vi _ => (intOf vi).toNat)
      case atStart =>
        refine ⟨t0, z.toNat, rfl, by congr 1; omega, by omega, ?_, HD5⟩
        have : z.toNat * (q + 1) ≤ 2 * (q + 1) := Nat.mul_le_mul_right _ (by omega)
        omega
      case round =>
        clear HD5
        obtain ⟨t, k, rfl, rfl, hk, htk, HD5⟩ := hrel
        by_cases hk0 : 0 < k
        · have hk1 : (0 : Int) < (k : Int) := by omega
          obtain ⟨j, rfl⟩ : ∃ j, k = j + 1 := ⟨k - 1, by omega⟩
          have hkm : (j + 1) * (q + 1) = j * (q + 1) + (q + 1) := Nat.succ_mul j (q + 1)
          have hs1 : ¬ 9223372036854775807 < t.size + bt.size := by omega
          have hki : ((j + 1 : Nat) : Int) - 1 = (j : Int) := by omega
          go_wp2_with fail
          refine (CI.out _ HD5.out.1).mono ?_
          rintro e w6 ⟨t2, ht2, rfl, hd6⟩
          have HD6 := hide (drew_trans HD5.out hd6)
          have hs2 : ¬ 9223372036854775807 < t.size + bt.size + t2.size := by omega
          clear hd6 HD5
          go_wp2
          go_roundw
          case rel => exact ⟨t ++ bt ++ t2, j, rfl, by go_num, by omega, by rw [ByteArray.size_append, ByteArray.size_append]; omega, HD6⟩
          case measure => simp [intOf]
        · have hk0' : k = 0 := by omega
          subst hk0'
          have hs1 : ¬ 9223372036854775807 < 1 + t.size := by omega
          have hs2 : ¬ 9223372036854775807 < 1 + t.size + 1 := by omega
          have hs3 : ¬ 9223372036854775807 < 1 + t.size + 1 + sg.size := by omega
          go_wp2
          go_ret
          refine ⟨_, ?_, rfl, HD5.out⟩
          rw [HML.out]
          simp only [ByteArray.size_append]
          show 1 + t.size + 1 + sg.size ≤ _
          omega
theorem d_mtext (G : Nat) (a : Option Addr) (n cap : Nat) (zs : List Int) : ∀ (d : Nat), d ≤ 2 → ∀ w : World, RdAt w G a n cap zs →
    Calls Try.prog 44 #[.pointer (some ⟨G, 0, none⟩), .int .i64 d] w fun r w' => ∃ t : ByteArray, t.size ≤ mtL d ∧ r = .returned (.string t) ∧ Drew G a n cap zs w w'
  | 0, hd, w, h => d_mtextF G a n cap zs 0 w hd h (fun e he => by omega)
  | d + 1, hd, w, h => d_mtextF G a n cap zs (d + 1) w hd h (fun e he w' h' => by
      have : e = d := by omega
      subst this
      exact d_mtext G a n cap zs e (by omega) w' h')
end Go.Proofs.Ytfohfljdgmlibaa

/-
  Plain facts: a tree has no more kids than nodes ahead of its root.
-/
namespace Go.Proofs.Ytfohfljdgmlibaa
set_option linter.unusedVariables false
theorem fd_klen {g : Nat → Option Nat} : ∀ (ks : List Int) (a f : Nat), (∀ j c, j < a → g j = some c → c ≤ j) → fd g ks a = some f → ks.length ≤ a
  | [], a, f, _, _ => by simp
  | k :: ks, a, f, h2, h => by
    by_cases hc : 0 < a ∧ k = (a : Int) - 1
    · cases hg : g (a - 1) with
      | none => rw [fd_none hc hg] at h; cases h
      | some c =>
        have hb := h2 _ c (by omega) hg
        rw [fd_yes hc hg] at h
        have := fd_klen ks c f (fun j d hj => h2 j d (by omega)) h
        rw [List.length_cons]
        omega
    · rw [fd_no hc] at h; cases h
end Go.Proofs.Ytfohfljdgmlibaa
