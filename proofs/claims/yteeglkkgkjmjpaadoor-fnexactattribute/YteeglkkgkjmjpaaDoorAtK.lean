/-
  Contracts of the laws' helpers: marks on all places of a row of model nodes and of a row of texts, one count behind the other.
-/
import Derived.Test.YteeglkkgkjmjpaaDoorMkPn
import Derived.Test.YteeglkkgkjmjpaaDoorTxRow
namespace Go.Proofs.YteeglkkgkjmjpaaDoor
open Go.RowKit Go.Joins
set_option linter.unusedVariables false
set_option linter.unusedSimpArgs false
set_option maxRecDepth 100000 in
set_option maxHeartbeats 4000000 in
theorem l_markPs9 (g n cap : Nat) (AC : Nat → Nat) (lo hi : Nat) (w : World) (hn : n ≤ 1048576) (hac : sumN AC n ≤ 1048576) (hs : ShI w g n AC lo hi) :
    Calls Tryd.prog 18 #[.slice (some ⟨g, 0, none⟩) n cap, .int .i64 1] w fun e w' => ∃ k : Int, e = .returned (.int .i64 k) ∧ 1 ≤ k ∧ k ≤ 4194306 ∧ Chg lo hi w w' := by
  have HS := hide hs
  have hin := shI_in hs
  clear hs
  go_enter Tryd.func18, Tryd.ntmps18
  go_wp2
  go_loopw [1, 5] (fun kv iv wr => ∃ (i : Nat) (x : Int), i ≤ n ∧ iv = .int .i64 i ∧ kv = .int .i64 x ∧ 1 ≤ x ∧ x ≤ 1 + 3 * i + (sumN AC i : Int) ∧ ShI wr g n AC lo hi ∧ Chg lo hi w wr) (fun _ iv _ => n - (intOf iv).toNat)
  case atStart => exact ⟨0, 1, Nat.zero_le _, rfl, rfl, by omega, by simp [sumN], HS.out, Chg.refl _ _ _⟩
  case round =>
    obtain ⟨i, x, hi', rfl, rfl, hx0, hx1, hI, hc⟩ := hrel
    by_cases hlt : i < n
    · have hsum := sumN_at AC hlt
      have hmi : (i : Int) < (n : Int) := by omega
      obtain ⟨⟨v0, hv0⟩, hf0⟩ := shI_cell hI (i * 4) (by omega)
      have HI := hide hI
      have HC := hide hc
      have hsx : sumN AC (i + 1) = sumN AC i + AC i := rfl
      have HSX := hide hsx
      obtain ⟨y, hy⟩ : ∃ y, sumN AC i = y := ⟨_, rfl⟩
      rw [hy] at hx1 hsum
      have HY := hide hy
      clear hI hc hsx hy
      go_wp2_with fail
      have HI1 := hide (shI_set (i := i * 4) HI.out (.int .i64 x) (fun j => by omega))
      have HC1 := hide (HC.out.trans (chg_set g (i * 4) (.int .i64 x) hin.1 hin.2))
      refine (l_mt _ _ (by omega) (by omega)).mono ?_
      rintro e w2 ⟨s2, rfl, hb2⟩
      have HI2 := hide (shI_go HI1.out (chg_below (lo := 0) (hi := 0) hb2) (.inr (Nat.zero_le _)))
      have HC2 := hide (HC1.out.trans (chg_below hb2))
      obtain ⟨⟨v1, hv1⟩, hf1⟩ := shI_cell HI2.out (i * 4 + 1) (by omega)
      obtain ⟨G, hG, hcell, hsa⟩ := shI_at HI2.out i hlt
      have HSA := hide hsa
      clear hb2 hv0 hf0 hsa
      go_wp2_with fail
      have HI3 := hide (shI_set (i := i * 4 + 1) HI2.out (.string s2) (fun j => by omega))
      have HC3 := hide (HC2.out.trans (chg_set g (i * 4 + 1) (.string s2) hin.1 hin.2))
      refine (l_markNs G (AC i) _ _ (by omega) (by omega) (shA_chg HSA.out (chg_set (lo := g) (hi := g + 1) g (i * 4 + 1) (.string s2) (Nat.le_refl _) (by omega)))).mono ?_
      rintro e w4 ⟨rfl, hc4⟩
      have HI4 := hide (shI_go HI3.out hc4 (by omega))
      have HC4 := hide (HC3.out.trans (hc4.wide hG.1 (by omega)))
      obtain ⟨⟨v3, hv3⟩, hf3⟩ := shI_cell HI4.out (i * 4 + 3) (by omega)
      clear hc4 hv1 hf1 hcell
      go_wp2
      go_roundw
      case rel => exact ⟨i + 1, _, by omega, by go_num, rfl, by omega, by rw [HSX.out, HY.out]; omega, shI_set (i := i * 4 + 3) HI4.out _ (fun j => by omega), HC4.out.trans (chg_set g (i * 4 + 3) _ hin.1 hin.2)⟩
      case measure => simp [intOf]; omega
    · have hkn : i = n := by omega
      subst hkn
      go_wp2
      go_ret
      exact ⟨x, rfl, by omega, by omega, hc⟩
theorem own_shS {w : World} {B g n t : Nat} {xs : List Value} (h0 : 0 < n) (h : w.ownsRow B t 1 (.slice (some ⟨g, 0, none⟩) n n) n xs) : ShA w g n := by
  rcases h.2 with ⟨-, hz⟩ | ⟨g', cap, cur, hv, -, hh, -, h2, h3, h4⟩
  · omega
  · simp only [Value.slice.injEq, Option.some.injEq, Addr.mk.injEq] at hv
    obtain ⟨⟨rfl, -⟩, -, rfl⟩ := hv
    exact ⟨_, _, hh, by first | omega | (simp at *; omega)⟩
set_option maxRecDepth 100000 in
set_option maxHeartbeats 4000000 in
theorem l_markSs9 (G m : Nat) (k : Int) (w : World) (hm : m ≤ 1048576) (h0 : 1 ≤ k) (h1 : k ≤ 4194306) (hs : 0 < m → ShA w G m) :
    Calls Tryd.prog 34 #[.slice (some ⟨G, 0, none⟩) m m, .int .i64 k] w fun e w' => ∃ k' : Int, e = .returned (.int .i64 k') ∧ 0 ≤ k' ∧ Chg G (G + 1) w w' := by
  have HS := hide hs
  clear hs
  go_enter Tryd.func34, Tryd.ntmps34
  go_wp2
  go_loopw [1, 5] (fun kv iv wr => ∃ i : Nat, i ≤ m ∧ iv = .int .i64 i ∧ kv = .int .i64 (k + i) ∧ Chg G (G + 1) w wr) (fun _ iv _ => m - (intOf iv).toNat)
  case atStart => exact ⟨0, Nat.zero_le _, rfl, by simp, Chg.refl _ _ _⟩
  case round =>
    obtain ⟨i, hi, rfl, rfl, hc⟩ := hrel
    have HC := hide hc
    clear hc
    by_cases hlt : i < m
    · have hmi : (i : Int) < (m : Int) := by omega
      go_wp2_with fail
      refine (l_mt _ _ (by omega) (by omega)).mono ?_
      rintro e w2 ⟨s2, rfl, hb2⟩
      have HC2 := hide (HC.out.trans (chg_below hb2))
      obtain ⟨⟨v0, hv0⟩, hf0⟩ := shA_cell (shA_chg (HS.out (by omega)) HC2.out) i (by omega)
      clear hb2
      go_wp2
      go_roundw
      case rel => exact ⟨i + 1, by omega, by go_num, by go_num, HC2.out.trans (chg_set G i (.string s2) (Nat.le_refl _) (by omega))⟩
      case measure => simp [intOf]; omega
    · have him : i = m := by omega
      subst him
      go_wp2
      go_ret
      exact ⟨_, rfl, by omega, HC.out⟩
end Go.Proofs.YteeglkkgkjmjpaaDoor
