/-
  Texts put together: Names, PkS.
-/
import Derived.Test.YtfohfljdgmlibaaW1
import Derived.Test.YtfohfljdgmlibaaChecked
import Derived.WalkKit
import Derived.Below
import Derived.Test.YtfohfljdgmlibaaW6
/-
  Contracts: what the specification's and the program's NameOk and their helpers answer at every byte and every string of at most maxLen bytes; the world is as it was.
-/
namespace Go.Proofs.Ytfohfljdgmlibaa
open Go.RowKit
set_option linter.unusedSimpArgs false
theorem cases_digit (c : Int) : c ≤ 47 ∨ (48 ≤ c ∧ c ≤ 57) ∨ 58 ≤ c := by omega
set_option linter.unusedVariables false

theorem cases_byte (c : Int) : c ≤ 44 ∨ c = 45 ∨ c = 46 ∨ c = 47 ∨ (48 ≤ c ∧ c ≤ 57) ∨ (58 ≤ c ∧ c ≤ 64) ∨ (65 ≤ c ∧ c ≤ 90) ∨ (91 ≤ c ∧ c ≤ 94) ∨ c = 95 ∨ c = 96 ∨ (97 ≤ c ∧ c ≤ 122) ∨ 123 ≤ c := by omega
theorem cases_first (c : Int) : c ≤ 64 ∨ (65 ≤ c ∧ c ≤ 90) ∨ (91 ≤ c ∧ c ≤ 94) ∨ c = 95 ∨ c = 96 ∨ (97 ≤ c ∧ c ≤ 122) ∨ 123 ≤ c := by omega

set_option maxHeartbeats 2000000 in
theorem s_first (c : Int) (w : World) : Calls Try.prog 74 #[.int .u8 c] w fun e w' => e = .returned (.bool (firstB c)) ∧ w' = w := by
  rcases cases_first c with h | ⟨h, h'⟩ | ⟨h, h'⟩ | h | h | ⟨h, h'⟩ | h
  all_goals
    try subst h
    go_enter Try.func74, Try.ntmps74
    go_wp2
    go_ret
    exact ⟨ret_bool (by first | decide | (rw [Bool.eq_iff_iff]; simp only [firstB, Bool.or_eq_true, Bool.and_eq_true, decide_eq_true_eq, beq_iff_eq, true_iff, false_iff, iff_true, iff_false, Bool.false_eq_true]; omega)), rfl⟩
set_option maxHeartbeats 2000000 in
theorem i_first (c : Int) (w : World) : Calls Try.prog 76 #[.int .u8 c] w fun e w' => e = .returned (.bool (firstB c)) ∧ w' = w := by
  rcases cases_first c with h | ⟨h, h'⟩ | ⟨h, h'⟩ | h | h | ⟨h, h'⟩ | h
  all_goals
    try subst h
    go_enter Try.func76, Try.ntmps76
    go_wp2
    go_ret
    exact ⟨ret_bool (by first | decide | (rw [Bool.eq_iff_iff]; simp only [firstB, Bool.or_eq_true, Bool.and_eq_true, decide_eq_true_eq, beq_iff_eq, true_iff, false_iff, iff_true, iff_false, Bool.false_eq_true]; omega)), rfl⟩
set_option maxHeartbeats 2000000 in
theorem s_digit (c : Int) (w : World) : Calls Try.prog 77 #[.int .u8 c] w fun e w' => e = .returned (.bool (digitB c)) ∧ w' = w := by
  rcases cases_digit c with h | ⟨h, h'⟩ | h
  all_goals
    try subst h
    go_enter Try.func77, Try.ntmps77
    go_wp2
    go_ret
    exact ⟨ret_bool (by first | decide | (rw [Bool.eq_iff_iff]; simp only [digitB, Bool.or_eq_true, Bool.and_eq_true, decide_eq_true_eq, beq_iff_eq, true_iff, false_iff, iff_true, iff_false, Bool.false_eq_true]; omega)), rfl⟩
set_option maxHeartbeats 2000000 in
theorem s_more (c : Int) (w : World) : Calls Try.prog 62 #[.int .u8 c] w fun e w' => e = .returned (.bool (moreB c)) ∧ w' = w := by
  rcases cases_byte c with h | h | h | h | ⟨h, h'⟩ | ⟨h, h'⟩ | ⟨h, h'⟩ | ⟨h, h'⟩ | h | h | ⟨h, h'⟩ | h
  all_goals
    try subst h
    go_enter Try.func62, Try.ntmps62
    go_wp2
    go_ret
    exact ⟨ret_bool (by first | decide | (rw [Bool.eq_iff_iff]; simp only [moreB, Bool.or_eq_true, Bool.and_eq_true, decide_eq_true_eq, beq_iff_eq, true_iff, false_iff, iff_true, iff_false, Bool.false_eq_true]; omega)), rfl⟩
set_option maxHeartbeats 2000000 in
theorem i_more (c : Int) (w : World) : Calls Try.prog 72 #[.int .u8 c] w fun e w' => e = .returned (.bool (moreB c)) ∧ w' = w := by
  rcases cases_byte c with h | h | h | h | ⟨h, h'⟩ | ⟨h, h'⟩ | ⟨h, h'⟩ | ⟨h, h'⟩ | h | h | ⟨h, h'⟩ | h
  all_goals
    try subst h
    go_enter Try.func72, Try.ntmps72
    go_wp2
    go_ret
    exact ⟨ret_bool (by first | decide | (rw [Bool.eq_iff_iff]; simp only [moreB, Bool.or_eq_true, Bool.and_eq_true, decide_eq_true_eq, beq_iff_eq, true_iff, false_iff, iff_true, iff_false, Bool.false_eq_true]; omega)), rfl⟩
set_option maxHeartbeats 1000000 in
theorem s_name (s : ByteArray) (w : World) (hs : s.size ≤ maxLen) : Calls Try.prog 52 #[.string s] w fun e w' => e = .returned (.bool (nameB s)) ∧ w' = w := by
  unfold maxLen at hs
  by_cases h0 : s.size = 0
  · go_enter Try.func52, Try.ntmps52
    go_wp2
    go_ret
    exact ⟨ret_bool (nameB_none s h0).symm, rfl⟩
  · by_cases h40 : 40 < s.size
    · go_enter Try.func52, Try.ntmps52
      go_wp2
      go_ret
      exact ⟨ret_bool (nameB_long s h40).symm, rfl⟩
    · have hp : 0 < s.size := by omega
      cases hf : firstB (s[0].toNat : Int)
      · go_enter Try.func52, Try.ntmps52
        go_wp2_with (go_at_call 74; refine (s_first _ _).mono ?_; rintro e w' ⟨rfl, rfl⟩)
        go_ret
        exact ⟨ret_bool (nameB_first s hp hf).symm, rfl⟩
      · go_enter Try.func52, Try.ntmps52
        go_wp2_with (go_at_call 74; refine (s_first _ _).mono ?_; rintro e w' ⟨rfl, rfl⟩)
        go_loop [3] (fun i => ∃ k : Nat, 1 ≤ k ∧ k ≤ s.size ∧ i = .int .i64 k ∧ ∀ j (h : j < s.size), 1 ≤ j → j < k → moreB (s[j].toNat : Int) = true) (fun i => s.size - (intOf i).toNat)
        case atStart => exact ⟨1, by omega, by omega, rfl, fun j h a b => by omega⟩
        case round =>
          obtain ⟨k, h1, hk, rfl, hm⟩ := hrel
          have HM : Hid (∀ j (h : j < s.size), 1 ≤ j → j < k → moreB (s[j].toNat : Int) = true) := hm
          clear hm
          by_cases hlt : k < s.size
          · cases hb : moreB (s[k].toNat : Int)
            · go_wp2_with (go_at_call 62; refine (s_more _ _).mono ?_; rintro e w' ⟨rfl, rfl⟩)
              go_ret
              exact ⟨ret_bool (nameB_more s k h1 hlt hb).symm, rfl⟩
            · go_wp2_with (go_at_call 62; refine (s_more _ _).mono ?_; rintro e w' ⟨rfl, rfl⟩)
              go_round
              case rel =>
                refine ⟨k + 1, by omega, by omega, by go_num, fun j h a b => ?_⟩
                by_cases e : j = k
                · subst e; exact hb
                · exact HM.out j h a (by omega)
              case measure => simp [intOf]; omega
          · go_wp2
            go_ret
            exact ⟨ret_bool (nameB_yes s hp (by omega) hf (fun j h a => HM.out j h a (by omega))).symm, rfl⟩
set_option maxHeartbeats 1000000 in
theorem i_name (s : ByteArray) (w : World) (hs : s.size ≤ maxLen) : Calls Try.prog 58 #[.string s] w fun e w' => e = .returned (.bool (nameB s)) ∧ w' = w := by
  unfold maxLen at hs
  by_cases h0 : s.size = 0
  · go_enter Try.func58, Try.ntmps58
    go_wp2
    go_ret
    exact ⟨ret_bool (nameB_none s h0).symm, rfl⟩
  · by_cases h40 : 40 < s.size
    · go_enter Try.func58, Try.ntmps58
      go_wp2
      go_ret
      exact ⟨ret_bool (nameB_long s h40).symm, rfl⟩
    · have hp : 0 < s.size := by omega
      cases hf : firstB (s[0].toNat : Int)
      · go_enter Try.func58, Try.ntmps58
        go_wp2_with (go_at_call 76; refine (i_first _ _).mono ?_; rintro e w' ⟨rfl, rfl⟩)
        go_ret
        exact ⟨ret_bool (nameB_first s hp hf).symm, rfl⟩
      · go_enter Try.func58, Try.ntmps58
        go_wp2_with (go_at_call 76; refine (i_first _ _).mono ?_; rintro e w' ⟨rfl, rfl⟩)
        go_loop [3] (fun i => ∃ k : Nat, 1 ≤ k ∧ k ≤ s.size ∧ i = .int .i64 k ∧ ∀ j (h : j < s.size), 1 ≤ j → j < k → moreB (s[j].toNat : Int) = true) (fun i => s.size - (intOf i).toNat)
        case atStart => exact ⟨1, by omega, by omega, rfl, fun j h a b => by omega⟩
        case round =>
          obtain ⟨k, h1, hk, rfl, hm⟩ := hrel
          have HM : Hid (∀ j (h : j < s.size), 1 ≤ j → j < k → moreB (s[j].toNat : Int) = true) := hm
          clear hm
          by_cases hlt : k < s.size
          · cases hb : moreB (s[k].toNat : Int)
            · go_wp2_with (go_at_call 72; refine (i_more _ _).mono ?_; rintro e w' ⟨rfl, rfl⟩)
              go_ret
              exact ⟨ret_bool (nameB_more s k h1 hlt hb).symm, rfl⟩
            · go_wp2_with (go_at_call 72; refine (i_more _ _).mono ?_; rintro e w' ⟨rfl, rfl⟩)
              go_round
              case rel =>
                refine ⟨k + 1, by omega, by omega, by go_num, fun j h a b => ?_⟩
                by_cases e : j = k
                · subst e; exact hb
                · exact HM.out j h a (by omega)
              case measure => simp [intOf]; omega
          · go_wp2
            go_ret
            exact ⟨ret_bool (nameB_yes s hp (by omega) hf (fun j h a => HM.out j h a (by omega))).symm, rfl⟩
end Go.Proofs.Ytfohfljdgmlibaa

/-
  Contracts: a model's trees, their depth, and which rows of nodes are right models, by the specification.
-/
namespace Go.Proofs.Ytfohfljdgmlibaa
open Go.RowKit Go.Joins
set_option linter.unusedVariables false
set_option linter.unusedSimpArgs false
theorem p_sInT (x a b : Int) (w : World) (h : a ≤ x ∧ x ≤ b) : Calls Try.prog 51 #[.int .i64 x, .int .i64 a, .int .i64 b] w fun e w' => e = .returned (.bool true) ∧ w' = w := by
  obtain ⟨h1, h2⟩ := h
  go_enter Try.func51, Try.ntmps51
  go_wp2
  go_ret
  exact ⟨by simp_all, rfl⟩
theorem p_sInF (x a b : Int) (w : World) (h : ¬ (a ≤ x ∧ x ≤ b)) : Calls Try.prog 51 #[.int .i64 x, .int .i64 a, .int .i64 b] w fun e w' => e = .returned (.bool false) ∧ w' = w := by
  by_cases h1 : a ≤ x
  · have h2 : ¬ x ≤ b := fun e => h ⟨h1, e⟩
    clear h
    go_enter Try.func51, Try.ntmps51
    go_wp2
    go_ret
    exact ⟨by simp_all, rfl⟩
  · clear h
    go_enter Try.func51, Try.ntmps51
    go_wp2
    go_ret
    exact ⟨by simp_all, rfl⟩
def trI : Option Nat → Int
  | none => -1
  | some f => f
theorem take_rev (L : List Int) (m : Nat) (h : m < L.length) : (L.take (m + 1)).reverse = L[m]?.getD 0 :: (L.take m).reverse := by
  rw [List.take_succ_eq_append_getElem h, List.reverse_append, List.getElem?_eq_getElem h]
  rfl
theorem ret_i9 {a b : Int} (h : a = b) : Ending.returned (.int .i64 a) = .returned (.int .i64 b) := by rw [h]
set_option maxRecDepth 100000 in
set_option maxHeartbeats 4000000 in
theorem s_tree (D : Pn) (n b0 off cap : Nat) (hD : D.n = n) (hn : n ≤ 40) (hnr : ∀ j, j < n → (D.KL j).length ≤ 1048576) : ∀ (k i : Nat), i < k → i < n → ∀ w : World, PnRow w b0 off D w.heap.size →
    Calls Try.prog 53 #[.slice (some ⟨b0, off, none⟩) n cap, .int .i64 i] w fun r w' => r = .returned (.int .i64 (trI (tr D i))) ∧ w' = w
  | 0, i, hk, hi => by omega
  | k + 1, i, hk, hi => by
    intro w hr
    have IH := hide (fun (i : Nat) (h1 : i < k) (h2 : i < n) => s_tree D n b0 off cap hD hn hnr k i h1 h2 w hr)
    obtain ⟨ad, cp, hc, hat, hcp⟩ := hr i (by rw [hD]; exact hi)
    obtain ⟨c0, c1, c2, c3⟩ := hc
    have hin : (i : Int) < (n : Int) := by omega
    have HTR := hide (tr_eq D i)
    obtain ⟨L, hL⟩ : ∃ L, D.KL i = L := ⟨_, rfl⟩
    rw [hL] at c2 hat hcp HTR
    have HAT := hide hat
    have hll : L.length ≤ 1048576 := by rw [← hL]; exact hnr i hi
    obtain ⟨T, hT⟩ : ∃ T, tr D i = T := ⟨_, rfl⟩
    rw [hT] at HTR ⊢
    have hle9 : (0 : Int) ≤ (i : Int) := by omega
    clear hr hD hL hT hat hnr
    go_enter Try.func53, Try.ntmps53
    go_wp2
    go_loop [5, 6] (fun av iv => ∃ (j a : Nat), j ≤ L.length ∧ a ≤ i ∧ av = .int .i64 ((a : Int) - 1) ∧ iv = .int .i64 ((j : Int) - 1) ∧ Hid (fd (tr D) (L.take j).reverse a = T)) (fun _ iv => (intOf iv + 1).toNat)
    case atStart => exact ⟨L.length, i, Nat.le_refl _, Nat.le_refl _, rfl, rfl, hide (by rw [List.take_length]; exact HTR.out.symm)⟩
    case round =>
      obtain ⟨j, a, hj, ha, rfl, rfl, HF⟩ := hrel
      match j, hj, HF with
      | 0, hj, HF =>
        go_wp2
        go_ret
        refine ⟨ret_i9 ?_, rfl⟩
        have := HF.out
        simp [fd] at this
        rw [← this]
        simp [trI]
      | m + 1, hj, HF =>
        rw [show (((m + 1 : Nat) : Int) - 1) = (m : Int) by omega]
        have hm : m < L.length := by omega
        have hmi : (m : Int) < (L.length : Int) := by omega
        obtain ⟨b9, off9, rfl, hb9, hc9⟩ := HAT.out (fun h => by rw [h] at hm; exact absurd hm (Nat.not_lt_zero _))
        have k0 := hc9 m hm
        rw [take_rev L m hm] at HF
        obtain ⟨v, hv⟩ : ∃ v, L[m]?.getD 0 = v := ⟨_, rfl⟩
        rw [hv] at k0 HF
        clear hc9 hv
        match a, ha, HF with
        | 0, ha, HF =>
          have hz : ((0 : Nat) : Int) - 1 = -1 := by omega
          rw [hz]
          have HN := hide (HF.out.symm.trans (fd_no (by omega)))
          go_wp2
          go_ret
          exact ⟨ret_i9 (by rw [HN.out]; rfl), rfl⟩
        | c + 1, ha, HF =>
          rw [show (((c + 1 : Nat) : Int) - 1) = (c : Int) by omega]
          by_cases he : v = (c : Int)
          · have hne : (v != (c : Int)) = false := by simpa using he
            have HC := hide (show 0 < c + 1 ∧ v = ((c + 1 : Nat) : Int) - 1 by omega)
            have CI := hide (IH.out c (by omega) (by omega))
            clear he
            cases ht : tr D c with
            | none =>
              rw [ht] at CI
              have HN := hide (HF.out.symm.trans (fd_none HC.out ht))
              go_wp2_with (first | (go_at_call 53; refine CI.out.mono ?_; rintro e w2 ⟨rfl, rfl⟩))
              go_ret
              exact ⟨ret_i9 (by rw [HN.out]; rfl), rfl⟩
            | some f =>
              rw [ht] at CI
              have HN := hide ((fd_yes HC.out ht).symm.trans HF.out)
              have hfc := tr_le ht
              simp only [trI] at CI
              go_wp2_with (first | (go_at_call 53; refine CI.out.mono ?_; rintro e w2 ⟨rfl, rfl⟩))
              go_round
              case rel => exact ⟨m, f, by omega, by omega, rfl, rfl, HN⟩
              case measure => simp [intOf]; try omega
          · have hne : (v != (c : Int)) = true := by simpa using he
            have HN := hide (HF.out.symm.trans (fd_no (by omega)))
            clear he
            go_wp2
            go_ret
            exact ⟨ret_i9 (by rw [HN.out]; rfl), rfl⟩
theorem mx_take (g : Nat → Nat) (L : List Int) (m : Nat) (h : m < L.length) : mx g (L.take (m + 1)) = max (mx g (L.take m)) (g (L[m]?.getD 0).toNat) := by
  rw [List.take_succ_eq_append_getElem h, mx_snoc, List.getElem?_eq_getElem h]
  rfl
theorem mx_bd (D : Pn) (L : List Int) (i : Nat) (h : ∀ k, k ∈ L → 0 ≤ k ∧ k < (i : Int)) (m : Nat) : mx (dq D) (L.take m) ≤ i := by
  refine mx_le _ 0 (Nat.zero_le _) (fun k hk => ?_)
  have h1 := h k (List.mem_of_mem_take hk)
  have h2 := dq_le D k.toNat
  omega
theorem max_if (a b : Nat) : (if (a : Int) < (b : Int) then (b : Int) else (a : Int)) = ((max a b : Nat) : Int) := by
  split <;> omega
set_option maxRecDepth 100000 in
set_option maxHeartbeats 4000000 in
theorem s_deep (D : Pn) (n b0 off cap : Nat) (hD : D.n = n) (hn : n ≤ 40) (hnr : ∀ j, j < n → (D.KL j).length ≤ 1048576) (hlo : ∀ j, j < n → ∀ k, k ∈ D.KL j → 0 ≤ k ∧ k < (j : Int)) : ∀ (k i : Nat), i < k → i < n → ∀ w : World, PnRow w b0 off D w.heap.size →
    Calls Try.prog 54 #[.slice (some ⟨b0, off, none⟩) n cap, .int .i64 i] w fun r w' => r = .returned (.int .i64 (dq D i : Int)) ∧ w' = w
  | 0, i, hk, hi => by omega
  | k + 1, i, hk, hi => by
    intro w hr
    have IH := hide (fun (i : Nat) (h1 : i < k) (h2 : i < n) => s_deep D n b0 off cap hD hn hnr hlo k i h1 h2 w hr)
    obtain ⟨ad, cp, hc, hat, hcp⟩ := hr i (by rw [hD]; exact hi)
    obtain ⟨c0, c1, c2, c3⟩ := hc
    have hin : (i : Int) < (n : Int) := by omega
    have HDQ := hide (dq_eq (D := D) (i := i) (fun j hj => hlo j (by omega)))
    have HKI := hide (hlo i hi)
    obtain ⟨L, hL⟩ : ∃ L, D.KL i = L := ⟨_, rfl⟩
    have hll : L.length ≤ 1048576 := by rw [← hL]; exact hnr i hi
    rw [hL] at c2 hat hcp HDQ HKI
    have HAT := hide hat
    have HMB := hide (mx_bd D L i HKI.out)
    clear hr hD hL hat hnr hlo
    go_enter Try.func54, Try.ntmps54
    go_wp2
    go_loop [5, 6] (fun dv iv => ∃ (m : Nat), m ≤ L.length ∧ dv = .int .i64 (mx (dq D) (L.take m) : Int) ∧ iv = .int .i64 (m : Int)) (fun _ iv => L.length - (intOf iv).toNat)
    case atStart => exact ⟨0, Nat.zero_le _, rfl, rfl⟩
    case round =>
      obtain ⟨m, hm, rfl, rfl⟩ := hrel
      by_cases hlt : m < L.length
      · have hmi : (m : Int) < (L.length : Int) := by omega
        obtain ⟨b9, off9, rfl, hb9, hc9⟩ := HAT.out (fun h => by rw [h] at hlt; exact absurd hlt (Nat.not_lt_zero _))
        have k0 := hc9 m hlt
        have HX := hide (mx_take (dq D) L m hlt)
        have hkk := HKI.out (L[m]?.getD 0) (by rw [List.getElem?_eq_getElem hlt]; exact List.getElem_mem hlt)
        obtain ⟨v, hv⟩ : ∃ v, L[m]?.getD 0 = v := ⟨_, rfl⟩
        rw [hv] at k0 HX hkk
        obtain ⟨c, rfl⟩ : ∃ c : Nat, v = (c : Int) := ⟨v.toNat, by omega⟩
        have CI := hide (IH.out c (by omega) (by omega))
        have hmb := HMB.out m
        have hdb := dq_le D c
        obtain ⟨q, hq⟩ : ∃ q, mx (dq D) (L.take m) = q := ⟨_, rfl⟩
        obtain ⟨r, hr⟩ : ∃ r, dq D c = r := ⟨_, rfl⟩
        rw [show ((c : Int)).toNat = c by omega, hq, hr] at HX
        rw [hq] at hmb ⊢
        rw [hr] at hdb CI
        have HMI := hide (max_if q r)
        clear hc9 hv hq hr hkk
        go_wp2_with (first | (go_at_call 54; refine CI.out.mono ?_; rintro e w2 ⟨rfl, rfl⟩))
        all_goals
          go_round
          case rel => exact ⟨m + 1, by omega, by rw [HX.out]; (first | rw [← HMI.out] | skip); first | rfl | go_num | (congr 1; omega), by go_num⟩
          case measure => simp [intOf]; omega
      · have hml : m = L.length := by omega
        subst hml
        have hmb := HMB.out L.length
        rw [List.take_length] at hmb ⊢
        have HDQ2 := hide HDQ.out.symm
        obtain ⟨q, hq⟩ : ∃ q, mx (dq D) L = q := ⟨_, rfl⟩
        rw [hq] at hmb HDQ2 ⊢
        clear hq
        go_wp2
        go_ret
        exact ⟨ret_i9 (by rw [← HDQ2.out]; omega), rfl⟩
end Go.Proofs.Ytfohfljdgmlibaa
