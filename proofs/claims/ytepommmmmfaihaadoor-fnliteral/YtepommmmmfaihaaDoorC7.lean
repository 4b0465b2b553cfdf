/-
  Texts put together: RxTree, RxWt.
-/
import Derived.Test.YtepommmmmfaihaaDoorC6
import Derived.Test.YtepommmmmfaihaaDoorChecked
import Derived.WalkKit
import Derived.WalkLawsBesides
import Derived.Below
import Derived.Test.YtepommmmmfaihaaDoorC2
import Derived.Test.YtepommmmmfaihaaDoorC4
/-
  Contract: where the piece of a node begins, by the specification, at every list of nodes and every place of it.
-/
namespace Go.Proofs.YtepommmmmfaihaaDoor
open Go.RowKit
set_option linter.unusedVariables false
set_option linter.unusedSimpArgs false
/-- Of a row of nodes: their kinds and the numbers that they name. -/
def NodesAt (w : World) (b off len : Nat) (K A B : Nat → Int) : Prop := ∀ j, j < len → w.cell? ⟨b, off + j * 7, none⟩ = some (.int .i64 (K j)) ∧ w.cell? ⟨b, off + j * 7 + 3, none⟩ = some (.int .i64 (A j)) ∧ w.cell? ⟨b, off + j * 7 + 4, none⟩ = some (.int .i64 (B j))
def twoK (K : Nat → Int) (j : Nat) : Bool := decide (K j = 3 ∨ K j = 4)
def cntK (K : Nat → Int) (j : Nat) : Bool := decide (K j = 5)
def trI (K A B : Nat → Int) (n : Nat) : Int := match tr (twoK K) (cntK K) A B n with | some f => (f : Int) | none => -1
theorem trI_le (K A B : Nat → Int) (n : Nat) : trI K A B n ≤ n := by
  unfold trI
  cases h : tr (twoK K) (cntK K) A B n with
  | none => show (-1 : Int) ≤ n; omega
  | some f => have := tr_le _ _ _ _ h; show (f : Int) ≤ n; omega
theorem trI_ge (K A B : Nat → Int) (n : Nat) : -1 ≤ trI K A B n := by
  unfold trI
  cases h : tr (twoK K) (cntK K) A B n with
  | none => show (-1 : Int) ≤ -1; omega
  | some f => show (-1 : Int) ≤ f; omega
theorem ret_i {a b : Int} (h : a = b) : Ending.returned (.int .i64 a) = .returned (.int .i64 b) := by rw [h]
theorem trI_two {K A B : Nat → Int} {n : Nat} (h : K n = 3 ∨ K n = 4) : trI K A B n = if n = 0 ∨ B n ≠ (n : Int) - 1 then -1 else if trI K A B (n - 1) < 1 ∨ A n ≠ trI K A B (n - 1) - 1 then -1 else trI K A B (trI K A B (n - 1) - 1).toNat := by
  have h2 : twoK K n = true := decide_eq_true h
  conv => lhs; unfold trI
  rw [tr_two _ _ _ _ h2]
  by_cases h0 : n = 0 ∨ B n ≠ (n : Int) - 1
  · rw [if_pos h0, if_pos h0]
  · rw [if_neg h0, if_neg h0]
    cases hr : tr (twoK K) (cntK K) A B (n - 1) with
    | none =>
      have e : trI K A B (n - 1) = -1 := by unfold trI; rw [hr]
      rw [e, if_pos (by omega)]
    | some c =>
      have e : trI K A B (n - 1) = c := by unfold trI; rw [hr]
      rw [e]
      dsimp only
      by_cases h1 : c = 0 ∨ A n ≠ (c : Int) - 1
      · rw [if_pos h1, if_pos (by omega)]
      · rw [if_neg h1, if_neg (by omega), show ((c : Int) - 1).toNat = c - 1 by omega]
        rfl
theorem trI_cnt {K A B : Nat → Int} {n : Nat} (h : K n = 5) : trI K A B n = if n = 0 ∨ A n ≠ (n : Int) - 1 then -1 else trI K A B (n - 1) := by
  have h2 : ¬ twoK K n = true := by unfold twoK; simp; omega
  have h3 : cntK K n = true := decide_eq_true h
  conv => lhs; unfold trI
  rw [tr_cnt _ _ _ _ h2 h3]
  by_cases h0 : n = 0 ∨ A n ≠ (n : Int) - 1
  · rw [if_pos h0, if_pos h0]
  · rw [if_neg h0, if_neg h0]; rfl
theorem trI_leaf {K A B : Nat → Int} {n : Nat} (h : ¬ (K n = 3 ∨ K n = 4)) (h' : ¬ K n = 5) : trI K A B n = n := by
  unfold trI
  rw [tr_leaf _ _ _ _ (by unfold twoK; simpa using h) (by unfold cntK; simpa using h')]
set_option maxHeartbeats 1000000 in
theorem s_tree_neg (v : Value) (w : World) : Calls Tryd.prog 46 #[v, .int .i64 (-1)] w fun e w' => e = .returned (.int .i64 (-1)) ∧ w' = w := by
  go_enter Tryd.func46, Tryd.ntmps46
  go_wp2
  go_ret
  exact ⟨rfl, rfl⟩
set_option maxRecDepth 100000 in
set_option maxHeartbeats 4000000 in
theorem s_tree (b off len cap : Nat) (K A B : Nat → Int) (w : World) (hlen : len ≤ 1048576) (hN : NodesAt w b off len K A B) : ∀ (m n : Nat), n < m → n < len →
    Calls Tryd.prog 46 #[.slice (some ⟨b, off, none⟩) len cap, .int .i64 n] w fun e w' => e = .returned (.int .i64 (trI K A B n)) ∧ w' = w
  | 0, n, hm, hn => by omega
  | m + 1, n, hm, hn => by
    have IH : Hid (∀ k : Nat, k < m → k < len → Calls Tryd.prog 46 #[.slice (some ⟨b, off, none⟩) len cap, .int .i64 k] w fun e w' => e = .returned (.int .i64 (trI K A B k)) ∧ w' = w) := hide (fun k hk hl => s_tree b off len cap K A B w hlen hN m k hk hl)
    obtain ⟨c0, c3, c4⟩ := hN n hn
    have hi : (n : Int) < (len : Int) := by omega
    have hi0 : (0 : Int) ≤ (n : Int) := by omega
    have hi1 : ¬ (n : Int) < 0 := by omega
    obtain ⟨x, hx⟩ : ∃ x, K n = x := ⟨_, rfl⟩
    obtain ⟨y, hy⟩ : ∃ y, A n = y := ⟨_, rfl⟩
    obtain ⟨z, hz⟩ : ∃ z, B n = z := ⟨_, rfl⟩
    rw [hx] at c0
    rw [hy] at c3
    rw [hz] at c4
    by_cases h2 : K n = 3 ∨ K n = 4
    · have HE := hide (trI_two (A := A) (B := B) h2)
      by_cases hb : z = (n : Int) - 1
      · by_cases h0 : n = 0
        · subst h0
          simp only [Nat.zero_mul, Nat.add_zero] at c0 c3 c4
          have HR : Hid (trI K A B 0 = -1) := hide (by rw [HE.out, if_pos (.inl rfl)])
          subst hb
          rcases h2 with h2 | h2
          all_goals
            rw [hx] at h2
            subst h2
            clear HE hx hy hz
            go_enter Tryd.func46, Tryd.ntmps46
            go_wp2_with fail
            refine (s_tree_neg _ _).mono ?_
            rintro e w' ⟨rfl, rfl⟩
            go_wp2
            go_ret
            exact ⟨ret_i (by rw [HR.out]), rfl⟩
        · have t1 := trI_le K A B (n - 1)
          have t2 := trI_ge K A B (n - 1)
          obtain ⟨t, ht⟩ : ∃ t, trI K A B (n - 1) = t := ⟨_, rfl⟩
          rw [ht] at t1 t2
          have HE2 : Hid (trI K A B n = if t < 1 ∨ y ≠ t - 1 then -1 else trI K A B (t - 1).toNat) := hide (by rw [HE.out, if_neg (by rw [hz]; omega), ht, hy])
          have HTT := hide ht
          have hb2 : (z != (n : Int) - 1) = false := by simp; omega
          subst hb
          rcases h2 with h2 | h2
          all_goals
            rw [hx] at h2
            subst h2
            clear HE hx hy hz ht
            go_enter Tryd.func46, Tryd.ntmps46
            go_wp2_with fail
            rw [show ((n : Int) - 1) = ((n - 1 : Nat) : Int) by omega]
            refine (IH.out (n - 1) (by omega) (by omega)).mono ?_
            rintro e w' ⟨rfl, rfl⟩
            rw [HTT.out]
            by_cases q1 : t < 1
            · go_wp2
              go_ret
              exact ⟨ret_i (HE2.out.trans (if_pos (.inl q1))).symm, rfl⟩
            · by_cases q2 : y = t - 1
              · have q3 : (y != t - 1) = false := by simp; omega
                have HK := hide (IH.out (t - 1).toNat (by omega) (by omega))
                have HF : Hid (trI K A B n = trI K A B (t - 1).toNat) := hide (by rw [HE2.out, if_neg (by omega)])
                go_wp2_with fail
                rw [show t - 1 = (((t - 1).toNat : Nat) : Int) by omega]
                refine HK.out.mono ?_
                rintro e w' ⟨rfl, rfl⟩
                go_wp2
                go_ret
                exact ⟨ret_i (by rw [HF.out, show t.toNat - 1 = (t - 1).toNat by omega]), rfl⟩
              · have q3 : (y != t - 1) = true := by simp; omega
                go_wp2
                go_ret
                exact ⟨ret_i (HE2.out.trans (if_pos (.inr q2))).symm, rfl⟩
      · have HR : Hid (trI K A B n = -1) := hide (by rw [HE.out, if_pos (.inr (by rw [hz]; exact hb))])
        have hb2 : (z != (n : Int) - 1) = true := by simp; omega
        rcases h2 with h2 | h2
        all_goals
          rw [hx] at h2
          subst h2
          clear HE hx hy hz
          go_enter Tryd.func46, Tryd.ntmps46
          go_wp2
          go_ret
          exact ⟨ret_i (by rw [HR.out]), rfl⟩
    · by_cases h5 : K n = 5
      · have HE := hide (trI_cnt (A := A) (B := B) h5)
        rw [hx] at h5
        subst h5
        by_cases hb : y = (n : Int) - 1
        · by_cases h0 : n = 0
          · subst h0
            simp only [Nat.zero_mul, Nat.add_zero] at c0 c3 c4
            have HR : Hid (trI K A B 0 = -1) := hide (by rw [HE.out, if_pos (.inl rfl)])
            subst hb
            clear HE hx hy hz h2
            go_enter Tryd.func46, Tryd.ntmps46
            go_wp2_with fail
            refine (s_tree_neg _ _).mono ?_
            rintro e w' ⟨rfl, rfl⟩
            go_wp2
            go_ret
            exact ⟨ret_i (by rw [HR.out]), rfl⟩
          · have HR : Hid (trI K A B n = trI K A B (n - 1)) := hide (by rw [HE.out, if_neg (by rw [hy]; omega)])
            have hb2 : (y != (n : Int) - 1) = false := by simp; omega
            subst hb
            clear HE hx hy hz h2
            go_enter Tryd.func46, Tryd.ntmps46
            go_wp2_with fail
            rw [show ((n : Int) - 1) = ((n - 1 : Nat) : Int) by omega]
            refine (IH.out (n - 1) (by omega) (by omega)).mono ?_
            rintro e w' ⟨rfl, rfl⟩
            go_wp2
            go_ret
            exact ⟨ret_i (by rw [HR.out]), rfl⟩
        · have HR : Hid (trI K A B n = -1) := hide (by rw [HE.out, if_pos (.inr (by rw [hy]; exact hb))])
          have hb2 : (y != (n : Int) - 1) = true := by simp; omega
          clear HE hx hy hz h2
          go_enter Tryd.func46, Tryd.ntmps46
          go_wp2
          go_ret
          exact ⟨ret_i (by rw [HR.out]), rfl⟩
      · have HR := hide (trI_leaf (A := A) (B := B) h2 h5)
        have n3 : (x == 3) = false := by rw [← hx]; simp; omega
        have n4 : (x == 4) = false := by rw [← hx]; simp; omega
        have n5 : (x == 5) = false := by rw [← hx]; simp; omega
        clear h2 h5 hx hy hz
        go_enter Tryd.func46, Tryd.ntmps46
        go_wp2
        go_ret
        exact ⟨ret_i (by rw [HR.out]), rfl⟩
end Go.Proofs.YtepommmmmfaihaaDoor

/-
  Contract: how much a node weighs, by the specification, at every list of nodes and every place of it whose piece is a right one.
-/
namespace Go.Proofs.YtepommmmmfaihaaDoor
open Go.RowKit Go.Joins
set_option linter.unusedVariables false
set_option linter.unusedSimpArgs false
def muX (X : Rx) (n : Nat) : Int := max (max 1 (X.MN n + 1)) (X.MX n)
def wtX (X : Rx) (n : Nat) : Int := wt (twoK X.K) (cntK X.K) X.A X.B (muX X) n
def trX (X : Rx) (n : Nat) : Option Nat := tr (twoK X.K) (cntK X.K) X.A X.B n
theorem muX_ge (X : Rx) (n : Nat) : 1 ≤ muX X n := by unfold muX; omega
theorem wtF_ge (two cnt : Nat → Bool) (A B mu : Nat → Int) (hm : ∀ n, 1 ≤ mu n) : ∀ (f n : Nat), 0 ≤ wtF two cnt A B mu f n
  | 0, n => Int.le_refl _
  | f + 1, n => by
    rw [wtF]
    have h1 := wtF_ge two cnt A B mu hm f (A n).toNat
    have h2 := wtF_ge two cnt A B mu hm f (B n).toNat
    have h3 := Int.mul_nonneg h1 (Int.le_trans (by decide) (hm n) : (0 : Int) ≤ mu n)
    split
    · omega
    · split <;> omega
theorem wtX_ge (X : Rx) (n : Nat) : 0 ≤ wtX X n := wtF_ge _ _ _ _ _ (muX_ge X) _ _
theorem wtX_le (X : Rx) (n : Nat) : wtX X n ≤ 2001 := wt_le _ _ _ _ _ _
def WS (w w' : World) (b off : Nat) (X : Rx) (j : Nat) (ad : Option Addr) (cp : Nat) : Prop :=
  NodeAt w' w.heap.size (X.K j) (X.NT j) ad (X.NR j) cp (X.A j) (X.B j) (X.MN j) (X.MX j) ∧ RxRow w' b off X w.heap.size ∧ b < w.heap.size ∧ Below w.heap.size w w'
section
variable {w w1 w2 : World} {b off : Nat} {X : Rx} {j : Nat} {ad : Option Addr} {cp : Nat}
theorem ws_go (h : WS w w1 b off X j ad cp) (k : Below w1.heap.size w1 w2) : WS w w2 b off X j ad cp :=
  ⟨nodeAt_go h.1 k, rxRow_go h.2.1 h.2.2.1 (k.mono h.2.2.2.size), h.2.2.1, h.2.2.2.trans (k.mono h.2.2.2.size)⟩
theorem ws_drew (h : WS w w1 b off X j ad cp) : WS w w1.drew b off X j ad cp := ws_go h ⟨rfl, rfl, rfl, Nat.le_refl _, fun _ _ => rfl⟩
theorem ws_row (h : WS w w1 b off X j ad cp) : RxRow w1 b off X w1.heap.size := rxRow_up h.2.1 h.2.2.2.size
theorem ws_lt (h : WS w w1 b off X j ad cp) : b < w1.heap.size := Nat.lt_of_lt_of_le h.2.2.1 h.2.2.2.size
theorem ws_below (h : WS w w1 b off X j ad cp) : Below w.heap.size w w1 := h.2.2.2
theorem ws_all (h : WS w w1 b off X j ad cp) : WS w w1 b off X j ad cp ∧ w1.cell? ⟨w.heap.size, 3, none⟩ = some (.int .i64 (X.A j)) ∧ w1.cell? ⟨w.heap.size, 4, none⟩ = some (.int .i64 (X.B j)) ∧ w1.cell? ⟨w.heap.size, 5, none⟩ = some (.int .i64 (X.MN j)) ∧ w1.cell? ⟨w.heap.size, 6, none⟩ = some (.int .i64 (X.MX j)) := by
  obtain ⟨a0, a1, a2, a3, a4, a5, a6⟩ := nodeAt_cells h.1
  exact ⟨h, a3, a4, a5, a6⟩
end
theorem min_of (x : Int) : ∃ y, min x 2001 = y := ⟨_, rfl⟩
set_option maxRecDepth 100000 in
set_option maxHeartbeats 4000000 in
theorem s_weight (X : Rx) (len : Nat) (hX : X.len = len) (hlen : len ≤ 120) (hm : ∀ j, j < len → X.K j = 5 → 0 ≤ X.MN j ∧ X.MN j ≤ 20 ∧ X.MX j ≤ 20 ∧ -1 ≤ X.MX j) (b off cap : Nat) : ∀ (m n f : Nat) (w : World), n < m → n < len → trX X n = some f → b < w.heap.size → RxRow w b off X w.heap.size →
    Calls Tryd.prog 47 #[.slice (some ⟨b, off, none⟩) len cap, .int .i64 n] w fun e w' => e = .returned (.int .i64 (wtX X n)) ∧ Below w.heap.size w w'
  | 0, n, f, w, hmn, hn, ht, hb, hr => by omega
  | m + 1, n, f, w, hmn, hn, ht, hb, hr => by
    have IH : Hid (∀ (k g : Nat) (w : World), k < m → k < len → trX X k = some g → b < w.heap.size → RxRow w b off X w.heap.size → Calls Tryd.prog 47 #[.slice (some ⟨b, off, none⟩) len cap, .int .i64 k] w fun e w' => e = .returned (.int .i64 (wtX X k)) ∧ Below w.heap.size w w') := hide (fun k g w hk hl ht hb hr => s_weight X len hX hlen hm b off cap m k g w hk hl ht hb hr)
    have HM := hide hm
    have HX := hide hX
    have HR := hide hr
    obtain ⟨ad, cp, hc, -⟩ := hr n (by rw [hX]; exact hn)
    obtain ⟨c0, c1, c2, c3, c4, c5, c6⟩ := hc
    have hi : (n : Int) < (len : Int) := by omega
    have hi0 : (0 : Int) ≤ (n : Int) := by omega
    have hi1 : ¬ (n : Int) < 0 := by omega
    have st : ∀ o, Below w.heap.size w (w.alloc o) := fun o => (Below.refl _ _).alloc (Nat.le_refl _) _
    have HW0 : ∀ T, Hid (WS w (w.alloc (.cells #[.int .i64 (X.K n), .bool (X.NT n), .slice ad (X.NR n) cp, .int .i64 (X.A n), .int .i64 (X.B n), .int .i64 (X.MN n), .int .i64 (X.MX n)] T)) b off X n ad cp) := fun T => ⟨nodeAt_new _ _ _ _ _ _ _ _ _ _ _, rxRow_go HR.out hb (st _), hb, st _⟩
    clear hr hm hX st
    by_cases h2 : X.K n = 3 ∨ X.K n = 4
    · have h2b : twoK X.K n = true := decide_eq_true h2
      have ht2 := ht
      unfold trX at ht2
      rw [tr_two _ _ _ _ h2b] at ht2
      split at ht2
      · cases ht2
      · rename_i hnB
        cases hr1 : tr (twoK X.K) (cntK X.K) X.A X.B (n - 1) with
        | none => rw [hr1] at ht2; cases ht2
        | some c =>
          rw [hr1] at ht2
          dsimp only at ht2
          split at ht2
          · cases ht2
          · rename_i hcA
            have hcl := tr_le _ _ _ _ hr1
            have hw := wt_two _ _ _ _ (muX X) h2b hnB hr1 hcA ht2
            have HV : Hid (wtX X n = min (wtX X (c - 1) + wtX X (n - 1)) 2001) := hide hw
            have g1 := wtX_ge X (c - 1)
            have g2 := wtX_ge X (n - 1)
            have g3 := wtX_le X (c - 1)
            have g4 := wtX_le X (n - 1)
            obtain ⟨x, hx⟩ : ∃ x, wtX X (c - 1) = x := ⟨_, rfl⟩
            obtain ⟨y, hy⟩ : ∃ y, wtX X (n - 1) = y := ⟨_, rfl⟩
            have eA : X.A n = ((c - 1 : Nat) : Int) := by omega
            have eB : X.B n = ((n - 1 : Nat) : Int) := by omega
            have CA : Hid (∀ w : World, b < w.heap.size → RxRow w b off X w.heap.size → Calls Tryd.prog 47 #[.slice (some ⟨b, off, none⟩) len cap, .int .i64 (X.A n)] w fun e w' => e = .returned (.int .i64 x) ∧ Below w.heap.size w w') := hide (fun w => by rw [eA, ← hx]; exact IH.out (c - 1) f w (by omega) (by omega) ht2)
            have CB : Hid (∀ w : World, b < w.heap.size → RxRow w b off X w.heap.size → Calls Tryd.prog 47 #[.slice (some ⟨b, off, none⟩) len cap, .int .i64 (X.B n)] w fun e w' => e = .returned (.int .i64 y) ∧ Below w.heap.size w w') := hide (fun w => by rw [eB, ← hy]; exact IH.out (n - 1) c w (by omega) (by omega) hr1)
            rw [hx, hy] at HV
            rw [hx] at g1 g3
            rw [hy] at g2 g4
            clear hw ht2 hr1 hcA hnB ht h2b hx hy eA eB IH HM HX HR
            rcases h2 with h2 | h2
            all_goals
              rw [h2] at c0
              simp only [h2] at HW0
              clear h2
              go_enter Tryd.func47, Tryd.ntmps47
              go_wp2
              go_region_held3 (fun w' => WS w w' b off X n ad cp ∧ w'.cell? ⟨w.heap.size, 3, none⟩ = some (.int .i64 (X.A n)) ∧ w'.cell? ⟨w.heap.size, 4, none⟩ = some (.int .i64 (X.B n)) ∧ w'.cell? ⟨w.heap.size, 5, none⟩ = some (.int .i64 (X.MN n)) ∧ w'.cell? ⟨w.heap.size, 6, none⟩ = some (.int .i64 (X.MX n))) (first | assumption | exact ws_all (ws_drew (HW0 _).out) | exact ws_all (HW0 _).out | exact ws_all HTA.out | exact ws_all HTB.out) (first | (go_at_call_of 47 (X.A n); refine (CA.out _ (ws_lt (And.left (by assumption))) (ws_row (And.left (by assumption)))).mono ?_; rintro e w2 ⟨rfl, hb2⟩; have HTA := hide (ws_go (And.left (by assumption)) hb2); clear hb2) | (go_at_call_of 47 (X.B n); refine (CB.out _ (ws_lt (And.left (by assumption))) (ws_row (And.left (by assumption)))).mono ?_; rintro e w2 ⟨rfl, hb2⟩; have HTB := hide (ws_go (And.left (by assumption)) hb2); clear hb2))
              all_goals
                go_wp2
                all_goals
                  go_ret
                  exact ⟨ret_i (by rw [HV.out]; omega), ws_below (And.left (by assumption))⟩
    · by_cases h5 : X.K n = 5
      · have h2b : ¬ twoK X.K n = true := by unfold twoK; simp; omega
        have h5b : cntK X.K n = true := decide_eq_true h5
        have ht2 := ht
        unfold trX at ht2
        rw [tr_cnt _ _ _ _ h2b h5b] at ht2
        split at ht2
        · cases ht2
        · rename_i hnA
          have hw := wt_cnt _ _ _ _ (muX X) h2b h5b hnA ht2
          obtain ⟨m0, m1, m2, m3⟩ := HM.out n hn h5
          have HV : Hid (wtX X n = min (wtX X (n - 1) * muX X n) 2001) := hide hw
          have g1 := wtX_ge X (n - 1)
          have g3 := wtX_le X (n - 1)
          obtain ⟨x, hx⟩ : ∃ x, wtX X (n - 1) = x := ⟨_, rfl⟩
          have eA : X.A n = ((n - 1 : Nat) : Int) := by omega
          have CA : Hid (∀ w : World, b < w.heap.size → RxRow w b off X w.heap.size → Calls Tryd.prog 47 #[.slice (some ⟨b, off, none⟩) len cap, .int .i64 (X.A n)] w fun e w' => e = .returned (.int .i64 x) ∧ Below w.heap.size w w') := hide (fun w => by rw [eA, ← hx]; exact IH.out (n - 1) f w (by omega) (by omega) ht2)
          rw [hx] at HV
          rw [hx] at g1 g3
          obtain ⟨mn, hmn'⟩ : ∃ mn, X.MN n = mn := ⟨_, rfl⟩
          obtain ⟨mx, hmx'⟩ : ∃ mx, X.MX n = mx := ⟨_, rfl⟩
          have hmu : muX X n = max (max 1 (mn + 1)) mx := by unfold muX; rw [hmn', hmx']
          rw [hmn'] at m0 m1 c5
          rw [hmx'] at m2 m3 c6
          rw [h5] at c0
          simp only [h5, hmn', hmx'] at HW0
          have HMN := hide hmn'
          have HMX := hide hmx'
          rw [hmu] at HV
          clear hw ht2 hnA ht h2b h5b hx eA IH HM HX HR h2 h5 hmn' hmx' hmu
          have hS : ∀ w', WS w w' b off X n ad cp → WS w w' b off X n ad cp ∧ w'.cell? ⟨w.heap.size, 3, none⟩ = some (.int .i64 (X.A n)) ∧ w'.cell? ⟨w.heap.size, 5, none⟩ = some (.int .i64 mn) ∧ w'.cell? ⟨w.heap.size, 6, none⟩ = some (.int .i64 mx) := fun w' h => by
            have h' := ws_all h
            rw [HMN.out, HMX.out] at h'
            exact ⟨h, h'.2.1, h'.2.2.2.1, h'.2.2.2.2⟩
          have HS := hide hS
          clear hS
          have q0 : (1 : Int) ≤ mn + 1 := by omega
          have e1 : (if (1 : Int) < mn + 1 then mn + 1 else 1) = mn + 1 := by split <;> omega
          obtain ⟨v, hv⟩ : ∃ v, (if mn + 1 < mx then mx else mn + 1) = v := ⟨_, rfl⟩
          have hv1 : max (max 1 (mn + 1)) mx = v ∧ 1 ≤ v ∧ v ≤ 21 := by rw [← hv]; split <;> omega
          have p0 := Int.mul_nonneg g1 (by omega : (0 : Int) ≤ v)
          have p1 : x * v ≤ 2001 * 21 := Int.mul_le_mul g3 (by omega) (by omega) (by omega)
          have HV2 : Hid (wtX X n = min (x * v) 2001) := hide (by rw [HV.out, hv1.1])
          have hw1 : IntKind.i64.wrap (mn + 1) = mn + 1 := by rw [IntKind.wrap_i64]; omega
          have hw2 : IntKind.i64.wrap (x * v) = x * v := by rw [IntKind.wrap_i64]; omega
          clear HV hv1 q0
          go_enter Tryd.func47, Tryd.ntmps47
          go_wp2
          go_region_held3 (fun w' => WS w w' b off X n ad cp ∧ w'.cell? ⟨w.heap.size, 3, none⟩ = some (.int .i64 (X.A n)) ∧ w'.cell? ⟨w.heap.size, 5, none⟩ = some (.int .i64 mn) ∧ w'.cell? ⟨w.heap.size, 6, none⟩ = some (.int .i64 mx)) (first | assumption | exact HS.out _ HTA.out | exact HS.out _ (ws_drew (HW0 _).out) | exact HS.out _ (HW0 _).out) (first | (go_at_call_of 47 (X.A n); refine (CA.out _ (ws_lt (And.left (by assumption))) (ws_row (And.left (by assumption)))).mono ?_; rintro e w2 ⟨rfl, hb2⟩; have HTA := hide (ws_go (And.left (by assumption)) hb2); clear hb2))
          all_goals
            go_wp2
            all_goals
              go_ret
              exact ⟨ret_i (by rw [HV2.out]; omega), ws_below (And.left (by assumption))⟩
      · have HV : Hid (wtX X n = 1) := hide (wt_leaf _ _ _ _ (muX X) (by unfold twoK; simpa using h2) (by unfold cntK; simpa using h5))
        obtain ⟨kd, hk⟩ : ∃ kd, X.K n = kd := ⟨_, rfl⟩
        have n3 : (kd == 3) = false := by rw [← hk]; simp; omega
        have n4 : (kd == 4) = false := by rw [← hk]; simp; omega
        have n5 : (kd == 5) = false := by rw [← hk]; simp; omega
        rw [hk] at c0
        clear h2 h5 hk IH HM HX HR HW0 ht
        go_enter Tryd.func47, Tryd.ntmps47
        go_wp2
        all_goals
          go_ret
          exact ⟨ret_i (by rw [HV.out]), (Below.refl _ _).alloc (Nat.le_refl _) _⟩
end Go.Proofs.YtepommmmmfaihaaDoor
