/-
  Texts put together: RxSp, RxSp2, RxSp3.
-/
import Derived.Test.YtibagghpimadfaaGreatDoorV10
import Derived.Deep.RegionLaw
/-
  Contract: where a node's piece begins and how much it weighs, by the program, told of all nodes ahead of it.
-/
namespace Go.Proofs.YtibagghpimadfaaGreatDoor
open Go.RowKit Go.Joins
set_option linter.unusedVariables false
set_option linter.unusedSimpArgs false
def tI (X : Rx) (j : Nat) : Int := trI X.K X.A X.B j
theorem tI_some {X : Rx} {j f : Nat} (h : trX X j = some f) : tI X j = f := by unfold tI trI; unfold trX at h; rw [h]
theorem i_held (x y : Int) (w : World) (h : min x 2001 = y) : Calls Tryz.prog 40 #[.int .i64 x] w fun e w' => e = .returned (.int .i64 y) ∧ w' = w := by
  have H := hide h
  clear h
  go_enter Tryz.func40, Tryz.ntmps40
  go_wp2
  all_goals
    go_ret
    exact ⟨ret_i (by rw [← H.out]; omega), rfl⟩
theorem sp_below (w : World) (o1 o2 : Obj) (q : Nat) (v0 v1 : Value) : Below w.heap.size w (((((w.alloc o1).alloc o2).drewN q).setCell ⟨w.heap.size + 1, 0, none⟩ v0).setCell ⟨w.heap.size + 1, 1, none⟩ v1) := by
  refine Below.setCell (Below.setCell ?_ (by simp) _) (by simp) _
  exact (((Below.refl _ _).alloc (Nat.le_refl _) _).alloc (by simp) _).trans ((drew_below _ _).mono (by simp; omega))
theorem sp_below0 (w : World) (o1 o2 : Obj) (v0 v1 : Value) : Below w.heap.size w ((((w.alloc o1).alloc o2).setCell ⟨w.heap.size + 1, 0, none⟩ v0).setCell ⟨w.heap.size + 1, 1, none⟩ v1) := sp_below w o1 o2 0 v0 v1
section
variable (X : Rx) (k : Nat) (a : Option Addr) (c : Nat) (ad : Option Addr) (cp : Nat) (w : World)
set_option maxRecDepth 100000 in
set_option maxHeartbeats 4000000 in
theorem i_spanNo2 (hk : k ≤ 120) (hr : RngAt w a k (tI X) (wtX X) w.heap.size) (h2 : X.K k = 3 ∨ X.K k = 4)
    (hno : k ≤ 1 ∨ X.B k ≠ (k : Int) - 1 ∨ tI X (k - 1) = 0 ∨ X.A k ≠ tI X (k - 1) - 1) (htb : 1 < k → 0 ≤ tI X (k - 1) ∧ tI X (k - 1) ≤ 120) :
    Calls Tryz.prog 19 #[.slice a k c, .agg #[.int .i64 (X.K k), .bool (X.NT k), .slice ad (X.NR k) cp, .int .i64 (X.A k), .int .i64 (X.B k), .int .i64 (X.MN k), .int .i64 (X.MX k)]] w fun e w' => e = .returned (.tuple #[.agg #[.int .i64 0, .int .i64 0], .bool false]) ∧ Below w.heap.size w w' := by
  obtain ⟨kd, hkd⟩ : ∃ kd, X.K k = kd := ⟨_, rfl⟩
  obtain ⟨pa, hpa⟩ : ∃ x, X.A k = x := ⟨_, rfl⟩
  obtain ⟨pb, hpb⟩ : ∃ x, X.B k = x := ⟨_, rfl⟩
  obtain ⟨t, ht⟩ : ∃ x, tI X (k - 1) = x := ⟨_, rfl⟩
  rw [hkd] at h2 ⊢
  rw [hpb, ht, hpa] at hno
  rw [ht] at htb
  rw [hpa, hpb]
  have HR := hide hr
  have HT := hide ht
  clear hr hkd hpa hpb ht
  by_cases q1 : k ≤ 1
  · have q2 : (k : Int) - 1 < 1 := by omega
    clear hno htb
    rcases h2 with rfl | rfl
    all_goals
      go_enter Tryz.func19, Tryz.ntmps19
      go_wp2
      go_big_quiet (fail)
      go_wp2
      exact bodyPost_ret (v := .tuple #[.agg #[.int .i64 0, .int .i64 0], .bool false]) (by simp [results, Tryz.results19, go_sem]) rfl ⟨rfl, sp_below _ _ _ _ _ _⟩
  · obtain ⟨b, off, rfl, hbs, hc⟩ := HR.out (by omega)
    have c1 := (hc (k - 1) (by omega)).1
    rw [HT.out] at c1
    have q2 : decide ((k : Int) - 1 < 1) = false := by simp; omega
    have q3 : (k : Int) - 1 < (k : Int) := by omega
    have q4 : (0 : Int) ≤ (k : Int) - 1 := by omega
    have q5 : ((k : Int) - 1).toNat = k - 1 := by omega
    obtain ⟨tb0, tb1⟩ := htb (by omega)
    have hw : IntKind.i64.wrap (t - 1) = t - 1 := by rw [IntKind.wrap_i64]; omega
    clear hc htb
    by_cases p1 : pb = (k : Int) - 1
    · have p1b : (pb != (k : Int) - 1) = false := by simp; omega
      subst p1
      by_cases p2 : t = 0
      · subst p2
        clear hno
        rcases h2 with rfl | rfl
        all_goals
          go_enter Tryz.func19, Tryz.ntmps19
          go_wp2
          go_big_quiet (fail)
          go_wp2
          exact bodyPost_ret (v := .tuple #[.agg #[.int .i64 0, .int .i64 0], .bool false]) (by simp [results, Tryz.results19, go_sem]) rfl ⟨rfl, sp_below _ _ _ _ _ _⟩
      · have p2b : (t == 0) = false := by simpa using p2
        have p3 : pa ≠ t - 1 := by
          rcases hno with h | h | h | h
          · omega
          · exact absurd rfl h
          · exact absurd h p2
          · exact h
        have p3b : (pa != t - 1) = true := by simpa using p3
        clear hno
        rcases h2 with rfl | rfl
        all_goals
          go_enter Tryz.func19, Tryz.ntmps19
          go_wp2
          go_big_quiet (fail)
          go_wp2
          exact bodyPost_ret (v := .tuple #[.agg #[.int .i64 0, .int .i64 0], .bool false]) (by simp [results, Tryz.results19, go_sem]) rfl ⟨rfl, sp_below _ _ _ _ _ _⟩
    · have p1b : (pb != (k : Int) - 1) = true := by simpa using p1
      clear hno
      rcases h2 with rfl | rfl
      all_goals
        go_enter Tryz.func19, Tryz.ntmps19
        go_wp2
        go_big_quiet (fail)
        go_wp2
        exact bodyPost_ret (v := .tuple #[.agg #[.int .i64 0, .int .i64 0], .bool false]) (by simp [results, Tryz.results19, go_sem]) rfl ⟨rfl, sp_below _ _ _ _ _ _⟩
end
end Go.Proofs.YtibagghpimadfaaGreatDoor

/-
  Contract: where a node's piece begins and how much it weighs, by the program, where it is a right one.
-/
namespace Go.Proofs.YtibagghpimadfaaGreatDoor
open Go.RowKit Go.Joins
set_option linter.unusedVariables false
set_option linter.unusedSimpArgs false
section
variable (X : Rx) (k : Nat) (a : Option Addr) (c : Nat) (ad : Option Addr) (cp : Nat) (w : World)
set_option maxRecDepth 100000 in
set_option maxHeartbeats 4000000 in
theorem i_spanYes2 (hk : k ≤ 120) (hr : RngAt w a k (tI X) (wtX X) w.heap.size) (h2 : X.K k = 3 ∨ X.K k = 4) (m : Nat) (hm : m + 1 < k) (hB : X.B k = (k : Int) - 1) (hT : tI X (k - 1) = (m : Int) + 1) (hA : X.A k = m) (f z : Int) (hf : tI X m = f) (hz : min (wtX X m + wtX X (k - 1)) 2001 = z) :
    Calls Tryz.prog 19 #[.slice a k c, .agg #[.int .i64 (X.K k), .bool (X.NT k), .slice ad (X.NR k) cp, .int .i64 (X.A k), .int .i64 (X.B k), .int .i64 (X.MN k), .int .i64 (X.MX k)]] w fun e w' => e = .returned (.tuple #[.agg #[.int .i64 f, .int .i64 z], .bool true]) ∧ Below w.heap.size w w' := by
  obtain ⟨kd, hkd⟩ : ∃ kd, X.K k = kd := ⟨_, rfl⟩
  rw [hkd] at h2 ⊢
  rw [hA, hB]
  obtain ⟨b, off, rfl, hbs, hc⟩ := hr (by omega)
  obtain ⟨c1, c2⟩ := hc (k - 1) (by omega)
  obtain ⟨c3, c4⟩ := hc m (by omega)
  have g1 := wtX_ge X m
  have g2 := wtX_le X m
  have g3 := wtX_ge X (k - 1)
  have g4 := wtX_le X (k - 1)
  obtain ⟨x, hx⟩ : ∃ x, wtX X m = x := ⟨_, rfl⟩
  obtain ⟨y, hy⟩ : ∃ x, wtX X (k - 1) = x := ⟨_, rfl⟩
  rw [hf] at c3
  rw [hT] at c1
  rw [hx] at c4 g1 g2 hz
  rw [hy] at c2 g3 g4 hz
  have HZ := hide hz
  have q2 : decide ((k : Int) - 1 < 1) = false := by simp; omega
  have q3 : (k : Int) - 1 < (k : Int) := by omega
  have q4 : (0 : Int) ≤ (k : Int) - 1 := by omega
  have q10 : (1 : Int) ≤ (k : Int) := by omega
  have q5 : ((k : Int) - 1).toNat = k - 1 := by omega
  have q6 : (m : Int) < (k : Int) := by omega
  have q7 : (((m : Int) + 1) == 0) = false := by simp; omega
  have q8 : IntKind.i64.wrap ((m : Int) + 1 - 1) = (m : Int) := by rw [IntKind.wrap_i64]; omega
  have q9 : IntKind.i64.wrap (x + y) = x + y := by rw [IntKind.wrap_i64]; omega
  clear hc hr hkd hf hT hx hy hz hA hB
  rcases h2 with rfl | rfl
  all_goals
      go_enter Tryz.func19, Tryz.ntmps19
      go_wp2
      go_big_quiet (fail)
      go_wp2
      go_region_held3 (fun w' => w'.cell? ⟨w.heap.size, 3, none⟩ = some (.int .i64 (m : Int)) ∧ w'.cell? ⟨b, off + m * 2, none⟩ = some (.int .i64 f) ∧ w'.cell? ⟨b, off + m * 2 + 1, none⟩ = some (.int .i64 x) ∧ w'.cell? ⟨b, off + (k - 1) * 2 + 1, none⟩ = some (.int .i64 y)) (first | assumption | (refine ⟨?_, ?_, ?_, ?_⟩ <;> go_simp)) (first | (go_at_call 40; refine (i_held _ z _ HZ.out).mono ?_; rintro e w' ⟨rfl, rfl⟩))
      all_goals
        go_wp2
        exact bodyPost_ret (v := .tuple #[.agg #[.int .i64 f, .int .i64 z], .bool true]) (by simp [results, Tryz.results19, go_sem]) rfl ⟨rfl, sp_below _ _ _ _ _ _⟩
set_option maxRecDepth 100000 in
set_option maxHeartbeats 4000000 in
theorem i_spanNo5 (hk : k ≤ 120) (h5 : X.K k = 5) (hno : k = 0 ∨ X.A k ≠ (k : Int) - 1) :
    Calls Tryz.prog 19 #[.slice a k c, .agg #[.int .i64 (X.K k), .bool (X.NT k), .slice ad (X.NR k) cp, .int .i64 (X.A k), .int .i64 (X.B k), .int .i64 (X.MN k), .int .i64 (X.MX k)]] w fun e w' => e = .returned (.tuple #[.agg #[.int .i64 0, .int .i64 0], .bool false]) ∧ Below w.heap.size w w' := by
  rw [h5]
  obtain ⟨pa, hpa⟩ : ∃ x, X.A k = x := ⟨_, rfl⟩
  rw [hpa] at hno ⊢
  clear h5 hpa
  by_cases h0 : k = 0
  · have q : (k : Int) - 1 < 0 := by omega
    clear hno
    go_enter Tryz.func19, Tryz.ntmps19
    go_wp2
    exact bodyPost_ret (v := .tuple #[.agg #[.int .i64 0, .int .i64 0], .bool false]) (by simp [results, Tryz.results19, go_sem]) rfl ⟨rfl, ((Below.refl _ _).alloc (Nat.le_refl _) _).alloc (by simp) _⟩
  · have q : ¬ (k : Int) - 1 < 0 := by omega
    have p1 : pa ≠ (k : Int) - 1 := hno.resolve_left h0
    have p1b : (pa != (k : Int) - 1) = true := by simpa using p1
    clear hno p1
    go_enter Tryz.func19, Tryz.ntmps19
    go_wp2
    exact bodyPost_ret (v := .tuple #[.agg #[.int .i64 0, .int .i64 0], .bool false]) (by simp [results, Tryz.results19, go_sem]) rfl ⟨rfl, ((Below.refl _ _).alloc (Nat.le_refl _) _).alloc (by simp) _⟩
set_option maxRecDepth 100000 in
set_option maxHeartbeats 4000000 in
theorem i_spanYes5 (hk : k ≤ 120) (hr : RngAt w a k (tI X) (wtX X) w.heap.size) (h5 : X.K k = 5) (h0 : 1 ≤ k) (hA : X.A k = (k : Int) - 1) (hmn : 0 ≤ X.MN k ∧ X.MN k ≤ 20 ∧ X.MX k ≤ 20 ∧ -1 ≤ X.MX k) (f z : Int) (hf : tI X (k - 1) = f) (hz : min (wtX X (k - 1) * muX X k) 2001 = z) :
    Calls Tryz.prog 19 #[.slice a k c, .agg #[.int .i64 (X.K k), .bool (X.NT k), .slice ad (X.NR k) cp, .int .i64 (X.A k), .int .i64 (X.B k), .int .i64 (X.MN k), .int .i64 (X.MX k)]] w fun e w' => e = .returned (.tuple #[.agg #[.int .i64 f, .int .i64 z], .bool true]) ∧ Below w.heap.size w w' := by
  rw [h5, hA]
  obtain ⟨b, off, rfl, hbs, hc⟩ := hr (by omega)
  obtain ⟨c1, c2⟩ := hc (k - 1) (by omega)
  have g3 := wtX_ge X (k - 1)
  have g4 := wtX_le X (k - 1)
  obtain ⟨x, hx⟩ : ∃ x, wtX X (k - 1) = x := ⟨_, rfl⟩
  rw [hf] at c1
  rw [hx] at c2 g3 g4 hz
  obtain ⟨mn, hmn'⟩ : ∃ mn, X.MN k = mn := ⟨_, rfl⟩
  obtain ⟨mx, hmx'⟩ : ∃ mx, X.MX k = mx := ⟨_, rfl⟩
  have hmu : muX X k = max (max 1 (mn + 1)) mx := by unfold muX; rw [hmn', hmx']
  rw [hmn', hmx'] at hmn ⊢
  obtain ⟨m0, m1, m2, m3⟩ := hmn
  have e1 : (if (1 : Int) < mn + 1 then mn + 1 else 1) = mn + 1 := by split <;> omega
  obtain ⟨v, hv⟩ : ∃ v, (if mn + 1 < mx then mx else mn + 1) = v := ⟨_, rfl⟩
  have hv1 : max (max 1 (mn + 1)) mx = v ∧ 1 ≤ v ∧ v ≤ 21 := by rw [← hv]; split <;> omega
  have p0 := Int.mul_nonneg g3 (by omega : (0 : Int) ≤ v)
  have p1 : x * v ≤ 2001 * 21 := Int.mul_le_mul g4 (by omega) (by omega) (by omega)
  rw [hmu, hv1.1] at hz
  have hw1 : IntKind.i64.wrap (mn + 1) = mn + 1 := by rw [IntKind.wrap_i64]; omega
  have hw2 : IntKind.i64.wrap (x * v) = x * v := by rw [IntKind.wrap_i64]; omega
  have HZ := hide hz
  have q2 : ¬ (k : Int) - 1 < 0 := by omega
  have q3 : (k : Int) - 1 < (k : Int) := by omega
  have q4 : (0 : Int) ≤ (k : Int) - 1 := by omega
  have q10 : (1 : Int) ≤ (k : Int) := by omega
  have q5 : ((k : Int) - 1).toNat = k - 1 := by omega
  clear hc hr hf hx hz hA hmn' hmx' hmu hv1 h5
  go_enter Tryz.func19, Tryz.ntmps19
  go_wp2
  go_region_held3 (fun w' => w'.cell? ⟨w.heap.size, 5, none⟩ = some (.int .i64 mn) ∧ w'.cell? ⟨w.heap.size, 6, none⟩ = some (.int .i64 mx) ∧ w'.cell? ⟨b, off + (k - 1) * 2, none⟩ = some (.int .i64 f) ∧ w'.cell? ⟨b, off + (k - 1) * 2 + 1, none⟩ = some (.int .i64 x)) (first | assumption | (refine ⟨?_, ?_, ?_, ?_⟩ <;> go_simp)) (first | (go_at_call 40; refine (i_held _ z _ HZ.out).mono ?_; rintro e w' ⟨rfl, rfl⟩))
  all_goals
    go_wp2
    exact bodyPost_ret (v := .tuple #[.agg #[.int .i64 f, .int .i64 z], .bool true]) (by simp [results, Tryz.results19, go_sem]) rfl ⟨rfl, (((Below.refl _ _).alloc (Nat.le_refl _) _).alloc (by simp) _).drew⟩
set_option maxHeartbeats 4000000 in
theorem i_spanLeaf (hk : k ≤ 120) (h2 : ¬ (X.K k = 3 ∨ X.K k = 4)) (h5 : ¬ X.K k = 5) :
    Calls Tryz.prog 19 #[.slice a k c, .agg #[.int .i64 (X.K k), .bool (X.NT k), .slice ad (X.NR k) cp, .int .i64 (X.A k), .int .i64 (X.B k), .int .i64 (X.MN k), .int .i64 (X.MX k)]] w fun e w' => e = .returned (.tuple #[.agg #[.int .i64 k, .int .i64 1], .bool true]) ∧ Below w.heap.size w w' := by
  obtain ⟨kd, hkd⟩ : ∃ kd, X.K k = kd := ⟨_, rfl⟩
  rw [hkd] at h2 h5 ⊢
  have n3 : (kd == 3) = false := by simp; omega
  have n4 : (kd == 4) = false := by simp; omega
  have n5 : (kd == 5) = false := by simp; omega
  clear h2 h5 hkd
  go_enter Tryz.func19, Tryz.ntmps19
  go_wp2
  exact bodyPost_ret (v := .tuple #[.agg #[.int .i64 k, .int .i64 1], .bool true]) (by simp [results, Tryz.results19, go_sem]) rfl ⟨rfl, ((Below.refl _ _).alloc (Nat.le_refl _) _).alloc (by simp) _⟩
end
end Go.Proofs.YtibagghpimadfaaGreatDoor

/-
  Contract: where a node's piece begins and how much it weighs, by the program, at every node whose fields are right.
-/
namespace Go.Proofs.YtibagghpimadfaaGreatDoor
open Go.RowKit Go.Joins
set_option linter.unusedVariables false
set_option linter.unusedSimpArgs false
section
variable (X : Rx) (k : Nat) (a : Option Addr) (c : Nat) (ad : Option Addr) (cp : Nat) (w : World)
theorem i_spanSome (hk : k ≤ 120) (hr : RngAt w a k (tI X) (wtX X) w.heap.size) (hn : nodeX X k = true) (f : Nat) (h : trX X k = some f) :
    Calls Tryz.prog 19 #[.slice a k c, .agg #[.int .i64 (X.K k), .bool (X.NT k), .slice ad (X.NR k) cp, .int .i64 (X.A k), .int .i64 (X.B k), .int .i64 (X.MN k), .int .i64 (X.MX k)]] w fun e w' => e = .returned (.tuple #[.agg #[.int .i64 f, .int .i64 (wtX X k)], .bool true]) ∧ Below w.heap.size w w' := by
  by_cases h2 : X.K k = 3 ∨ X.K k = 4
  · have h2b : twoK X.K k = true := decide_eq_true h2
    have ht := h
    unfold trX at ht
    rw [tr_two _ _ _ _ h2b] at ht
    split at ht
    · cases ht
    · rename_i hnB
      cases hr1 : tr (twoK X.K) (cntK X.K) X.A X.B (k - 1) with
      | none => rw [hr1] at ht; cases ht
      | some q =>
        rw [hr1] at ht
        dsimp only at ht
        split at ht
        · cases ht
        · rename_i hcA
          have hq := tr_le _ _ _ _ hr1
          have hw := wt_two _ _ _ _ (muX X) h2b hnB hr1 hcA ht
          exact i_spanYes2 X k a c ad cp w hk hr h2 (q - 1) (by omega) (by omega) (by rw [tI_some (f := q) hr1]; omega) (by omega) f (wtX X k) (tI_some ht) hw.symm
  · by_cases h5 : X.K k = 5
    · have h2b : ¬ twoK X.K k = true := by unfold twoK; simpa using h2
      have h5b : cntK X.K k = true := decide_eq_true h5
      have ht := h
      unfold trX at ht
      rw [tr_cnt _ _ _ _ h2b h5b] at ht
      split at ht
      · cases ht
      · rename_i hnA
        have hw := wt_cnt _ _ _ _ (muX X) h2b h5b hnA ht
        exact i_spanYes5 X k a c ad cp w hk hr h5 (by omega) (by omega) (node_cnt hn h5) f (wtX X k) (tI_some ht) hw.symm
    · have h2b : ¬ twoK X.K k = true := by unfold twoK; simpa using h2
      have h5b : ¬ cntK X.K k = true := by unfold cntK; simpa using h5
      have hw : wtX X k = 1 := wt_leaf _ _ _ _ (muX X) h2b h5b
      have ht := h
      unfold trX at ht
      rw [tr_leaf _ _ _ _ h2b h5b] at ht
      obtain rfl := Option.some.inj ht
      rw [hw]
      exact i_spanLeaf X k a c ad cp w hk h2 h5
theorem i_spanNone (hk : k ≤ 120) (hr : RngAt w a k (tI X) (wtX X) w.heap.size) (hs : ∀ j, j < k → (trX X j).isSome = true) (h : trX X k = none) :
    Calls Tryz.prog 19 #[.slice a k c, .agg #[.int .i64 (X.K k), .bool (X.NT k), .slice ad (X.NR k) cp, .int .i64 (X.A k), .int .i64 (X.B k), .int .i64 (X.MN k), .int .i64 (X.MX k)]] w fun e w' => e = .returned (.tuple #[.agg #[.int .i64 0, .int .i64 0], .bool false]) ∧ Below w.heap.size w w' := by
  by_cases h2 : X.K k = 3 ∨ X.K k = 4
  · have h2b : twoK X.K k = true := decide_eq_true h2
    refine i_spanNo2 X k a c ad cp w hk hr h2 ?_ ?_
    · have ht := h
      unfold trX at ht
      rw [tr_two _ _ _ _ h2b] at ht
      split at ht
      · rename_i hnB
        rcases hnB with e | e
        · exact .inl (by omega)
        · exact .inr (.inl e)
      · rename_i hnB
        cases hr1 : tr (twoK X.K) (cntK X.K) X.A X.B (k - 1) with
        | none =>
          have := hs (k - 1) (by omega)
          unfold trX at this
          rw [hr1] at this; cases this
        | some q =>
          rw [hr1] at ht
          dsimp only at ht
          have hq := tr_le _ _ _ _ hr1
          have hT : tI X (k - 1) = q := tI_some hr1
          split at ht
          · rename_i hcA
            rcases hcA with e | e
            · exact .inr (.inr (.inl (by rw [hT]; omega)))
            · exact .inr (.inr (.inr (by rw [hT]; exact e)))
          · have := hs (q - 1) (by omega)
            unfold trX at this
            rw [ht] at this; cases this
    · intro h1
      have hs1 := hs (k - 1) (by omega)
      cases hr1 : trX X (k - 1) with
      | none => rw [hr1] at hs1; cases hs1
      | some q =>
        have hq := tr_le _ _ _ _ (show tr (twoK X.K) (cntK X.K) X.A X.B (k - 1) = some q from hr1)
        rw [tI_some hr1]
        omega
  · have h2b : ¬ twoK X.K k = true := by unfold twoK; simpa using h2
    by_cases h5 : X.K k = 5
    · have h5b : cntK X.K k = true := decide_eq_true h5
      have ht := h
      unfold trX at ht
      rw [tr_cnt _ _ _ _ h2b h5b] at ht
      split at ht
      · rename_i hnA
        exact i_spanNo5 X k a c ad cp w hk h5 hnA
      · have := hs (k - 1) (by omega)
        unfold trX at this
        rw [ht] at this; cases this
    · have h5b : ¬ cntK X.K k = true := by unfold cntK; simpa using h5
      have ht := h
      unfold trX at ht
      rw [tr_leaf _ _ _ _ h2b h5b] at ht
      cases ht
end
theorem own_shape2 {w : World} {B : Nat} {e : TypeId} {v : Value} {n : Nat} {xs : List Value} (h : w.ownsRow B e 2 v n xs) : ∃ ad cap, v = .slice ad n cap := by
  rcases h.2 with ⟨hv, h0⟩ | ⟨g, cap, cur, hv, rest⟩
  · exact ⟨none, 0, by rw [hv, h0]⟩
  · exact ⟨_, _, hv⟩
theorem own_rng2 {w : World} {B n c t : Nat} {ad : Option Addr} {xs : List Value} {L H : Nat → Int} (h : w.ownsRow B t 2 (.slice ad n c) n xs) (hp : Pairs xs n L H) : RngAt w ad n L H w.heap.size := fun h0 => by
  rcases h.2 with ⟨hv, h0'⟩ | ⟨g, cap, cur, hv, hB, hg, rest⟩
  · omega
  · simp only [Value.slice.injEq] at hv
    obtain ⟨rfl, _, rfl⟩ := hv
    refine ⟨g, 0, rfl, (h.lt g rfl).2, fun j hj => ?_⟩
    refine ⟨?_, ?_⟩
    · rw [Nat.zero_add, h.cellAt (j * 2) (by omega)]; exact (hp j hj).1
    · rw [Nat.zero_add, h.cellAt (j * 2 + 1) (by omega)]; exact (hp j hj).2
theorem pairs_snoc {xs : List Value} {k : Nat} {L H : Nat → Int} {x y : Int} (h : Pairs xs k L H) (hl : xs.length = k * 2) (hx : L k = x) (hy : H k = y) : Pairs (xs ++ [.int .i64 x, .int .i64 y]) (k + 1) L H := by
  intro j hj
  by_cases e : j = k
  · subst e
    refine ⟨?_, ?_⟩
    · rw [List.getElem?_append_right (by omega), show j * 2 - xs.length = 0 by omega, hx]; rfl
    · rw [List.getElem?_append_right (by omega), show j * 2 + 1 - xs.length = 1 by omega, hy]; rfl
  · have hj' := h j (by omega)
    refine ⟨?_, ?_⟩
    · rw [List.getElem?_append_left (by omega)]; exact hj'.1
    · rw [List.getElem?_append_left (by omega)]; exact hj'.2
theorem two_new (w : World) (x y : Int) (T : TypeId) (j : Nat) (u : Value) (hj : [Value.int .i64 x, Value.int .i64 y][j]? = some u) : (w.alloc (.cells #[.int .i64 x, .int .i64 y] T)).cell? ((⟨w.heap.size, 0, none⟩ : Addr).add j) = some u := by
  match j, hj with
  | 0, hj => simp at hj; subst hj; simp [Addr.add]
  | 1, hj => simp at hj; subst hj; simp [Addr.add]
theorem two_list (x y : Int) : ∀ u ∈ [Value.int .i64 x, Value.int .i64 y], u.oneCell' = true := by
  intro u hu
  simp at hu
  rcases hu with rfl | rfl <;> rfl
end Go.Proofs.YtibagghpimadfaaGreatDoor
