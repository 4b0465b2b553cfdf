/-
  Contract: where a node's piece begins and how much it weighs, by the program, where it is a right one.
-/
import Derived.Test.YtbijilnbbbicmaaDoorRxSp
import Derived.Deep.RegionLaw
namespace Go.Proofs.YtbijilnbbbicmaaDoor
open Go.RowKit Go.Joins
set_option linter.unusedVariables false
set_option linter.unusedSimpArgs false
section
variable (X : Rx) (k : Nat) (a : Option Addr) (c : Nat) (ad : Option Addr) (cp : Nat) (w : World)
set_option maxRecDepth 100000 in
set_option maxHeartbeats 4000000 in
theorem i_spanYes2 (hk : k ≤ 120) (hr : RngAt w a k (tI X) (wtX X) w.heap.size) (h2 : X.K k = 3 ∨ X.K k = 4) (m : Nat) (hm : m + 1 < k) (hB : X.B k = (k : Int) - 1) (hT : tI X (k - 1) = (m : Int) + 1) (hA : X.A k = m) (f z : Int) (hf : tI X m = f) (hz : min (wtX X m + wtX X (k - 1)) 2001 = z) :
    Calls Tryd.prog 26 #[.slice a k c, .agg #[.int .i64 (X.K k), .bool (X.NT k), .slice ad (X.NR k) cp, .int .i64 (X.A k), .int .i64 (X.B k), .int .i64 (X.MN k), .int .i64 (X.MX k)]] w fun e w' => e = .returned (.tuple #[.agg #[.int .i64 f, .int .i64 z], .bool true]) ∧ Below w.heap.size w w' := by
  obtain ⟨kd, hkd⟩ : ∃ kd, X.K k = kd := ⟨_, rfl⟩
  rw [hkd] at h2 ⊢
  rw [hA, hB]
  obtain ⟨b, off, rfl, hbs, hc⟩ := hr (by omega)
  obtain ⟨c1, c2⟩ := hc (k - 1) (by omega)
  obtain ⟨c3, c4⟩ := hc m (by omega)
  have g1 := wtX_ge X m
  have g2 := wtX_le X m
  have g3 := wtX_ge X (k - 1)
  have g4 := wtX_le X (k - 1)
  obtain ⟨x, hx⟩ : ∃ x, wtX X m = x := ⟨_, rfl⟩
  obtain ⟨y, hy⟩ : ∃ x, wtX X (k - 1) = x := ⟨_, rfl⟩
  rw [hf] at c3
  rw [hT] at c1
  rw [hx] at c4 g1 g2 hz
  rw [hy] at c2 g3 g4 hz
  have HZ := hide hz
  have q2 : decide ((k : Int) - 1 < 1) = false := by simp; omega
  have q3 : (k : Int) - 1 < (k : Int) := by omega
  have q4 : (0 : Int) ≤ (k : Int) - 1 := by omega
  have q10 : (1 : Int) ≤ (k : Int) := by omega
  have q5 : ((k : Int) - 1).toNat = k - 1 := by omega
  have q6 : (m : Int) < (k : Int) := by omega
  have q7 : (((m : Int) + 1) == 0) = false := by simp; omega
  have q8 : IntKind.i64.wrap ((m : Int) + 1 - 1) = (m : Int) := by rw [IntKind.wrap_i64]; omega
  have q9 : IntKind.i64.wrap (x + y) = x + y := by rw [IntKind.wrap_i64]; omega
  clear hc hr hkd hf hT hx hy hz hA hB
  rcases h2 with rfl | rfl
  all_goals
      go_enter Tryd.func26, Tryd.ntmps26
      go_wp2
      go_big_quiet (fail)
      go_wp2
      go_region_held3 (fun w' => w'.cell? ⟨w.heap.size, 3, none⟩ = some (.int .i64 (m : Int)) ∧ w'.cell? ⟨b, off + m * 2, none⟩ = some (.int .i64 f) ∧ w'.cell? ⟨b, off + m * 2 + 1, none⟩ = some (.int .i64 x) ∧ w'.cell? ⟨b, off + (k - 1) * 2 + 1, none⟩ = some (.int .i64 y)) (first | assumption | (refine ⟨?_, ?_, ?_, ?_⟩ <;> go_simp)) (first | (go_at_call 38; refine (i_held _ z _ HZ.out).mono ?_; rintro e w' ⟨rfl, rfl⟩))
      all_goals
        go_wp2
        exact bodyPost_ret (v := .tuple #[.agg #[.int .i64 f, .int .i64 z], .bool true]) (by simp [results, Tryd.results26, go_sem]) rfl ⟨rfl, sp_below _ _ _ _ _ _⟩
set_option maxRecDepth 100000 in
set_option maxHeartbeats 4000000 in
theorem i_spanNo5 (hk : k ≤ 120) (h5 : X.K k = 5) (hno : k = 0 ∨ X.A k ≠ (k : Int) - 1) :
    Calls Tryd.prog 26 #[.slice a k c, .agg #[.int .i64 (X.K k), .bool (X.NT k), .slice ad (X.NR k) cp, .int .i64 (X.A k), .int .i64 (X.B k), .int .i64 (X.MN k), .int .i64 (X.MX k)]] w fun e w' => e = .returned (.tuple #[.agg #[.int .i64 0, .int .i64 0], .bool false]) ∧ Below w.heap.size w w' := by
  rw [h5]
  obtain ⟨pa, hpa⟩ : ∃ x, X.A k = x := ⟨_, rfl⟩
  rw [hpa] at hno ⊢
  clear h5 hpa
  by_cases h0 : k = 0
  · have q : (k : Int) - 1 < 0 := by omega
    clear hno
    go_enter Tryd.func26, Tryd.ntmps26
    go_wp2
    exact bodyPost_ret (v := .tuple #[.agg #[.int .i64 0, .int .i64 0], .bool false]) (by simp [results, Tryd.results26, go_sem]) rfl ⟨rfl, ((Below.refl _ _).alloc (Nat.le_refl _) _).alloc (by simp) _⟩
  · have q : ¬ (k : Int) - 1 < 0 := by omega
    have p1 : pa ≠ (k : Int) - 1 := hno.resolve_left h0
    have p1b : (pa != (k : Int) - 1) = true := by simpa using p1
    clear hno p1
    go_enter Tryd.func26, Tryd.ntmps26
    go_wp2
    exact bodyPost_ret (v := .tuple #[.agg #[.int .i64 0, .int .i64 0], .bool false]) (by simp [results, Tryd.results26, go_sem]) rfl ⟨rfl, ((Below.refl _ _).alloc (Nat.le_refl _) _).alloc (by simp) _⟩
set_option maxRecDepth 100000 in
set_option maxHeartbeats 4000000 in
theorem i_spanYes5 (hk : k ≤ 120) (hr : RngAt w a k (tI X) (wtX X) w.heap.size) (h5 : X.K k = 5) (h0 : 1 ≤ k) (hA : X.A k = (k : Int) - 1) (hmn : 0 ≤ X.MN k ∧ X.MN k ≤ 20 ∧ X.MX k ≤ 20 ∧ -1 ≤ X.MX k) (f z : Int) (hf : tI X (k - 1) = f) (hz : min (wtX X (k - 1) * muX X k) 2001 = z) :
    Calls Tryd.prog 26 #[.slice a k c, .agg #[.int .i64 (X.K k), .bool (X.NT k), .slice ad (X.NR k) cp, .int .i64 (X.A k), .int .i64 (X.B k), .int .i64 (X.MN k), .int .i64 (X.MX k)]] w fun e w' => e = .returned (.tuple #[.agg #[.int .i64 f, .int .i64 z], .bool true]) ∧ Below w.heap.size w w' := by
  rw [h5, hA]
  obtain ⟨b, off, rfl, hbs, hc⟩ := hr (by omega)
  obtain ⟨c1, c2⟩ := hc (k - 1) (by omega)
  have g3 := wtX_ge X (k - 1)
  have g4 := wtX_le X (k - 1)
  obtain ⟨x, hx⟩ : ∃ x, wtX X (k - 1) = x := ⟨_, rfl⟩
  rw [hf] at c1
  rw [hx] at c2 g3 g4 hz
  obtain ⟨mn, hmn'⟩ : ∃ mn, X.MN k = mn := ⟨_, rfl⟩
  obtain ⟨mx, hmx'⟩ : ∃ mx, X.MX k = mx := ⟨_, rfl⟩
  have hmu : muX X k = max (max 1 (mn + 1)) mx := by unfold muX; rw [hmn', hmx']
  rw [hmn', hmx'] at hmn ⊢
  obtain ⟨m0, m1, m2, m3⟩ := hmn
  have e1 : (if (1 : Int) < mn + 1 then mn + 1 else 1) = mn + 1 := by split <;> omega
  obtain ⟨v, hv⟩ : ∃ v, (if mn + 1 < mx then mx else mn + 1) = v := ⟨_, rfl⟩
  have hv1 : max (max 1 (mn + 1)) mx = v ∧ 1 ≤ v ∧ v ≤ 21 := by rw [← hv]; split <;> omega
  have p0 := Int.mul_nonneg g3 (by omega : (0 : Int) ≤ v)
  have p1 : x * v ≤ 2001 * 21 := Int.mul_le_mul g4 (by omega) (by omega) (by omega)
  rw [hmu, hv1.1] at hz
  have hw1 : IntKind.i64.wrap (mn + 1) = mn + 1 := by rw [IntKind.wrap_i64]; omega
  have hw2 : IntKind.i64.wrap (x * v) = x * v := by rw [IntKind.wrap_i64]; omega
  have HZ := hide hz
  have q2 : ¬ (k : Int) - 1 < 0 := by omega
  have q3 : (k : Int) - 1 < (k : Int) := by omega
  have q4 : (0 : Int) ≤ (k : Int) - 1 := by omega
  have q10 : (1 : Int) ≤ (k : Int) := by omega
  have q5 : ((k : Int) - 1).toNat = k - 1 := by omega
  clear hc hr hf hx hz hA hmn' hmx' hmu hv1 h5
  go_enter Tryd.func26, Tryd.ntmps26
  go_wp2
  go_region_held3 (fun w' => w'.cell? ⟨w.heap.size, 5, none⟩ = some (.int .i64 mn) ∧ w'.cell? ⟨w.heap.size, 6, none⟩ = some (.int .i64 mx) ∧ w'.cell? ⟨b, off + (k - 1) * 2, none⟩ = some (.int .i64 f) ∧ w'.cell? ⟨b, off + (k - 1) * 2 + 1, none⟩ = some (.int .i64 x)) (first | assumption | (refine ⟨?_, ?_, ?_, ?_⟩ <;> go_simp)) (first | (go_at_call 38; refine (i_held _ z _ HZ.out).mono ?_; rintro e w' ⟨rfl, rfl⟩))
  all_goals
    go_wp2
    exact bodyPost_ret (v := .tuple #[.agg #[.int .i64 f, .int .i64 z], .bool true]) (by simp [results, Tryd.results26, go_sem]) rfl ⟨rfl, (((Below.refl _ _).alloc (Nat.le_refl _) _).alloc (by simp) _).drew⟩
set_option maxHeartbeats 4000000 in
theorem i_spanLeaf (hk : k ≤ 120) (h2 : ¬ (X.K k = 3 ∨ X.K k = 4)) (h5 : ¬ X.K k = 5) :
    Calls Tryd.prog 26 #[.slice a k c, .agg #[.int .i64 (X.K k), .bool (X.NT k), .slice ad (X.NR k) cp, .int .i64 (X.A k), .int .i64 (X.B k), .int .i64 (X.MN k), .int .i64 (X.MX k)]] w fun e w' => e = .returned (.tuple #[.agg #[.int .i64 k, .int .i64 1], .bool true]) ∧ Below w.heap.size w w' := by
  obtain ⟨kd, hkd⟩ : ∃ kd, X.K k = kd := ⟨_, rfl⟩
  rw [hkd] at h2 h5 ⊢
  have n3 : (kd == 3) = false := by simp; omega
  have n4 : (kd == 4) = false := by simp; omega
  have n5 : (kd == 5) = false := by simp; omega
  clear h2 h5 hkd
  go_enter Tryd.func26, Tryd.ntmps26
  go_wp2
  exact bodyPost_ret (v := .tuple #[.agg #[.int .i64 k, .int .i64 1], .bool true]) (by simp [results, Tryd.results26, go_sem]) rfl ⟨rfl, ((Below.refl _ _).alloc (Nat.le_refl _) _).alloc (by simp) _⟩
end
end Go.Proofs.YtbijilnbbbicmaaDoor
