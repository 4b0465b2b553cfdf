/-
  Contract: where a node's piece begins and how much it weighs, by the program, told of all nodes ahead of it.
-/
import Derived.Test.YtbijilnbbbicmaaDoorRxS
namespace Go.Proofs.YtbijilnbbbicmaaDoor
open Go.RowKit Go.Joins
set_option linter.unusedVariables false
set_option linter.unusedSimpArgs false
def tI (X : Rx) (j : Nat) : Int := trI X.K X.A X.B j
theorem tI_some {X : Rx} {j f : Nat} (h : trX X j = some f) : tI X j = f := by unfold tI trI; unfold trX at h; rw [h]
theorem i_held (x y : Int) (w : World) (h : min x 2001 = y) : Calls Tryd.prog 38 #[.int .i64 x] w fun e w' => e = .returned (.int .i64 y) ∧ w' = w := by
  have H := hide h
  clear h
  go_enter Tryd.func38, Tryd.ntmps38
  go_wp2
  all_goals
    go_ret
    exact ⟨ret_i (by rw [← H.out]; omega), rfl⟩
theorem sp_below (w : World) (o1 o2 : Obj) (q : Nat) (v0 v1 : Value) : Below w.heap.size w (((((w.alloc o1).alloc o2).drewN q).setCell ⟨w.heap.size + 1, 0, none⟩ v0).setCell ⟨w.heap.size + 1, 1, none⟩ v1) := by
  refine Below.setCell (Below.setCell ?_ (by simp) _) (by simp) _
  exact (((Below.refl _ _).alloc (Nat.le_refl _) _).alloc (by simp) _).trans ((drew_below _ _).mono (by simp; omega))
theorem sp_below0 (w : World) (o1 o2 : Obj) (v0 v1 : Value) : Below w.heap.size w ((((w.alloc o1).alloc o2).setCell ⟨w.heap.size + 1, 0, none⟩ v0).setCell ⟨w.heap.size + 1, 1, none⟩ v1) := sp_below w o1 o2 0 v0 v1
section
variable (X : Rx) (k : Nat) (a : Option Addr) (c : Nat) (ad : Option Addr) (cp : Nat) (w : World)
set_option maxRecDepth 100000 in
set_option maxHeartbeats 4000000 in
theorem i_spanNo2 (hk : k ≤ 120) (hr : RngAt w a k (tI X) (wtX X) w.heap.size) (h2 : X.K k = 3 ∨ X.K k = 4)
    (hno : k ≤ 1 ∨ X.B k ≠ (k : Int) - 1 ∨ tI X (k - 1) = 0 ∨ X.A k ≠ tI X (k - 1) - 1) (htb : 1 < k → 0 ≤ tI X (k - 1) ∧ tI X (k - 1) ≤ 120) :
    Calls Tryd.prog 26 #[.slice a k c, .agg #[.int .i64 (X.K k), .bool (X.NT k), .slice ad (X.NR k) cp, .int .i64 (X.A k), .int .i64 (X.B k), .int .i64 (X.MN k), .int .i64 (X.MX k)]] w fun e w' => e = .returned (.tuple #[.agg #[.int .i64 0, .int .i64 0], .bool false]) ∧ Below w.heap.size w w' := by
  obtain ⟨kd, hkd⟩ : ∃ kd, X.K k = kd := ⟨_, rfl⟩
  obtain ⟨pa, hpa⟩ : ∃ x, X.A k = x := ⟨_, rfl⟩
  obtain ⟨pb, hpb⟩ : ∃ x, X.B k = x := ⟨_, rfl⟩
  obtain ⟨t, ht⟩ : ∃ x, tI X (k - 1) = x := ⟨_, rfl⟩
  rw [hkd] at h2 ⊢
  rw [hpb, ht, hpa] at hno
  rw [ht] at htb
  rw [hpa, hpb]
  have HR := hide hr
  have HT := hide ht
  clear hr hkd hpa hpb ht
  by_cases q1 : k ≤ 1
  · have q2 : (k : Int) - 1 < 1 := by omega
    clear hno htb
    rcases h2 with rfl | rfl
    all_goals
      go_enter Tryd.func26, Tryd.ntmps26
      go_wp2
      go_big_quiet (fail)
      go_wp2
      exact bodyPost_ret (v := .tuple #[.agg #[.int .i64 0, .int .i64 0], .bool false]) (by simp [results, Tryd.results26, go_sem]) rfl ⟨rfl, sp_below _ _ _ _ _ _⟩
  · obtain ⟨b, off, rfl, hbs, hc⟩ := HR.out (by omega)
    have c1 := (hc (k - 1) (by omega)).1
    rw [HT.out] at c1
    have q2 : decide ((k : Int) - 1 < 1) = false := by simp; omega
    have q3 : (k : Int) - 1 < (k : Int) := by omega
    have q4 : (0 : Int) ≤ (k : Int) - 1 := by omega
    have q5 : ((k : Int) - 1).toNat = k - 1 := by omega
    obtain ⟨tb0, tb1⟩ := htb (by omega)
    have hw : IntKind.i64.wrap (t - 1) = t - 1 := by rw [IntKind.wrap_i64]; omega
    clear hc htb
    by_cases p1 : pb = (k : Int) - 1
    · have p1b : (pb != (k : Int) - 1) = false := by simp; omega
      subst p1
      by_cases p2 : t = 0
      · subst p2
        clear hno
        rcases h2 with rfl | rfl
        all_goals
          go_enter Tryd.func26, Tryd.ntmps26
          go_wp2
          go_big_quiet (fail)
          go_wp2
          exact bodyPost_ret (v := .tuple #[.agg #[.int .i64 0, .int .i64 0], .bool false]) (by simp [results, Tryd.results26, go_sem]) rfl ⟨rfl, sp_below _ _ _ _ _ _⟩
      · have p2b : (t == 0) = false := by simpa using p2
        have p3 : pa ≠ t - 1 := by
          rcases hno with h | h | h | h
          · omega
          · exact absurd rfl h
          · exact absurd h p2
          · exact h
        have p3b : (pa != t - 1) = true := by simpa using p3
        clear hno
        rcases h2 with rfl | rfl
        all_goals
          go_enter Tryd.func26, Tryd.ntmps26
          go_wp2
          go_big_quiet (fail)
          go_wp2
          exact bodyPost_ret (v := .tuple #[.agg #[.int .i64 0, .int .i64 0], .bool false]) (by simp [results, Tryd.results26, go_sem]) rfl ⟨rfl, sp_below _ _ _ _ _ _⟩
    · have p1b : (pb != (k : Int) - 1) = true := by simpa using p1
      clear hno
      rcases h2 with rfl | rfl
      all_goals
        go_enter Tryd.func26, Tryd.ntmps26
        go_wp2
        go_big_quiet (fail)
        go_wp2
        exact bodyPost_ret (v := .tuple #[.agg #[.int .i64 0, .int .i64 0], .bool false]) (by simp [results, Tryd.results26, go_sem]) rfl ⟨rfl, sp_below _ _ _ _ _ _⟩
end
end Go.Proofs.YtbijilnbbbicmaaDoor
