/-
  Contracts: the date of a number of seconds, by the program: the year, the month, the whole.
-/
import Derived.Test.YtaigicdoepdhnacDoorSecs
import Derived.Test.YtaigicdoepdhnacDoorShMath
import Derived.Test.YtaigicdoepdhnacDoorHeldDate
namespace Go.Proofs.YtaigicdoepdhnacDoor
open Go.RowKit
set_option linter.unusedSimpArgs false
set_option linter.unusedVariables false
set_option maxHeartbeats 2000000 in
theorem i_year (D : Int) (w : World) (h0 : 0 ≤ D) (h1 : D < 3652059) : Calls Tryd.prog 29 #[.int .i64 D] w fun e w' => (∃ y, (1 ≤ y ∧ y ≤ 9999) ∧ dby y ≤ D ∧ D < dby (y + 1) ∧ e = .returned (.int .i64 y)) ∧ w' = w := by
  have g0 := guess_year h0 h1
  have GM := hide dby_max
  go_enter Tryd.func29, Tryd.ntmps29
  go_wp2
  go_loop [3] (fun t => ∃ y : Int, 1 ≤ y ∧ y ≤ 9999 ∧ Hid (dby y ≤ D) ∧ t = .int .i64 y) (fun t => (9999 - intOf t).toNat)
  case atStart => exact ⟨_, by omega, g0.2, hide g0.1, rfl⟩
  case round =>
    clear g0
    obtain ⟨y, y1, y2, HY, rfl⟩ := hrel
    by_cases hc : dby (y + 1) ≤ D
    · have hy3 : y < 9999 := by
        rcases Int.lt_or_le y 9999 with h | h
        · exact h
        · obtain rfl : y = 9999 := by omega
          have := GM.out; simp at hc; omega
      go_wp2_with (go_at_call 16; refine (i_days _ _ (by omega) (by omega)).mono ?_; rintro e w' ⟨rfl, rfl⟩)
      go_round
      case rel => exact ⟨y + 1, by omega, by omega, hide hc, rfl⟩
      case measure => simp [intOf]; omega
    · have hc' : D < dby (y + 1) := by omega
      go_wp2_with (go_at_call 16; refine (i_days _ _ (by omega) (by omega)).mono ?_; rintro e w' ⟨rfl, rfl⟩)
      go_ret
      exact ⟨⟨y, ⟨y1, y2⟩, HY.out, hc', rfl⟩, rfl⟩
set_option maxHeartbeats 2000000 in
theorem i_dateAt (a : Int) (w : World) (h0 : 0 ≤ a) (h1 : a < 86400 * 3652059) (ht : MTab 0 w) : Calls Tryd.prog 17 #[.int .i64 a] w fun e w' => (∃ y m d h n s, Sh a y m d h n s ∧ e = .returned (.agg #[.int .i64 y, .int .i64 m, .int .i64 d, .int .i64 h, .int .i64 n, .int .i64 s, .bool false, .int .i64 0])) ∧ Below w.heap.size w w' := by
  have HT := hide (mtab_box ht (.cells #[.int .i64 0, .int .i64 0, .int .i64 0, .int .i64 0, .int .i64 0, .int .i64 0, .bool false, .int .i64 0] 25))
  clear ht
  have hD0 : 0 ≤ a / 86400 := by omega
  have hD1 : a / 86400 < 3652059 := by omega
  go_enter Tryd.func17, Tryd.ntmps17
  go_wp2_with fail
  refine (i_year _ _ hD0 hD1).mono ?_
  rintro e w' ⟨⟨y, hy, hd1, hd2, rfl⟩, rfl⟩
  have HY := hide hy
  have HD2 := hide hd2
  have H12 := hide (cum_12 hy.1 hy.2)
  obtain ⟨y1, y2⟩ := hy
  have hdb := dby_bd y1 (by omega)
  have hr : a / 86400 - dby y ≤ 366 := by
    have := leap_01 y y1
    split at this <;> omega
  clear hd2
  go_wp2_with (go_at_call 16; refine (i_days _ _ (by omega) (by omega)).mono ?_; rintro e w' ⟨rfl, rfl⟩)
  go_loop [3, 6] (fun t m => ∃ k : Nat, k < 12 ∧ m = .int .i64 ((k : Int) + 1) ∧ cumN y k ≤ a / 86400 - dby y ∧ t = .int .i64 (a / 86400 - dby y - cumN y k)) (fun _ m => (12 - intOf m).toNat)
  case atStart => exact ⟨0, by omega, rfl, by simp only [cumN]; omega, by simp [cumN]⟩
  case round =>
    obtain ⟨k, hk, rfl, hc0, rfl⟩ := hrel
    have hcb := cumN_bd HY.out k (by omega)
    have hdl := dim_lo (y := y) (m := (k : Int) + 1) HY.out (by omega)
    have hdh := (dim_bd y ((k : Int) + 1)).2
    by_cases hc : dim y ((k : Int) + 1) ≤ a / 86400 - dby y - cumN y k
    · have hk2 : k + 1 < 12 := by
        rcases Nat.lt_or_ge (k + 1) 12 with h | h
        · exact h
        · obtain rfl : k = 11 := by omega
          have e := H12.out
          have e2 : cumN y 12 = cumN y 11 + dim y ((11 : Nat) + 1) := rfl
          have e3 := HD2.out
          simp at hc e2
          omega
      go_wp2_with (go_at_call 23; refine (i_dim _ _ _ HT.out).mono ?_; rintro e w' ⟨rfl, rfl⟩)
      go_round
      case rel => exact ⟨k + 1, by omega, by go_num, by simp only [cumN]; omega, by simp only [cumN]; go_num⟩
      case measure => simp [intOf]; omega
    · have hc' : a / 86400 - dby y < cumN y (k + 1) := by simp only [cumN]; omega
      have HC := hide hc'
      clear hc'
      go_wp2_with (go_at_call 23; refine (i_dim _ _ _ HT.out).mono ?_; rintro e w' ⟨rfl, rfl⟩)
      refine bodyPost_ret (v := .agg #[.int .i64 y, .int .i64 ((k : Int) + 1), .int .i64 (a / 86400 - dby y - cumN y k + 1), .int .i64 (a % 86400 / 3600), .int .i64 (a % 86400 / 60 % 60), .int .i64 (a % 86400 % 60), .bool false, .int .i64 0]) (by simp [results, Tryd.results17, go_sem]) rfl ⟨⟨y, _, _, _, _, _, ⟨⟨y1, y2⟩, ⟨k, hk, rfl, hc0, HC.out, rfl⟩, hd1, HD2.out, by omega, by omega, by omega⟩, rfl⟩, ?_⟩
      exact (Below.refl _ _).alloc (Nat.le_refl _) _
/-- What Shifted answers: the date's six numbers, or none. -/
def ShAns (ok : Bool) (a zone : Int) (e : Ending) : Prop :=
  (ok = true ∧ ∃ y m d h n s, Sh a y m d h n s ∧ e = .returned (.tuple #[.agg #[.int .i64 y, .int .i64 m, .int .i64 d, .int .i64 h, .int .i64 n, .int .i64 s, .bool true, .int .i64 zone], .bool true])) ∨
  (ok = false ∧ e = .returned (.tuple #[.agg #[.int .i64 0, .int .i64 0, .int .i64 0, .int .i64 0, .int .i64 0, .int .i64 0, .bool false, .int .i64 0], .bool false]))
def shOk (y mo d h mi s : Int) (g : Bool) (z : Int) (zone : Int) : Bool := dateB y mo d h mi s g z && (g && (inB (-840) zone 840 && inB 0 (secs y mo d h mi s z + 60 * zone) (86400 * 3652059 - 1)))
set_option maxHeartbeats 4000000 in
theorem i_shift (y mo d h mi s : Int) (g : Bool) (z : Int) (zone : Int) (w : World) (ht : MTab 0 w) : Calls Tryd.prog 6 #[.agg #[.int .i64 y, .int .i64 mo, .int .i64 d, .int .i64 h, .int .i64 mi, .int .i64 s, .bool g, .int .i64 z], .int .i64 zone] w fun e w' => ShAns (shOk y mo d h mi s g z zone) (secs y mo d h mi s z + 60 * zone) zone e ∧ Below w.heap.size w w' := by
  have HT0 := hide ht
  have HT := hide (mtab_box (mtab_box ht (.cells #[.int .i64 y, .int .i64 mo, .int .i64 d, .int .i64 h, .int .i64 mi, .int .i64 s, .bool g, .int .i64 z] 25)) (.cells #[.int .i64 0, .int .i64 0, .int .i64 0, .int .i64 0, .int .i64 0, .int .i64 0, .bool false, .int .i64 0] 25))
  clear ht
  cases hd : dateB y mo d h mi s g z
  · go_enter Tryd.func6, Tryd.ntmps6
    go_wp2_with fail
    refine (i_dateok y mo d h mi s g z _ HT.out).mono ?_
    rintro e w1 ⟨rfl, hb1⟩
    have HI := hide (shin_go (shin_new w y mo d h mi s g z _) hb1)
    clear hb1
    obtain ⟨⟨r0, r1, r2, r3, r4, r5, r6, r7⟩, f0, f1, f2, f3, f4, f5, f6, f7⟩ := heldD_cells HI.out.2.1
    obtain ⟨⟨a0, a1, a2, a3, a4, a5, a6, a7⟩, _⟩ := heldD_cells HI.out.1
    have HZ := hide (heldD_cells (heldD_set HI.out.2.1 0 0 0 0 0 0 false 0)).1
    go_wp2
    obtain ⟨q0, q1, q2, q3, q4, q5, q6, q7⟩ := HZ.out
    exact bodyPost_ret (v := .tuple #[.agg #[.int .i64 0, .int .i64 0, .int .i64 0, .int .i64 0, .int .i64 0, .int .i64 0, .bool false, .int .i64 0], .bool false]) (by simp [results, Tryd.results6, go_sem, q0, q1, q2, q3, q4, q5, q6, q7]) rfl ⟨.inr ⟨by simp [shOk, hd], rfl⟩, below_set8 HI.out.2.2 (by omega) _ _ _ _ _ _ _ _⟩
  · have r := rt_of hd
    have HR := hide r
    have sb := secs_bd r
    clear r
    cases g
    · go_enter Tryd.func6, Tryd.ntmps6
      go_wp2_with fail
      refine (i_dateok y mo d h mi s false z _ HT.out).mono ?_
      rintro e w1 ⟨rfl, hb1⟩
      have HI := hide (shin_go (shin_new w y mo d h mi s false z _) hb1)
      clear hb1
      obtain ⟨⟨r0, r1, r2, r3, r4, r5, r6, r7⟩, f0, f1, f2, f3, f4, f5, f6, f7⟩ := heldD_cells HI.out.2.1
      obtain ⟨⟨a0, a1, a2, a3, a4, a5, a6, a7⟩, _⟩ := heldD_cells HI.out.1
      have HZ := hide (heldD_cells (heldD_set HI.out.2.1 0 0 0 0 0 0 false 0)).1
      go_wp2
      obtain ⟨q0, q1, q2, q3, q4, q5, q6, q7⟩ := HZ.out
      exact bodyPost_ret (v := .tuple #[.agg #[.int .i64 0, .int .i64 0, .int .i64 0, .int .i64 0, .int .i64 0, .int .i64 0, .bool false, .int .i64 0], .bool false]) (by simp [results, Tryd.results6, go_sem, q0, q1, q2, q3, q4, q5, q6, q7]) rfl ⟨.inr ⟨by simp [shOk], rfl⟩, below_set8 HI.out.2.2 (by omega) _ _ _ _ _ _ _ _⟩
    · cases tz : inB (-840) zone 840
      · go_enter Tryd.func6, Tryd.ntmps6
        go_wp2_with fail
        refine (i_dateok y mo d h mi s true z _ HT.out).mono ?_
        rintro e w1 ⟨rfl, hb1⟩
        have HI := hide (shin_go (shin_new w y mo d h mi s true z _) hb1)
        clear hb1
        obtain ⟨⟨r0, r1, r2, r3, r4, r5, r6, r7⟩, f0, f1, f2, f3, f4, f5, f6, f7⟩ := heldD_cells HI.out.2.1
        obtain ⟨⟨a0, a1, a2, a3, a4, a5, a6, a7⟩, _⟩ := heldD_cells HI.out.1
        have HZ := hide (heldD_cells (heldD_set HI.out.2.1 0 0 0 0 0 0 false 0)).1
        go_wp2_with (go_at_call 14; refine (i_zoneF _ _ tz).mono ?_; rintro e w' ⟨rfl, rfl⟩)
        obtain ⟨q0, q1, q2, q3, q4, q5, q6, q7⟩ := HZ.out
        exact bodyPost_ret (v := .tuple #[.agg #[.int .i64 0, .int .i64 0, .int .i64 0, .int .i64 0, .int .i64 0, .int .i64 0, .bool false, .int .i64 0], .bool false]) (by simp [results, Tryd.results6, go_sem, q0, q1, q2, q3, q4, q5, q6, q7]) rfl ⟨.inr ⟨by simp [shOk, tz], rfl⟩, below_set8 HI.out.2.2 (by omega) _ _ _ _ _ _ _ _⟩
      · obtain ⟨zn1, zn2⟩ := inB_of tz
        obtain ⟨a, ha⟩ : ∃ a, secs y mo d h mi s z + 60 * zone = a := ⟨_, rfl⟩
        have HA := hide ha
        have ha' : secs y mo d h mi s z + zone * 60 = a := by omega
        have HSB : Hid (secsB y mo d h mi s true z = secs y mo d h mi s z) := hide (by simp [secsB, hd])
        rw [ha]
        have GM := hide dby_max
        cases ta : inB 0 a (86400 * 3652059 - 1)
        · have TA := hide ta
          go_enter Tryd.func6, Tryd.ntmps6
          go_wp2_with fail
          refine (i_dateok y mo d h mi s true z _ HT.out).mono ?_
          rintro e w1 ⟨rfl, hb1⟩
          have HT1 := hide (mtab_go HT.out hb1)
          have HI := hide (shin_go (shin_new w y mo d h mi s true z _) hb1)
          clear hb1
          obtain ⟨⟨a0, a1, a2, a3, a4, a5, a6, a7⟩, _⟩ := heldD_cells HI.out.1
          go_wp2_with (go_at_call 14; refine (i_zoneT _ _ tz).mono ?_; rintro e w' ⟨rfl, rfl⟩)
          refine (i_seconds y mo d h mi s true z _ HT1.out).mono ?_
          rintro e w2 ⟨rfl, hb2⟩
          replace HI := hide (shin_go HI.out hb2)
          rw [HSB.out]
          clear hb2 a0 a1 a2 a3 a4 a5 a6 a7
          obtain ⟨⟨r0, r1, r2, r3, r4, r5, r6, r7⟩, f0, f1, f2, f3, f4, f5, f6, f7⟩ := heldD_cells HI.out.2.1
          have HZ := hide (heldD_cells (heldD_set HI.out.2.1 0 0 0 0 0 0 false 0)).1
          clear ha ta
          go_wp2_with (first | (go_at_call 16; refine (i_days _ _ (by omega) (by omega)).mono ?_; rintro e w' ⟨rfl, rfl⟩; rw [GM.out]) | (go_at_call 15; refine (i_inF _ _ _ _ (by first | exact TA.out | (rw [ha']; exact TA.out))).mono ?_; rintro e w' ⟨rfl, rfl⟩))
          obtain ⟨q0, q1, q2, q3, q4, q5, q6, q7⟩ := HZ.out
          exact bodyPost_ret (v := .tuple #[.agg #[.int .i64 0, .int .i64 0, .int .i64 0, .int .i64 0, .int .i64 0, .int .i64 0, .bool false, .int .i64 0], .bool false]) (by simp [results, Tryd.results6, go_sem, q0, q1, q2, q3, q4, q5, q6, q7]) rfl ⟨.inr ⟨by have e1 := HA.out; have e2 := TA.out; rw [← e1] at e2; unfold shOk; rw [e2]; simp, rfl⟩, below_set8 HI.out.2.2 (by omega) _ _ _ _ _ _ _ _⟩
        · have TA := hide ta
          obtain ⟨ta1, ta2⟩ := inB_of ta
          go_enter Tryd.func6, Tryd.ntmps6
          go_wp2_with fail
          refine (i_dateok y mo d h mi s true z _ HT.out).mono ?_
          rintro e w1 ⟨rfl, hb1⟩
          have HT1 := hide (mtab_go HT.out hb1)
          have HI := hide (shin_go (shin_new w y mo d h mi s true z _) hb1)
          clear hb1
          obtain ⟨⟨a0, a1, a2, a3, a4, a5, a6, a7⟩, _⟩ := heldD_cells HI.out.1
          go_wp2_with (go_at_call 14; refine (i_zoneT _ _ tz).mono ?_; rintro e w' ⟨rfl, rfl⟩)
          refine (i_seconds y mo d h mi s true z _ HT1.out).mono ?_
          rintro e w2 ⟨rfl, hb2⟩
          replace HI := hide (shin_go HI.out hb2)
          have HT2 := hide (mtab_go HT1.out hb2)
          rw [HSB.out]
          clear hb2 a0 a1 a2 a3 a4 a5 a6 a7
          clear ha ta
          go_wp2_with (first | (go_at_call 16; refine (i_days _ _ (by omega) (by omega)).mono ?_; rintro e w' ⟨rfl, rfl⟩; rw [GM.out]) | (go_at_call 15; refine (i_inT _ _ _ _ (by first | exact TA.out | (rw [ha']; exact TA.out))).mono ?_; rintro e w' ⟨rfl, rfl⟩))
          refine (i_dateAt a _ (by omega) (by omega) HT2.out).mono ?_
          rintro e w3 ⟨⟨y', m', d', h', n', s', hsh, rfl⟩, hb3⟩
          replace HI := hide (shin_go HI.out hb3)
          have HS := hide hsh
          clear hb3 hsh
          obtain ⟨⟨r0, r1, r2, r3, r4, r5, r6, r7⟩, f0, f1, f2, f3, f4, f5, f6, f7⟩ := heldD_cells HI.out.2.1
          have hlt : w.heap.size + 1 < w3.heap.size := heldD_lt HI.out.2.1
          have HZ := hide (heldD_cells (heldD_alloc (heldD_set HI.out.2.1 y' m' d' h' n' s' true zone) (.cells #[.int .i64 y', .int .i64 m', .int .i64 d', .int .i64 h', .int .i64 n', .int .i64 s', .bool true, .int .i64 zone] 25))).1
          go_wp2
          obtain ⟨q0, q1, q2, q3, q4, q5, q6, q7⟩ := HZ.out
          refine bodyPost_ret (v := .tuple #[.agg #[.int .i64 y', .int .i64 m', .int .i64 d', .int .i64 h', .int .i64 n', .int .i64 s', .bool true, .int .i64 zone], .bool true]) (by simp [results, Tryd.results6, go_sem, q0, q1, q2, q3, q4, q5, q6, q7]) rfl ⟨.inl ⟨by have e1 := HA.out; have e2 := TA.out; rw [← e1] at e2; unfold shOk; rw [e2, hd, tz]; rfl, y', m', d', h', n', s', HS.out, rfl⟩, ?_⟩
          exact below_go (below_set8 HI.out.2.2 (by omega) _ _ _ _ _ _ _ _) (below_box _ _)
end Go.Proofs.YtaigicdoepdhnacDoor
