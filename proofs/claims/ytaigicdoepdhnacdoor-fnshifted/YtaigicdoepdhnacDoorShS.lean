/-
  Contracts: Shifted by the specification: its loops count in the date that is being made.
-/
import Derived.Test.YtaigicdoepdhnacDoorShI
namespace Go.Proofs.YtaigicdoepdhnacDoor
open Go.RowKit
set_option linter.unusedSimpArgs false
set_option linter.unusedVariables false
def cellI (w : World) (B i : Nat) : Int := match w.cell? ⟨B, i, none⟩ with
  | some (.int _ q) => q
  | _ => 0
theorem cellI_new (w : World) (y mo d h mi s : Int) (g : Bool) (z : Int) (T : TypeId) : cellI (w.alloc (.cells #[.int .i64 y, .int .i64 mo, .int .i64 d, .int .i64 h, .int .i64 mi, .int .i64 s, .bool g, .int .i64 z] T)) w.heap.size 0 = y := by
  unfold cellI; rw [(dbox_new w y mo d h mi s g z T).2.1]
set_option maxHeartbeats 4000000 in
theorem s_shift (y mo d h mi s : Int) (g : Bool) (z : Int) (zone : Int) (w : World) : Calls Tryd.prog 7 #[.agg #[.int .i64 y, .int .i64 mo, .int .i64 d, .int .i64 h, .int .i64 mi, .int .i64 s, .bool g, .int .i64 z], .int .i64 zone] w fun e w' => ShAns (shOk y mo d h mi s g z zone) (secs y mo d h mi s z + 60 * zone) zone e ∧ Below w.heap.size w w' := by
  cases hd : dateB y mo d h mi s g z
  · go_enter Tryd.func7, Tryd.ntmps7
    go_wp2_with fail
    refine (s_dateok y mo d h mi s g z _).mono ?_
    rintro e w1 ⟨rfl, hb1⟩
    have HI := hide (shin_go (shin_new w y mo d h mi s g z _) hb1)
    clear hb1
    obtain ⟨⟨r0, r1, r2, r3, r4, r5, r6, r7⟩, f0, f1, f2, f3, f4, f5, f6, f7⟩ := heldD_cells HI.out.2.1
    obtain ⟨⟨a0, a1, a2, a3, a4, a5, a6, a7⟩, _⟩ := heldD_cells HI.out.1
    have HZ := hide (heldD_cells (heldD_set HI.out.2.1 0 0 0 0 0 0 false 0)).1
    go_wp2
    obtain ⟨q0, q1, q2, q3, q4, q5, q6, q7⟩ := HZ.out
    exact bodyPost_ret (v := .tuple #[.agg #[.int .i64 0, .int .i64 0, .int .i64 0, .int .i64 0, .int .i64 0, .int .i64 0, .bool false, .int .i64 0], .bool false]) (by simp [results, Tryd.results7, go_sem, q0, q1, q2, q3, q4, q5, q6, q7]) rfl ⟨.inr ⟨by simp [shOk, hd], rfl⟩, below_set8 HI.out.2.2 (by omega) _ _ _ _ _ _ _ _⟩
  · have r := rt_of hd
    have HR := hide r
    have sb := secs_bd r
    clear r
    cases g
    · go_enter Tryd.func7, Tryd.ntmps7
      go_wp2_with fail
      refine (s_dateok y mo d h mi s false z _).mono ?_
      rintro e w1 ⟨rfl, hb1⟩
      have HI := hide (shin_go (shin_new w y mo d h mi s false z _) hb1)
      clear hb1
      obtain ⟨⟨r0, r1, r2, r3, r4, r5, r6, r7⟩, f0, f1, f2, f3, f4, f5, f6, f7⟩ := heldD_cells HI.out.2.1
      obtain ⟨⟨a0, a1, a2, a3, a4, a5, a6, a7⟩, _⟩ := heldD_cells HI.out.1
      have HZ := hide (heldD_cells (heldD_set HI.out.2.1 0 0 0 0 0 0 false 0)).1
      go_wp2
      obtain ⟨q0, q1, q2, q3, q4, q5, q6, q7⟩ := HZ.out
      exact bodyPost_ret (v := .tuple #[.agg #[.int .i64 0, .int .i64 0, .int .i64 0, .int .i64 0, .int .i64 0, .int .i64 0, .bool false, .int .i64 0], .bool false]) (by simp [results, Tryd.results7, go_sem, q0, q1, q2, q3, q4, q5, q6, q7]) rfl ⟨.inr ⟨by simp [shOk], rfl⟩, below_set8 HI.out.2.2 (by omega) _ _ _ _ _ _ _ _⟩
    · cases tz : inB (-840) zone 840
      · go_enter Tryd.func7, Tryd.ntmps7
        go_wp2_with fail
        refine (s_dateok y mo d h mi s true z _).mono ?_
        rintro e w1 ⟨rfl, hb1⟩
        have HI := hide (shin_go (shin_new w y mo d h mi s true z _) hb1)
        clear hb1
        obtain ⟨⟨r0, r1, r2, r3, r4, r5, r6, r7⟩, f0, f1, f2, f3, f4, f5, f6, f7⟩ := heldD_cells HI.out.2.1
        obtain ⟨⟨a0, a1, a2, a3, a4, a5, a6, a7⟩, _⟩ := heldD_cells HI.out.1
        have HZ := hide (heldD_cells (heldD_set HI.out.2.1 0 0 0 0 0 0 false 0)).1
        go_wp2_with (go_at_call 19; refine (s_inF _ _ _ _ tz).mono ?_; rintro e w' ⟨rfl, rfl⟩)
        obtain ⟨q0, q1, q2, q3, q4, q5, q6, q7⟩ := HZ.out
        exact bodyPost_ret (v := .tuple #[.agg #[.int .i64 0, .int .i64 0, .int .i64 0, .int .i64 0, .int .i64 0, .int .i64 0, .bool false, .int .i64 0], .bool false]) (by simp [results, Tryd.results7, go_sem, q0, q1, q2, q3, q4, q5, q6, q7]) rfl ⟨.inr ⟨by simp [shOk, tz], rfl⟩, below_set8 HI.out.2.2 (by omega) _ _ _ _ _ _ _ _⟩
      · obtain ⟨zn1, zn2⟩ := inB_of tz
        obtain ⟨a, ha⟩ : ∃ a, secs y mo d h mi s z + 60 * zone = a := ⟨_, rfl⟩
        have HA := hide ha
        rw [ha]
        have GM := hide dby_max
        cases ta : inB 0 a (86400 * 3652059 - 1)
        · have TA := hide ta
          have hta := inB_no ta
          have hcase : a < 0 ∨ (0 ≤ a ∧ 315537897600 ≤ a) := by omega
          clear hta ta
          rcases hcase with hneg | ⟨hpos, hbig⟩
          all_goals
            go_enter Tryd.func7, Tryd.ntmps7
            go_wp2_with fail
            refine (s_dateok y mo d h mi s true z _).mono ?_
            rintro e w1 ⟨rfl, hb1⟩
            have HI := hide (shin_go (shin_new w y mo d h mi s true z _) hb1)
            clear hb1
            obtain ⟨⟨a0, a1, a2, a3, a4, a5, a6, a7⟩, _⟩ := heldD_cells HI.out.1
            go_wp2_with (go_at_call 19; refine (s_inT _ _ _ _ tz).mono ?_; rintro e w' ⟨rfl, rfl⟩)
            refine (s_l5sec y mo d h mi s true z _ HR.out).mono ?_
            rintro e w2 ⟨rfl, hb2⟩
            replace HI := hide (shin_go HI.out hb2)
            clear hb2 a0 a1 a2 a3 a4 a5 a6 a7
            obtain ⟨⟨r0, r1, r2, r3, r4, r5, r6, r7⟩, f0, f1, f2, f3, f4, f5, f6, f7⟩ := heldD_cells HI.out.2.1
            have HZ := hide (heldD_cells (heldD_set HI.out.2.1 0 0 0 0 0 0 false 0)).1
            go_wp2_with (go_at_call 21; refine (s_days _ _ (by omega) (by omega)).mono ?_; rintro e w' ⟨rfl, rfl⟩; rw [GM.out])
            obtain ⟨q0, q1, q2, q3, q4, q5, q6, q7⟩ := HZ.out
            exact bodyPost_ret (v := .tuple #[.agg #[.int .i64 0, .int .i64 0, .int .i64 0, .int .i64 0, .int .i64 0, .int .i64 0, .bool false, .int .i64 0], .bool false]) (by simp [results, Tryd.results7, go_sem, q0, q1, q2, q3, q4, q5, q6, q7]) rfl ⟨.inr ⟨by have e1 := HA.out; have e2 := TA.out; rw [← e1] at e2; unfold shOk; rw [e2]; simp, rfl⟩, below_set8 HI.out.2.2 (by omega) _ _ _ _ _ _ _ _⟩
        · have TA := hide ta
          obtain ⟨ta1, ta2⟩ := inB_of ta
          have ta3 : a < 315537897600 := by omega
          clear ta ta2
          have hD0 : 0 ≤ a / 86400 := by omega
          have hD1 : a / 86400 < 3652059 := by omega
          go_enter Tryd.func7, Tryd.ntmps7
          go_wp2_with fail
          refine (s_dateok y mo d h mi s true z _).mono ?_
          rintro e w1 ⟨rfl, hb1⟩
          have HI := hide (shin_go (shin_new w y mo d h mi s true z _) hb1)
          clear hb1
          obtain ⟨⟨a0, a1, a2, a3, a4, a5, a6, a7⟩, _⟩ := heldD_cells HI.out.1
          go_wp2_with (go_at_call 19; refine (s_inT _ _ _ _ tz).mono ?_; rintro e w' ⟨rfl, rfl⟩)
          refine (s_l5sec y mo d h mi s true z _ HR.out).mono ?_
          rintro e w2 ⟨rfl, hb2⟩
          replace HI := hide (shin_go HI.out hb2)
          clear hb2 a0 a1 a2 a3 a4 a5 a6 a7
          go_wp2_with (go_at_call 21; refine (s_days _ _ (by omega) (by omega)).mono ?_; rintro e w' ⟨rfl, rfl⟩; rw [GM.out])
          go_loopw [] (fun wr => ∃ q : Int, 1 ≤ q ∧ q ≤ 9999 ∧ Hid (dby q ≤ a / 86400) ∧ wr = w'.alloc (.cells #[.int .i64 q, .int .i64 1, .int .i64 0, .int .i64 0, .int .i64 0, .int .i64 0, .bool true, .int .i64 zone] 25)) (fun wr => (9999 - cellI wr w'.heap.size 0).toNat)
          case atStart => exact ⟨1, by omega, by omega, hide (by unfold dby; omega), rfl⟩
          case round =>
            obtain ⟨q, q1, q2, HQ, rfl⟩ := hrel
            by_cases hc : dby (q + 1) ≤ a / 86400
            · have hq3 : q < 9999 := by
                rcases Int.lt_or_le q 9999 with h | h
                · exact h
                · obtain rfl : q = 9999 := by omega
                  have := GM.out; simp at hc; omega
              go_wp2_with (go_at_call 21; refine (s_days _ _ (by omega) (by omega)).mono ?_; rintro e w' ⟨rfl, rfl⟩)
              go_roundw
              case rel => exact ⟨q + 1, by omega, by omega, hide hc, by first | rfl | simp⟩
              case measure => simp [cellI_new]; omega
            · have hc' : a / 86400 < dby (q + 1) := by omega
              have HC := hide hc'
              clear hc'
              have HY := hide (And.intro q1 q2)
              have H12 := hide (cum_12 q1 q2)
              have hdb := dby_bd q1 (by omega)
              have hq := HQ.out
              have hr : a / 86400 - dby q ≤ 366 := by
                have := leap_01 q q1
                split at this <;> omega
              go_wp2_with (go_at_call 21; refine (s_days _ _ (by omega) (by omega)).mono ?_; rintro e w' ⟨rfl, rfl⟩)
              go_loopw [8] (fun t wr => ∃ k : Nat, k < 12 ∧ cumN q k ≤ a / 86400 - dby q ∧ t = .int .i64 (a / 86400 - dby q - cumN q k) ∧ wr = w'.alloc (.cells #[.int .i64 q, .int .i64 ((k : Int) + 1), .int .i64 0, .int .i64 0, .int .i64 0, .int .i64 0, .bool true, .int .i64 zone] 25)) (fun t _ => (intOf t).toNat)
              case atStart => exact ⟨0, by omega, by simp only [cumN]; omega, by simp [cumN], rfl⟩
              case round =>
                obtain ⟨k, hk, hc0, rfl, rfl⟩ := hrel
                have hcb := cumN_bd HY.out k (by omega)
                have hdl := dim_lo (y := q) (m := (k : Int) + 1) HY.out (by omega)
                have hdh := (dim_bd q ((k : Int) + 1)).2
                by_cases hcc : dim q ((k : Int) + 1) ≤ a / 86400 - dby q - cumN q k
                · have hk2 : k + 1 < 12 := by
                    rcases Nat.lt_or_ge (k + 1) 12 with h | h
                    · exact h
                    · obtain rfl : k = 11 := by omega
                      have e := H12.out
                      have e2 : cumN q 12 = cumN q 11 + dim q ((11 : Nat) + 1) := rfl
                      have e3 := HC.out
                      simp at hcc e2
                      omega
                  go_wp2_with (go_at_call 22; refine (s_dim _ _ _).mono ?_; rintro e w' ⟨rfl, rfl⟩)
                  go_roundw
                  case rel => exact ⟨k + 1, by omega, by simp only [cumN]; omega, by simp only [cumN]; go_num, by first | rfl | (simp; done) | (congr 1; simp)⟩
                  case measure => simp [intOf]; omega
                · have hc2 : a / 86400 - dby q < cumN q (k + 1) := by simp only [cumN]; omega
                  have HC2 := hide hc2
                  clear hc2
                  obtain ⟨⟨r0, r1, r2, r3, r4, r5, r6, r7⟩, f0, f1, f2, f3, f4, f5, f6, f7⟩ := heldD_cells HI.out.2.1
                  have hlt : w.heap.size + 1 < w'.heap.size := heldD_lt HI.out.2.1
                  have HZ := hide (heldD_cells (heldD_alloc (heldD_set HI.out.2.1 q ((k : Int) + 1) (a / 86400 - dby q - cumN q k + 1) (a / 3600 % 24) (a / 60 % 60) (a % 60) true zone) (.cells #[.int .i64 q, .int .i64 ((k : Int) + 1), .int .i64 (a / 86400 - dby q - cumN q k + 1), .int .i64 (a / 3600 % 24), .int .i64 (a / 60 % 60), .int .i64 (a % 60), .bool true, .int .i64 zone] 25))).1
                  go_wp2_with (go_at_call 22; refine (s_dim _ _ _).mono ?_; rintro e w' ⟨rfl, rfl⟩)
                  obtain ⟨q0, q1, q2, q3, q4, q5, q6, q7⟩ := HZ.out
                  refine bodyPost_ret (v := .tuple #[.agg #[.int .i64 q, .int .i64 ((k : Int) + 1), .int .i64 (a / 86400 - dby q - cumN q k + 1), .int .i64 (a / 3600 % 24), .int .i64 (a / 60 % 60), .int .i64 (a % 60), .bool true, .int .i64 zone], .bool true]) (by simp [results, Tryd.results7, go_sem, q0, q1, q2, q3, q4, q5, q6, q7]) rfl ⟨.inl ⟨by have e1 := HA.out; have e2 := TA.out; rw [← e1] at e2; unfold shOk; rw [e2, hd, tz]; rfl, q, _, _, _, _, _, ⟨HY.out, ⟨k, hk, rfl, hc0, HC2.out, rfl⟩, HQ.out, HC.out, rfl, rfl, rfl⟩, rfl⟩, ?_⟩
                  exact below_go (below_set8 HI.out.2.2 (by omega) _ _ _ _ _ _ _ _) (below_box _ _)
end Go.Proofs.YtaigicdoepdhnacDoor
