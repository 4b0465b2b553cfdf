/-
  Contract: the specification's AddDec.
-/
import Derived.Test.YtdglamiifcagoabDoorAddB
import Derived.Test.YtdglamiifcagoabDoorSame
import Derived.Test.YtdglamiifcagoabDoorHeld
import Derived.Test.YtdglamiifcagoabDoorLessS
import Derived.Laws.Cover1
import Derived.Deep.RegionWith
namespace Go.Proofs.YtdglamiifcagoabDoor
open Go.RowKit
set_option linter.unusedSimpArgs false
set_option linter.unusedVariables false
set_option maxHeartbeats 2000000 in
theorem s_add (n m : Bool) (s t : ByteArray) (c d : Int) (w : World) (hs : s.size ≤ maxLen) (ht : t.size ≤ maxLen) :
    Calls Tryd.prog 7 #[.agg #[.bool n, .string s, .int .i64 c], .agg #[.bool m, .string t, .int .i64 d]] w fun e w' =>
      e = .returned (resV (addB n s c m t d)) ∧ Below w.heap.size w w' := by
  cases h1 : decB n s c
  · have HV := hide (addB_no1 m t d h1)
    go_enter Tryd.func7, Tryd.ntmps7
    go_wp2_with fail
    refine (s_decok n s c _ hs).mono ?_
    rintro e w1 ⟨rfl, hb1⟩
    have HI := hide (addin_go (addin_new w n s c m t d _) hb1)
    clear hb1
    obtain ⟨⟨a1, a2, a3⟩, _, _, _⟩ := heldN_cells HI.out.1
    obtain ⟨⟨b1, b2, b3⟩, _, _, _⟩ := heldN_cells HI.out.2.1
    obtain ⟨⟨r1, r2, r3⟩, g1, g2, g3⟩ := heldN_cells HI.out.2.2.1
    have HZ := hide (heldN_three HI.out.2.2.1 (.bool false) (.string ⟨#[]⟩) (.int .i64 0))
    go_wp2
    obtain ⟨z0, z1, z2⟩ := HZ.out
    exact bodyPost_ret (v := .tuple #[.agg #[.bool false, .string ⟨#[]⟩, .int .i64 0], .bool false]) (by simp [results, Tryd.results7, go_sem, z0, z1, z2]) rfl ⟨by rw [HV.out]; rfl, below_set3 HI.out.2.2.2 (by omega) _ _ _⟩
  · cases h2 : decB m t d
    · have HV := hide (addB_no2 n s c h2)
      go_enter Tryd.func7, Tryd.ntmps7
      go_wp2_with fail
      refine (s_decok n s c _ hs).mono ?_
      rintro e w1 ⟨rfl, hb1⟩
      have HI := hide (addin_go (addin_new w n s c m t d _) hb1)
      clear hb1
      obtain ⟨⟨a1, a2, a3⟩, _, _, _⟩ := heldN_cells HI.out.1
      obtain ⟨⟨b1, b2, b3⟩, _, _, _⟩ := heldN_cells HI.out.2.1
      obtain ⟨⟨r1, r2, r3⟩, g1, g2, g3⟩ := heldN_cells HI.out.2.2.1
      go_wp2_with fail
      refine (s_decok m t d _ ht).mono ?_
      rintro e w2 ⟨rfl, hb2⟩
      replace HI := hide (addin_go HI.out hb2)
      clear hb2 a1 a2 a3 b1 b2 b3 r1 r2 r3 g1 g2 g3
      obtain ⟨⟨a1, a2, a3⟩, _, _, _⟩ := heldN_cells HI.out.1
      obtain ⟨⟨b1, b2, b3⟩, _, _, _⟩ := heldN_cells HI.out.2.1
      obtain ⟨⟨r1, r2, r3⟩, g1, g2, g3⟩ := heldN_cells HI.out.2.2.1
      have HZ := hide (heldN_three HI.out.2.2.1 (.bool false) (.string ⟨#[]⟩) (.int .i64 0))
      go_wp2
      obtain ⟨z0, z1, z2⟩ := HZ.out
      exact bodyPost_ret (v := .tuple #[.agg #[.bool false, .string ⟨#[]⟩, .int .i64 0], .bool false]) (by simp [results, Tryd.results7, go_sem, z0, z1, z2]) rfl ⟨by rw [HV.out]; rfl, below_set3 HI.out.2.2.2 (by omega) _ _ _⟩
    · have HV := hide (addB_yes h1 h2)
      obtain ⟨hs6, hc0, hc1⟩ := decB_bounds h1
      obtain ⟨ht6, hd0, hd1⟩ := decB_bounds h2
      have H1 := hide h1
      have H2 := hide h2
      go_enter Tryd.func7, Tryd.ntmps7
      go_wp2_with fail
      refine (s_decok n s c _ hs).mono ?_
      rintro e w1 ⟨rfl, hb1⟩
      have HI := hide (addin_go (addin_new w n s c m t d _) hb1)
      clear hb1
      obtain ⟨⟨a1, a2, a3⟩, _, _, _⟩ := heldN_cells HI.out.1
      obtain ⟨⟨b1, b2, b3⟩, _, _, _⟩ := heldN_cells HI.out.2.1
      obtain ⟨⟨r1, r2, r3⟩, g1, g2, g3⟩ := heldN_cells HI.out.2.2.1
      go_wp2_with fail
      refine (s_decok m t d _ ht).mono ?_
      rintro e w2 ⟨rfl, hb2⟩
      replace HI := hide (addin_go HI.out hb2)
      clear hb2 a1 a2 a3 b1 b2 b3 r1 r2 r3 g1 g2 g3
      obtain ⟨⟨a1, a2, a3⟩, _, _, _⟩ := heldN_cells HI.out.1
      obtain ⟨⟨b1, b2, b3⟩, _, _, _⟩ := heldN_cells HI.out.2.1
      obtain ⟨⟨r1, r2, r3⟩, g1, g2, g3⟩ := heldN_cells HI.out.2.2.1
      go_wp2_with fail
      refine (s_same n m s t c d _ hs6 ht6 hc0 hc1 hd0 hd1).mono ?_
      rintro e w3 ⟨x, y, hxy, hx, hp, hq, rfl, hb3⟩
      replace HI := hide (addin_go HI.out hb3)
      clear hb3 h1 h2 a1 a2 a3 b1 b2 b3 r1 r2 r3 g1 g2 g3
      obtain ⟨⟨a1, a2, a3⟩, _, _, _⟩ := heldN_cells HI.out.1
      obtain ⟨⟨b1, b2, b3⟩, _, _, _⟩ := heldN_cells HI.out.2.1
      obtain ⟨⟨r1, r2, r3⟩, g1, g2, g3⟩ := heldN_cells HI.out.2.2.1
      have m1 := mag_pad hp (by omega) (by omega)
      have m2 := mag_pad hq (by omega) (by omega)
      have bl := less_val x y (padded_dg hp (decB_digits H1.out)) (padded_dg hq (decB_digits H2.out)) hxy
      have HDX := hide (padded_dg hp (decB_digits H1.out))
      have HDY := hide (padded_dg hq (decB_digits H2.out))
      have M1 := hide m1
      have M2 := hide m2
      have HXY := hide hxy
      obtain ⟨G, hG⟩ : ∃ G, max c d = G := ⟨_, rfl⟩
      have hG0 : 0 ≤ G := by omega
      have hG1 : G ≤ 60 := by omega
      have hy : y.size ≤ 200 := by omega
      rw [hG] at m1 m2 ⊢
      replace M1 := hide m1
      replace M2 := hide m2
      clear m1 m2 hp hq hxy hG
      obtain ⟨R0, hR0⟩ : ∃ R, res60 (iv n s c + iv m t d) = R := ⟨_, rfl⟩
      obtain ⟨n9, s9, c9, o9⟩ := R0
      have HR0 := hide hR0
      have HVV := hide (HV.out.trans hR0)
      clear hR0
      by_cases hnm : n = m
      · subst hnm
        clear bl
        go_wp2
        go_region_with (first | (go_at_call 20; refine (s_sum x y _ HXY.out hx HDX.out HDY.out).mono ?_; rintro e wn ⟨z, hzs, hzd, hzv, rfl, hbn⟩; have HZD := hide hzd; have HZV := hide hzv; clear hzd hzv; (first | replace hbn := undrew1 hbn | skip); replace HI := hide (addin_go HI.out hbn); clear hbn a1 a2 a3 b1 b2 b3 r1 r2 r3 g1 g2 g3; obtain ⟨⟨a1, a2, a3⟩, _⟩ := heldN_cells HI.out.1; obtain ⟨⟨b1, b2, b3⟩, _⟩ := heldN_cells HI.out.2.1; obtain ⟨⟨r1, r2, r3⟩, g1, g2, g3⟩ := heldN_cells HI.out.2.2.1) | (go_at_call 19; refine (s_norm _ z G _ (by omega) HZD.out hG0 (by omega)).mono ?_; rintro e wn ⟨rfl, hbn⟩; rw [show decRes n (valL z.data.toList) G.toNat = (n9, s9, c9, o9) from (fin_same n M1.out M2.out HZV.out hG0 hG1).trans HR0.out]; simp only [resV]; (first | replace hbn := undrew1 hbn | skip); replace HI := hide (addin_go HI.out hbn); clear hbn a1 a2 a3 b1 b2 b3 r1 r2 r3 g1 g2 g3; obtain ⟨⟨a1, a2, a3⟩, _⟩ := heldN_cells HI.out.1; obtain ⟨⟨b1, b2, b3⟩, _⟩ := heldN_cells HI.out.2.1; obtain ⟨⟨r1, r2, r3⟩, g1, g2, g3⟩ := heldN_cells HI.out.2.2.1))
        all_goals
          have HZ := hide (heldN_three HI.out.2.2.1 (.bool n9) (.string s9) (.int .i64 c9))
          go_wp2
          obtain ⟨z0, z1, z2⟩ := HZ.out
          exact bodyPost_ret (v := .tuple #[.agg #[.bool n9, .string s9, .int .i64 c9], .bool o9]) (by simp [results, Tryd.results7, go_sem, z0, z1, z2]) rfl ⟨by rw [HVV.out]; rfl, below_set3 HI.out.2.2.2 (by omega) _ _ _⟩

      · have hnb : (n == m) = false := by simpa using hnm
        rcases Nat.lt_or_ge (valL x.data.toList) (valL y.data.toList) with hv | hv
        · rw [decide_eq_true hv] at bl
          have HVL := hide hv
          clear hv
          go_wp2
          go_region_with (first | (go_at_call 21; refine (s_less y x _ HXY.out.symm hy HDY.out HDX.out (Nat.le_of_lt HVL.out)).mono ?_; rintro e wn ⟨z, hzs, hzd, hzv, rfl, hbn⟩; have HZD := hide hzd; have HZV := hide hzv; clear hzd hzv; (first | replace hbn := undrew1 hbn | skip); replace HI := hide (addin_go HI.out hbn); clear hbn a1 a2 a3 b1 b2 b3 r1 r2 r3 g1 g2 g3; obtain ⟨⟨a1, a2, a3⟩, _⟩ := heldN_cells HI.out.1; obtain ⟨⟨b1, b2, b3⟩, _⟩ := heldN_cells HI.out.2.1; obtain ⟨⟨r1, r2, r3⟩, g1, g2, g3⟩ := heldN_cells HI.out.2.2.1) | (go_at_call 19; refine (s_norm _ z G _ (by omega) HZD.out hG0 (by omega)).mono ?_; rintro e wn ⟨rfl, hbn⟩; rw [show decRes m (valL z.data.toList) G.toNat = (n9, s9, c9, o9) from (fin_less hnm M1.out M2.out HVL.out HZV.out hG0 hG1).trans HR0.out]; simp only [resV]; (first | replace hbn := undrew1 hbn | skip); replace HI := hide (addin_go HI.out hbn); clear hbn a1 a2 a3 b1 b2 b3 r1 r2 r3 g1 g2 g3; obtain ⟨⟨a1, a2, a3⟩, _⟩ := heldN_cells HI.out.1; obtain ⟨⟨b1, b2, b3⟩, _⟩ := heldN_cells HI.out.2.1; obtain ⟨⟨r1, r2, r3⟩, g1, g2, g3⟩ := heldN_cells HI.out.2.2.1))
          all_goals
            have HZ := hide (heldN_three HI.out.2.2.1 (.bool n9) (.string s9) (.int .i64 c9))
            go_wp2
            obtain ⟨z0, z1, z2⟩ := HZ.out
            exact bodyPost_ret (v := .tuple #[.agg #[.bool n9, .string s9, .int .i64 c9], .bool o9]) (by simp [results, Tryd.results7, go_sem, z0, z1, z2]) rfl ⟨by rw [HVV.out]; rfl, below_set3 HI.out.2.2.2 (by omega) _ _ _⟩

        · rw [decide_eq_false (by omega)] at bl
          have HVL := hide hv
          clear hv
          go_wp2
          go_region_with (first | (go_at_call 21; refine (s_less x y _ HXY.out hx HDX.out HDY.out HVL.out).mono ?_; rintro e wn ⟨z, hzs, hzd, hzv, rfl, hbn⟩; have HZD := hide hzd; have HZV := hide hzv; clear hzd hzv; (first | replace hbn := undrew1 hbn | skip); replace HI := hide (addin_go HI.out hbn); clear hbn a1 a2 a3 b1 b2 b3 r1 r2 r3 g1 g2 g3; obtain ⟨⟨a1, a2, a3⟩, _⟩ := heldN_cells HI.out.1; obtain ⟨⟨b1, b2, b3⟩, _⟩ := heldN_cells HI.out.2.1; obtain ⟨⟨r1, r2, r3⟩, g1, g2, g3⟩ := heldN_cells HI.out.2.2.1) | (go_at_call 19; refine (s_norm _ z G _ (by omega) HZD.out hG0 (by omega)).mono ?_; rintro e wn ⟨rfl, hbn⟩; rw [show decRes n (valL z.data.toList) G.toNat = (n9, s9, c9, o9) from (fin_more hnm M1.out M2.out HVL.out HZV.out hG0 hG1).trans HR0.out]; simp only [resV]; (first | replace hbn := undrew1 hbn | skip); replace HI := hide (addin_go HI.out hbn); clear hbn a1 a2 a3 b1 b2 b3 r1 r2 r3 g1 g2 g3; obtain ⟨⟨a1, a2, a3⟩, _⟩ := heldN_cells HI.out.1; obtain ⟨⟨b1, b2, b3⟩, _⟩ := heldN_cells HI.out.2.1; obtain ⟨⟨r1, r2, r3⟩, g1, g2, g3⟩ := heldN_cells HI.out.2.2.1))
          all_goals
            have HZ := hide (heldN_three HI.out.2.2.1 (.bool n9) (.string s9) (.int .i64 c9))
            go_wp2
            obtain ⟨z0, z1, z2⟩ := HZ.out
            exact bodyPost_ret (v := .tuple #[.agg #[.bool n9, .string s9, .int .i64 c9], .bool o9]) (by simp [results, Tryd.results7, go_sem, z0, z1, z2]) rfl ⟨by rw [HVV.out]; rfl, below_set3 HI.out.2.2.2 (by omega) _ _ _⟩
end Go.Proofs.YtdglamiifcagoabDoor
