/-
  Contract: the specification's comparison of numbers.
-/
import Derived.Test.YtdglamiifcagoaaDoorSame
import Derived.Test.YtdglamiifcagoaaDoorCmpMath
import Derived.Laws.Cover1
namespace Go.Proofs.YtdglamiifcagoaaDoor
open Go.RowKit
set_option linter.unusedSimpArgs false
set_option linter.unusedVariables false
theorem ret_int {k : IntKind} {a b : Int} (h : a = b) : Ending.returned (.int k a) = .returned (.int k b) := by rw [h]
set_option maxHeartbeats 1000000 in
theorem s_l4cmp (n m : Bool) (s t : ByteArray) (c d : Int) (w : World) (h1 : decB n s c = true) (h2 : decB m t d = true) :
    Calls Tryd.prog 16 #[.agg #[.bool n, .string s, .int .i64 c], .agg #[.bool m, .string t, .int .i64 d]] w fun e w' =>
      e = .returned (.int .i64 (cmpI (iv n s c) (iv m t d))) ∧ Below w.heap.size w w' := by
  obtain ⟨hs, hc0, hc1⟩ := decB_bounds h1
  obtain ⟨ht, hd0, hd1⟩ := decB_bounds h2
  have H1 := hide h1
  have H2 := hide h2
  clear h1 h2
  cases n
  all_goals
    cases m
    all_goals
      go_enter Tryd.func16, Tryd.ntmps16
      go_wp2_with fail
      refine (s_same _ _ s t c d _ hs ht hc0 hc1 hd0 hd1).mono ?_
      rintro e w1 ⟨x, y, hxy, hx, hp, hq, rfl, hb⟩
      have m1 := mag_pad hp (by omega) (by omega)
      have m2 := mag_pad hq (by omega) (by omega)
      have bl := less_val x y (padded_dg hp (decB_digits H1.out)) (padded_dg hq (decB_digits H2.out)) hxy
      have be := eq_val x y (padded_dg hp (decB_digits H1.out)) (padded_dg hq (decB_digits H2.out)) hxy
      have M1 := hide m1
      have M2 := hide m2
      obtain ⟨hx1, hx2, hb1⟩ := boxed_two hb
      have HB := hide hb1
      obtain ⟨k0, k1, k2, k3⟩ := hx1
      obtain ⟨l0, l1, l2, l3⟩ := hx2
      clear hp hq k0 l0 hb hb1 m1 m2
      have hpp := pow_pos10 (60 - max c d).toNat
      rcases Nat.lt_trichotomy (valL x.data.toList) (valL y.data.toList) with hv | hv | hv
      · have sl := scaled_lt hv hpp
        rw [← M1.out, ← M2.out] at sl
        rw [decide_eq_true hv] at bl
        rw [decide_eq_false (by omega)] at be
        have SL := hide sl
        clear sl hv hpp
        go_wp2
        go_ret
        exact ⟨ret_int (by first | (rw [cmpI_lt]; have := SL.out; simp [iv]; omega) | (rw [cmpI_gt]; have := SL.out; simp [iv]; omega) | (have := mag_pos H1.out; rw [cmpI_lt]; simp [iv]; omega) | (have := mag_pos H2.out; rw [cmpI_gt]; simp [iv]; omega)), HB.out⟩
      · have sl : mag s c = mag t d := by rw [M1.out, M2.out, hv]
        rw [decide_eq_false (by omega)] at bl
        rw [decide_eq_true hv] at be
        have SL := hide sl
        clear sl hv hpp
        go_wp2
        go_ret
        exact ⟨ret_int (by first | (rw [cmpI_eq]; have := SL.out; simp [iv]; omega) | (have := mag_pos H1.out; rw [cmpI_lt]; simp [iv]; omega) | (have := mag_pos H2.out; rw [cmpI_gt]; simp [iv]; omega)), HB.out⟩
      · have sl := scaled_lt hv hpp
        rw [← M1.out, ← M2.out] at sl
        rw [decide_eq_false (by omega)] at bl
        rw [decide_eq_false (by omega)] at be
        have SL := hide sl
        clear sl hv hpp
        go_wp2
        go_ret
        exact ⟨ret_int (by first | (rw [cmpI_lt]; have := SL.out; simp [iv]; omega) | (rw [cmpI_gt]; have := SL.out; simp [iv]; omega) | (have := mag_pos H1.out; rw [cmpI_lt]; simp [iv]; omega) | (have := mag_pos H2.out; rw [cmpI_gt]; simp [iv]; omega)), HB.out⟩
set_option maxHeartbeats 1000000 in
theorem s_cmp (n m : Bool) (s t : ByteArray) (c d : Int) (w : World) (hs : s.size ≤ maxLen) (ht : t.size ≤ maxLen) :
    Calls Tryd.prog 7 #[.agg #[.bool n, .string s, .int .i64 c], .agg #[.bool m, .string t, .int .i64 d]] w fun e w' =>
      e = .returned (.int .i64 (cmpB n s c m t d)) ∧ Below w.heap.size w w' := by
  cases h1 : decB n s c
  · have HV := hide (show cmpB n s c m t d = 2 by simp [cmpB, h1])
    go_enter Tryd.func7, Tryd.ntmps7
    go_wp2_with fail
    refine (s_decok n s c _ hs).mono ?_
    rintro e w1 ⟨rfl, hb1⟩
    obtain ⟨hx1, hx2, hb⟩ := boxed_two hb1
    have HB := hide hb
    clear hx1 hx2 hb1 hb
    go_wp2
    go_ret
    exact ⟨ret_int HV.out.symm, HB.out⟩
  · cases h2 : decB m t d
    · have HV := hide (show cmpB n s c m t d = 2 by simp [cmpB, h2])
      go_enter Tryd.func7, Tryd.ntmps7
      go_wp2_with fail
      refine (s_decok n s c _ hs).mono ?_
      rintro e w1 ⟨rfl, hb1⟩
      obtain ⟨hx1, hx2, hb⟩ := boxed_two hb1
      have HB := hide hb
      obtain ⟨l0, l1, l2, l3⟩ := hx2
      clear hx1 hb1 hb l0
      go_wp2_with fail
      refine (s_decok m t d _ ht).mono ?_
      rintro e w2 ⟨rfl, hb2⟩
      have HB2 := hide (below_go HB.out hb2)
      clear hb2
      go_wp2
      go_ret
      exact ⟨ret_int HV.out.symm, HB2.out⟩
    · have HV := hide (show cmpB n s c m t d = cmpI (iv n s c) (iv m t d) by simp [cmpB, h1, h2])
      have H1 := hide h1
      have H2 := hide h2
      go_enter Tryd.func7, Tryd.ntmps7
      go_wp2_with fail
      refine (s_decok n s c _ hs).mono ?_
      rintro e w1 ⟨rfl, hb1⟩
      obtain ⟨hx1, hx2, hb⟩ := boxed_two hb1
      have HB := hide hb
      have HX1 := hide hx1
      have HX2 := hide hx2
      obtain ⟨l0, l1, l2, l3⟩ := hx2
      clear hx1 hb1 hb l0
      go_wp2_with fail
      refine (s_decok m t d _ ht).mono ?_
      rintro e w2 ⟨rfl, hb2⟩
      have HB2 := hide (below_go HB.out hb2)
      obtain ⟨l0, l1, l2, l3⟩ := boxed_go HX2.out hb2
      obtain ⟨k0, k1, k2, k3⟩ := boxed_go HX1.out hb2
      clear hb2 l0 k0
      go_wp2_with fail
      refine (s_l4cmp n m s t c d _ H1.out H2.out).mono ?_
      rintro e w3 ⟨rfl, hb3⟩
      have HB3 := hide (below_go HB2.out hb3)
      clear hb3
      go_wp2
      go_ret
      exact ⟨ret_int HV.out.symm, HB3.out⟩
end Go.Proofs.YtdglamiifcagoaaDoor
