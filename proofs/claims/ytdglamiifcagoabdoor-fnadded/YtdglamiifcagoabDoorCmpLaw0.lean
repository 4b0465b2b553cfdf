/-
  Contract: the program's CompareDec.
-/
import Derived.Test.YtdglamiifcagoabDoorCmpI
import Derived.Deep.RegionWith
import Derived.Deep.DeepCutAuto
namespace Go.Proofs.YtdglamiifcagoabDoor
open Go.RowKit
set_option linter.unusedSimpArgs false
set_option linter.unusedVariables false
theorem row_mag {n : Bool} {s : ByteArray} {c : Int} (h : decB n s c = true) : rval (rowF 121 s (60 - c).toNat s.size) = (mag s c : Int) := by
  obtain ⟨hs, hc0, hc1⟩ := decB_bounds h
  rw [rowF_val s _ 121 (by omega) (decB_digits h), mag]
  push_cast
  rw [Int.mul_comm]
theorem mag_nn (s : ByteArray) (c : Int) : (0 : Int) ≤ (mag s c : Int) := by omega
theorem ivF (s : ByteArray) (c : Int) : iv false s c = (mag s c : Int) := rfl
theorem ivT (s : ByteArray) (c : Int) : iv true s c = -(mag s c : Int) := rfl
theorem cmpI_neg (a b : Int) : cmpI (-a) (-b) = cmpI b a := by unfold cmpI; split <;> split <;> (try split) <;> (try split) <;> first | rfl | omega
theorem below_drew1 {w wn : World} (h : Below w.drew.heap.size w.drew wn) : Below w.heap.size w wn := ⟨h.os, h.tape, h.output, h.size, h.block⟩
set_option maxHeartbeats 1000000 in
theorem i_cmp (n m : Bool) (s t : ByteArray) (c d : Int) (w : World) (hs : s.size ≤ maxLen) (ht : t.size ≤ maxLen) :
    Calls Tryd.prog 8 #[.agg #[.bool n, .string s, .int .i64 c], .agg #[.bool m, .string t, .int .i64 d]] w fun e w' =>
      e = .returned (.int .i64 (cmpB n s c m t d)) ∧ Below w.heap.size w w' := by
  cases h1 : decB n s c
  · have HV := hide (show cmpB n s c m t d = 2 by simp [cmpB, h1])
    go_enter Tryd.func8, Tryd.ntmps8
    go_wp2_with fail
    refine (i_decok n s c _ hs).mono ?_
    rintro e w1 ⟨rfl, hb1⟩
    obtain ⟨hx1, hx2, hb⟩ := boxed_two hb1
    have HB := hide hb
    clear hx1 hx2 hb1 hb
    go_wp2
    go_ret
    exact ⟨ret_int HV.out.symm, HB.out⟩
  · cases h2 : decB m t d
    · have HV := hide (show cmpB n s c m t d = 2 by simp [cmpB, h2])
      go_enter Tryd.func8, Tryd.ntmps8
      go_wp2_with fail
      refine (i_decok n s c _ hs).mono ?_
      rintro e w1 ⟨rfl, hb1⟩
      obtain ⟨hx1, hx2, hb⟩ := boxed_two hb1
      have HB := hide hb
      obtain ⟨l0, l1, l2, l3⟩ := hx2
      clear hx1 hb1 hb l0
      go_wp2_with fail
      refine (i_decok m t d _ ht).mono ?_
      rintro e w2 ⟨rfl, hb2⟩
      have HB2 := hide (below_go HB.out hb2)
      clear hb2
      go_wp2
      go_ret
      exact ⟨ret_int HV.out.symm, HB2.out⟩
    · have HV := hide (show cmpB n s c m t d = cmpI (iv n s c) (iv m t d) by simp [cmpB, h1, h2])
      have H1 := hide h1
      have H2 := hide h2
      cases n <;> cases m
      · go_enter Tryd.func8, Tryd.ntmps8
        go_wp2_with fail
        refine (i_decok _ s c _ hs).mono ?_
        rintro e w1 ⟨rfl, hb1⟩
        obtain ⟨hx1, hx2, hb⟩ := boxed_two hb1
        have HB := hide hb
        have HX1 := hide hx1
        have HX2 := hide hx2
        obtain ⟨l0, l1, l2, l3⟩ := hx2
        clear hx1 hb1 hb l0
        go_wp2_with fail
        refine (i_decok _ t d _ ht).mono ?_
        rintro e w2 ⟨rfl, hb2⟩
        have HB2 := hide (below_go HB.out hb2)
        have HXa := hide (boxed_go HX1.out hb2)
        have HXb := hide (boxed_go HX2.out hb2)
        have HBc := HB2
        obtain ⟨k0, k1, k2, k3⟩ := HXa.out
        obtain ⟨l0, l1, l2, l3⟩ := HXb.out
        clear hb2 l0 k0
        go_wp2
        go_region_with (first | (go_at_call 11; refine (i_rowOf _ _ _ _ (by first | exact H1.out | exact H2.out)).mono ?_; rintro e wn ⟨rfl, hbn⟩; (first | replace hbn := below_drew1 hbn | skip); replace HBc := hide (below_go HBc.out hbn); replace HXa := hide (boxed_go HXa.out hbn); replace HXb := hide (boxed_go HXb.out hbn); clear k1 k2 k3 l1 l2 l3 hbn; obtain ⟨k0, k1, k2, k3⟩ := HXa.out; obtain ⟨l0, l1, l2, l3⟩ := HXb.out; clear k0 l0) | (go_at_call 13; refine (i_cmpRows _ _ _ (rowF_len _ _ _ _) (rowF_len _ _ _ _) (rowF_ok _ _ _ (by first | exact decB_digits H1.out | exact decB_digits H2.out)) (rowF_ok _ _ _ (by first | exact decB_digits H1.out | exact decB_digits H2.out))).mono ?_; rintro e wn ⟨rfl, hbn⟩; (first | replace hbn := below_drew1 hbn | skip); replace HBc := hide (below_go HBc.out hbn); clear hbn))
        all_goals
          go_wp2
          go_ret
          exact ⟨ret_int (by rw [HV.out, row_mag H1.out, row_mag H2.out]; rfl), HBc.out⟩
      · go_enter Tryd.func8, Tryd.ntmps8
        go_wp2_with fail
        refine (i_decok _ s c _ hs).mono ?_
        rintro e w1 ⟨rfl, hb1⟩
        obtain ⟨hx1, hx2, hb⟩ := boxed_two hb1
        have HB := hide hb
        have HX1 := hide hx1
        have HX2 := hide hx2
        obtain ⟨l0, l1, l2, l3⟩ := hx2
        clear hx1 hb1 hb l0
        go_wp2_with fail
        refine (i_decok _ t d _ ht).mono ?_
        rintro e w2 ⟨rfl, hb2⟩
        have HB2 := hide (below_go HB.out hb2)
        obtain ⟨k0, k1, k2, k3⟩ := boxed_go HX1.out hb2
        obtain ⟨l0, l1, l2, l3⟩ := boxed_go HX2.out hb2
        clear hb2 l0 k0
        go_wp2
        go_ret
        exact ⟨ret_int (by rw [HV.out, ivF, ivT, cmpI_gt]; have := mag_pos H2.out; have := mag_nn s c; omega), HB2.out⟩
      · go_enter Tryd.func8, Tryd.ntmps8
        go_wp2_with fail
        refine (i_decok _ s c _ hs).mono ?_
        rintro e w1 ⟨rfl, hb1⟩
        obtain ⟨hx1, hx2, hb⟩ := boxed_two hb1
        have HB := hide hb
        have HX1 := hide hx1
        have HX2 := hide hx2
        obtain ⟨l0, l1, l2, l3⟩ := hx2
        clear hx1 hb1 hb l0
        go_wp2_with fail
        refine (i_decok _ t d _ ht).mono ?_
        rintro e w2 ⟨rfl, hb2⟩
        have HB2 := hide (below_go HB.out hb2)
        obtain ⟨k0, k1, k2, k3⟩ := boxed_go HX1.out hb2
        obtain ⟨l0, l1, l2, l3⟩ := boxed_go HX2.out hb2
        clear hb2 l0 k0
        go_wp2
        go_ret
        exact ⟨ret_int (by rw [HV.out, ivF, ivT, cmpI_lt]; have := mag_pos H1.out; have := mag_nn t d; omega), HB2.out⟩
      · go_enter Tryd.func8, Tryd.ntmps8
        go_wp2_with fail
        refine (i_decok _ s c _ hs).mono ?_
        rintro e w1 ⟨rfl, hb1⟩
        obtain ⟨hx1, hx2, hb⟩ := boxed_two hb1
        have HB := hide hb
        have HX1 := hide hx1
        have HX2 := hide hx2
        obtain ⟨l0, l1, l2, l3⟩ := hx2
        clear hx1 hb1 hb l0
        go_wp2_with fail
        refine (i_decok _ t d _ ht).mono ?_
        rintro e w2 ⟨rfl, hb2⟩
        have HB2 := hide (below_go HB.out hb2)
        have HXa := hide (boxed_go HX1.out hb2)
        have HXb := hide (boxed_go HX2.out hb2)
        have HBc := HB2
        obtain ⟨k0, k1, k2, k3⟩ := HXa.out
        obtain ⟨l0, l1, l2, l3⟩ := HXb.out
        clear hb2 l0 k0
        go_wp2
        go_region_with (first | (go_at_call 11; refine (i_rowOf _ _ _ _ (by first | exact H1.out | exact H2.out)).mono ?_; rintro e wn ⟨rfl, hbn⟩; (first | replace hbn := below_drew1 hbn | skip); replace HBc := hide (below_go HBc.out hbn); replace HXa := hide (boxed_go HXa.out hbn); replace HXb := hide (boxed_go HXb.out hbn); clear k1 k2 k3 l1 l2 l3 hbn; obtain ⟨k0, k1, k2, k3⟩ := HXa.out; obtain ⟨l0, l1, l2, l3⟩ := HXb.out; clear k0 l0) | (go_at_call 13; refine (i_cmpRows _ _ _ (rowF_len _ _ _ _) (rowF_len _ _ _ _) (rowF_ok _ _ _ (by first | exact decB_digits H1.out | exact decB_digits H2.out)) (rowF_ok _ _ _ (by first | exact decB_digits H1.out | exact decB_digits H2.out))).mono ?_; rintro e wn ⟨rfl, hbn⟩; (first | replace hbn := below_drew1 hbn | skip); replace HBc := hide (below_go HBc.out hbn); clear hbn))
        all_goals
          go_wp2
          go_ret
          exact ⟨ret_int (by rw [HV.out, row_mag H1.out, row_mag H2.out, ivT, ivT, cmpI_neg]), HBc.out⟩
end Go.Proofs.YtdglamiifcagoabDoor
