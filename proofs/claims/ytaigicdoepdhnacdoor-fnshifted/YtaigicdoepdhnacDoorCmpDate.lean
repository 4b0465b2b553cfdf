/-
  Contracts: the order of two dates, by the specification and by the program, at every two dates.
-/
import Derived.Test.YtaigicdoepdhnacDoorSecs
import Derived.Deep.DeepCutAuto
import Derived.Deep.RegionWith
namespace Go.Proofs.YtaigicdoepdhnacDoor
open Go.RowKit
set_option linter.unusedSimpArgs false
set_option linter.unusedVariables false
def sgn (n : Int) : Int := if n < 0 then -1 else if 0 < n then 1 else 0
def cmpG (g1 g2 : Bool) (n : Int) : Int := if g1 = g2 then sgn n else if n < -50400 then -1 else if 50400 < n then 1 else 2
def cmpDB (a0 a1 a2 a3 a4 a5 : Int) (a6 : Bool) (a7 : Int) (b0 b1 b2 b3 b4 b5 : Int) (b6 : Bool) (b7 : Int) : Int := if dateB a0 a1 a2 a3 a4 a5 a6 a7 = true ∧ dateB b0 b1 b2 b3 b4 b5 b6 b7 = true then cmpG a6 b6 (secs a0 a1 a2 a3 a4 a5 a7 - secs b0 b1 b2 b3 b4 b5 b7) else 3
theorem dbox_two {w w1 : World} {a0 a1 a2 a3 a4 a5 : Int} {a6 : Bool} {a7 : Int} {b0 b1 b2 b3 b4 b5 : Int} {b6 : Bool} {b7 : Int} {T U : TypeId}
    (h : Below ((w.alloc (.cells #[.int .i64 a0, .int .i64 a1, .int .i64 a2, .int .i64 a3, .int .i64 a4, .int .i64 a5, .bool a6, .int .i64 a7] T)).alloc (.cells #[.int .i64 b0, .int .i64 b1, .int .i64 b2, .int .i64 b3, .int .i64 b4, .int .i64 b5, .bool b6, .int .i64 b7] U)).heap.size ((w.alloc (.cells #[.int .i64 a0, .int .i64 a1, .int .i64 a2, .int .i64 a3, .int .i64 a4, .int .i64 a5, .bool a6, .int .i64 a7] T)).alloc (.cells #[.int .i64 b0, .int .i64 b1, .int .i64 b2, .int .i64 b3, .int .i64 b4, .int .i64 b5, .bool b6, .int .i64 b7] U)) w1) :
    DBox w1 w.heap.size a0 a1 a2 a3 a4 a5 a6 a7 ∧ DBox w1 (w.heap.size + 1) b0 b1 b2 b3 b4 b5 b6 b7 ∧ Below w.heap.size w w1 := by
  have h1 := dbox_new w a0 a1 a2 a3 a4 a5 a6 a7 T
  have h2 := dbox_new (w.alloc (.cells #[.int .i64 a0, .int .i64 a1, .int .i64 a2, .int .i64 a3, .int .i64 a4, .int .i64 a5, .bool a6, .int .i64 a7] T)) b0 b1 b2 b3 b4 b5 b6 b7 U
  rw [show (w.alloc (.cells #[.int .i64 a0, .int .i64 a1, .int .i64 a2, .int .i64 a3, .int .i64 a4, .int .i64 a5, .bool a6, .int .i64 a7] T)).heap.size = w.heap.size + 1 by simp] at h2
  exact ⟨dbox_go (dbox_go h1 ((Below.refl _ _).alloc (Nat.le_refl _) _)) h, dbox_go h2 h, below_go (((Below.refl _ _).alloc (Nat.le_refl _) _).alloc (by simp) _) h⟩
theorem dbox_2 (w : World) (a0 a1 a2 a3 a4 a5 : Int) (a6 : Bool) (a7 : Int) (b0 b1 b2 b3 b4 b5 : Int) (b6 : Bool) (b7 : Int) (T U : TypeId) :
    DBox ((w.alloc (.cells #[.int .i64 a0, .int .i64 a1, .int .i64 a2, .int .i64 a3, .int .i64 a4, .int .i64 a5, .bool a6, .int .i64 a7] T)).alloc (.cells #[.int .i64 b0, .int .i64 b1, .int .i64 b2, .int .i64 b3, .int .i64 b4, .int .i64 b5, .bool b6, .int .i64 b7] U)) w.heap.size a0 a1 a2 a3 a4 a5 a6 a7 ∧ DBox ((w.alloc (.cells #[.int .i64 a0, .int .i64 a1, .int .i64 a2, .int .i64 a3, .int .i64 a4, .int .i64 a5, .bool a6, .int .i64 a7] T)).alloc (.cells #[.int .i64 b0, .int .i64 b1, .int .i64 b2, .int .i64 b3, .int .i64 b4, .int .i64 b5, .bool b6, .int .i64 b7] U)) (w.heap.size + 1) b0 b1 b2 b3 b4 b5 b6 b7 ∧ Below w.heap.size w ((w.alloc (.cells #[.int .i64 a0, .int .i64 a1, .int .i64 a2, .int .i64 a3, .int .i64 a4, .int .i64 a5, .bool a6, .int .i64 a7] T)).alloc (.cells #[.int .i64 b0, .int .i64 b1, .int .i64 b2, .int .i64 b3, .int .i64 b4, .int .i64 b5, .bool b6, .int .i64 b7] U)) := dbox_two (Below.refl _ _)
theorem mtab_2 {g : Nat} {w : World} (h : MTab g w) (o p : Obj) : MTab g ((w.alloc o).alloc p) := mtab_box (mtab_box h o) p
set_option maxHeartbeats 1000000 in
theorem i_nan (n : Int) (w : World) : Calls Tryd.prog 32 #[.int .i64 n] w fun e w' => e = .returned (.bool false) ∧ w' = w := by
  go_enter Tryd.func32, Tryd.ntmps32
  go_wp2
  go_ret
  exact ⟨rfl, rfl⟩
set_option maxHeartbeats 1000000 in
theorem i_ccmp (n : Int) (w : World) : Calls Tryd.prog 25 #[.int .i64 n, .int .i64 0] w fun e w' => e = .returned (.int .i64 (sgn n)) ∧ w' = w := by
  by_cases h1 : n < 0
  · go_enter Tryd.func25, Tryd.ntmps25
    go_wp2_with (go_at_call 32; refine (i_nan _ _).mono ?_; rintro e w' ⟨rfl, rfl⟩)
    go_ret
    exact ⟨ret_int (by unfold sgn; split <;> (try split) <;> omega), rfl⟩
  · by_cases h2 : 0 < n
    all_goals
      go_enter Tryd.func25, Tryd.ntmps25
      go_wp2_with (go_at_call 32; refine (i_nan _ _).mono ?_; rintro e w' ⟨rfl, rfl⟩)
      go_ret
      exact ⟨ret_int (by unfold sgn; split <;> (try split) <;> omega), rfl⟩
theorem i_secR (a0 a1 a2 a3 a4 a5 : Int) (a6 : Bool) (a7 : Int) (w : World) (r : Rt a0 a1 a2 a3 a4 a5 a6 a7) (ht : MTab 0 w) : Calls Tryd.prog 9 #[.agg #[.int .i64 a0, .int .i64 a1, .int .i64 a2, .int .i64 a3, .int .i64 a4, .int .i64 a5, .bool a6, .int .i64 a7]] w fun e w' => e = .returned (.int .i64 (secs a0 a1 a2 a3 a4 a5 a7)) ∧ Below w.heap.size w w' := by
  have q := i_seconds a0 a1 a2 a3 a4 a5 a6 a7 w ht
  simp only [secsB, dateB_of r, if_true] at q
  exact q
theorem below_drewN {n : Nat} {w wn : World} (h : Below (w.drewN n).heap.size (w.drewN n) wn) : Below w.heap.size w wn := ⟨h.os, h.tape, h.output, h.size, h.block⟩
set_option maxHeartbeats 4000000 in
theorem i_cmpdate (a0 a1 a2 a3 a4 a5 : Int) (a6 : Bool) (a7 : Int) (b0 b1 b2 b3 b4 b5 : Int) (b6 : Bool) (b7 : Int) (w : World) (ht : MTab 0 w) : Calls Tryd.prog 10 #[.agg #[.int .i64 a0, .int .i64 a1, .int .i64 a2, .int .i64 a3, .int .i64 a4, .int .i64 a5, .bool a6, .int .i64 a7], .agg #[.int .i64 b0, .int .i64 b1, .int .i64 b2, .int .i64 b3, .int .i64 b4, .int .i64 b5, .bool b6, .int .i64 b7]] w fun e w' => e = .returned (.int .i64 (cmpDB a0 a1 a2 a3 a4 a5 a6 a7 b0 b1 b2 b3 b4 b5 b6 b7)) ∧ Below w.heap.size w w' := by
  have HTc := hide (mtab_2 ht (.cells #[.int .i64 a0, .int .i64 a1, .int .i64 a2, .int .i64 a3, .int .i64 a4, .int .i64 a5, .bool a6, .int .i64 a7] 25) (.cells #[.int .i64 b0, .int .i64 b1, .int .i64 b2, .int .i64 b3, .int .i64 b4, .int .i64 b5, .bool b6, .int .i64 b7] 25))
  clear ht
  cases ha : dateB a0 a1 a2 a3 a4 a5 a6 a7
  · go_enter Tryd.func10, Tryd.ntmps10
    go_wp2_with fail
    refine (i_dateok a0 a1 a2 a3 a4 a5 a6 a7 _ HTc.out).mono ?_
    rintro e w1 ⟨rfl, hb1⟩
    obtain ⟨hx1, hx2, hb⟩ := dbox_two hb1
    have HBc := hide hb
    clear hb1 hx1 hx2 hb
    go_wp2
    go_ret
    exact ⟨ret_int (by simp [cmpDB, ha]), HBc.out⟩
  · cases hb : dateB b0 b1 b2 b3 b4 b5 b6 b7
    · go_enter Tryd.func10, Tryd.ntmps10
      go_wp2_with fail
      refine (i_dateok a0 a1 a2 a3 a4 a5 a6 a7 _ HTc.out).mono ?_
      rintro e w1 ⟨rfl, hb1⟩
      obtain ⟨hx1, hx2, hbb⟩ := dbox_two hb1
      have HBc := hide hbb
      replace HTc := hide (mtab_go HTc.out hb1)
      obtain ⟨l0, l1, l2, l3, l4, l5, l6, l7, l8⟩ := hx2
      clear hb1 hx1 hbb l0
      go_wp2_with fail
      refine (i_dateok b0 b1 b2 b3 b4 b5 b6 b7 _ HTc.out).mono ?_
      rintro e w2 ⟨rfl, hb2⟩
      replace HBc := hide (below_go HBc.out hb2)
      clear hb2
      go_wp2
      go_ret
      exact ⟨ret_int (by simp [cmpDB, hb]), HBc.out⟩
    · have HA := hide (rt_of ha)
      have HB := hide (rt_of hb)
      go_enter Tryd.func10, Tryd.ntmps10
      go_wp2_with fail
      refine (i_dateok a0 a1 a2 a3 a4 a5 a6 a7 _ HTc.out).mono ?_
      rintro e w1 ⟨rfl, hb1⟩
      obtain ⟨hx1, hx2, hbb⟩ := dbox_two hb1
      have HBc := hide hbb
      have HXa := hide hx1
      have HXb := hide hx2
      replace HTc := hide (mtab_go HTc.out hb1)
      obtain ⟨l0, l1, l2, l3, l4, l5, l6, l7, l8⟩ := hx2
      clear hb1 hx1 hbb l0
      go_wp2_with fail
      refine (i_dateok b0 b1 b2 b3 b4 b5 b6 b7 _ HTc.out).mono ?_
      rintro e w2 ⟨rfl, hb2⟩
      replace HBc := hide (below_go HBc.out hb2)
      replace HXa := hide (dbox_go HXa.out hb2)
      replace HXb := hide (dbox_go HXb.out hb2)
      replace HTc := hide (mtab_go HTc.out hb2)
      clear hb2 l1 l2 l3 l4 l5 l6 l7 l8
      obtain ⟨k0, k1, k2, k3, k4, k5, k6, k7, k8⟩ := HXa.out
      obtain ⟨l0, l1, l2, l3, l4, l5, l6, l7, l8⟩ := HXb.out
      clear k0 l0
      have hv : cmpDB a0 a1 a2 a3 a4 a5 a6 a7 b0 b1 b2 b3 b4 b5 b6 b7 = cmpG a6 b6 (secs a0 a1 a2 a3 a4 a5 a7 - secs b0 b1 b2 b3 b4 b5 b7) := by simp [cmpDB, ha, hb]
      have HV := hide hv
      have sa := secs_bd HA.out
      have sb := secs_bd HB.out
      have WG := hide (show IntKind.i64.wrap (secs a0 a1 a2 a3 a4 a5 a7 - secs b0 b1 b2 b3 b4 b5 b7) = secs a0 a1 a2 a3 a4 a5 a7 - secs b0 b1 b2 b3 b4 b5 b7 from wrap_ok (by omega) (by omega))
      clear hv
      go_wp2_with fail
      go_cut [5] (fun v wx => v = .int .i64 (secs a0 a1 a2 a3 a4 a5 a7 - secs b0 b1 b2 b3 b4 b5 b7) ∧ Below w.heap.size w wx ∧ DBox wx w.heap.size a0 a1 a2 a3 a4 a5 a6 a7 ∧ DBox wx (w.heap.size + 1) b0 b1 b2 b3 b4 b5 b6 b7)
      case first =>
        go_region_with (go_at_call 9; refine (i_secR _ _ _ _ _ _ _ _ _ (by first | exact HA.out | exact HB.out) (by first | exact HTc.out | exact mtab_drew1 HTc.out)).mono ?_; rintro e wn ⟨rfl, hbn⟩; (first | replace hbn := below_drew1 hbn | skip); replace HBc := hide (below_go HBc.out hbn); replace HXa := hide (dbox_go HXa.out hbn); replace HXb := hide (dbox_go HXb.out hbn); replace HTc := hide (mtab_go HTc.out hbn); clear k1 k2 k3 k4 k5 k6 k7 k8 l1 l2 l3 l4 l5 l6 l7 l8 hbn; obtain ⟨k0, k1, k2, k3, k4, k5, k6, k7, k8⟩ := HXa.out; obtain ⟨l0, l1, l2, l3, l4, l5, l6, l7, l8⟩ := HXb.out; clear k0 l0)
        all_goals
          go_wp2_with fail
          go_meet
          exact ⟨by first | rfl | rw [WG.out], by first | exact HBc.out | exact below_drew2 HBc.out, HXa.out, HXb.out⟩
      case rest =>
        obtain ⟨rfl, hb1, hx1, hx2⟩ := hcut
        clear k1 k2 k3 k4 k5 k6 k7 k8 l1 l2 l3 l4 l5 l6 l7 l8 HBc HXa HXb
        have HBc := hide hb1
        obtain ⟨k0, k1, k2, k3, k4, k5, k6, k7, k8⟩ := hx1
        obtain ⟨l0, l1, l2, l3, l4, l5, l6, l7, l8⟩ := hx2
        clear k0 l0 hb1
        obtain ⟨n, hn⟩ : ∃ n, secs a0 a1 a2 a3 a4 a5 a7 - secs b0 b1 b2 b3 b4 b5 b7 = n := ⟨_, rfl⟩
        have HV2 : Hid (cmpDB a0 a1 a2 a3 a4 a5 a6 a7 b0 b1 b2 b3 b4 b5 b6 b7 = cmpG a6 b6 n) := by rw [← hn]; exact HV.out
        rw [hn]
        clear hn sa sb WG HV ha hb
        cases a6 <;> cases b6
        all_goals
          by_cases q1 : n < -50400
          · go_wp2_with (go_at_call 25; refine (i_ccmp _ _).mono ?_; rintro e w' ⟨rfl, rfl⟩)
            go_ret
            exact ⟨ret_int (by rw [HV2.out]; simp only [cmpG, if_true, if_false, reduceCtorEq, Bool.false_eq_true, Bool.true_eq_false]; try (split <;> first | omega | (split <;> omega))), by first | exact HBc.out | exact below_drew2 HBc.out | exact below_drawn HBc.out _⟩
          · by_cases q2 : 50400 < n
            all_goals
              go_wp2_with (go_at_call 25; refine (i_ccmp _ _).mono ?_; rintro e w' ⟨rfl, rfl⟩)
              go_ret
              exact ⟨ret_int (by rw [HV2.out]; simp only [cmpG, if_true, if_false, reduceCtorEq, Bool.false_eq_true, Bool.true_eq_false]; try (split <;> first | omega | (split <;> omega))), by first | exact HBc.out | exact below_drew2 HBc.out | exact below_drawn HBc.out _⟩
end Go.Proofs.YtaigicdoepdhnacDoor
