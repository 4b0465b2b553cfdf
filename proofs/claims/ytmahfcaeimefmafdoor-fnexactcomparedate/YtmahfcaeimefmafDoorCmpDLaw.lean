/-
  Proved: for every two dates the call of FnExactCompareDate returns true and the arguments read as they did (the program's CompareDate answers as the specification's at every two dates), the table of the months holding what its initialiser lays (the card ties it). No other condition is laid.
-/
import Derived.Test.YtmahfcaeimefmafDoorCards
import Derived.Test.YtmahfcaeimefmafDoorTie
import Derived.Test.YtmahfcaeimefmafDoorCmpDate
import Derived.Test.YtmahfcaeimefmafDoorJoins8
import Derived.WalkKit
import Derived.ProofKit
import Derived.OpenShut
import Derived.OpenVars
import Derived.ChangeVars
import Derived.ShutString
import Derived.Below
import Derived.ChangeOld
import Derived.Lib.SmallJoins
import Derived.Lib.LaidIn
import Derived.Lib.LaidU8T
import Derived.Deep.DeepHandedRow
import Derived.Deep.DeepWitnessRowRef
namespace Go.Proofs.YtmahfcaeimefmafDoor.fnExactCompareDate
open Go.ChangeShapes Go.WideShapes Go.ChangeAt Go.RowKit Go.Joins
open Go.ChangeMaps (open_string shut_string)
set_option linter.unusedVariables false
set_option linter.unusedSimpArgs false
theorem laidOut : laidOutB Tryd.prog = true := by kernel_rfl
theorem own : ownKnob Tryd.prog.godebug = none := by kernel_rfl

set_option maxHeartbeats 4000000 in
/-- The walk: the law answers true, and nothing that was there is written. -/
theorem walk (a0 a1 a2 a3 a4 a5 : Int) (a6 : Bool) (a7 : Int) (b0 b1 b2 b3 b4 b5 : Int) (b6 : Bool) (b7 : Int) (w : World) (hsh : w.ShapedOpen Tryd.prog) (ht : MTab 0 w) :
    Calls Tryd.prog 3 #[.agg #[.int .i64 a0, .int .i64 a1, .int .i64 a2, .int .i64 a3, .int .i64 a4, .int .i64 a5, .bool a6, .int .i64 a7], .agg #[.int .i64 b0, .int .i64 b1, .int .i64 b2, .int .i64 b3, .int .i64 b4, .int .i64 b5, .bool b6, .int .i64 b7]] w fun e w' => e = .returned (.bool true) ∧ Below w.heap.size w w' := by
  have h2 := dbox_2 w a0 a1 a2 a3 a4 a5 a6 a7 b0 b1 b2 b3 b4 b5 b6 b7 23 23
  have HTw := hide ht
  have HXa := hide h2.1
  have HXb := hide h2.2.1
  have HBc := hide h2.2.2
  obtain ⟨k0, k1, k2, k3, k4, k5, k6, k7, k8⟩ := h2.1
  obtain ⟨l0, l1, l2, l3, l4, l5, l6, l7, l8⟩ := h2.2.1
  clear h2 k0 l0 ht
  go_enter Tryd.func3, Tryd.ntmps3
  go_wp2_with fail
  go_cut [5] (fun v wx => v = .int .i64 (cmpDB a0 a1 a2 a3 a4 a5 a6 a7 b0 b1 b2 b3 b4 b5 b6 b7) ∧ Below w.heap.size w wx ∧ DBox wx w.heap.size a0 a1 a2 a3 a4 a5 a6 a7 ∧ DBox wx (w.heap.size + 1) b0 b1 b2 b3 b4 b5 b6 b7)
  case first =>
    go_region_with (first | (go_at_call 5; refine (l_to _ _ _ _ _ _ _ _ _).mono ?_; rintro e wn ⟨rfl, hbn⟩; (first | replace hbn := below_drew1 hbn | skip); replace HBc := hide (below_go HBc.out hbn); replace HXa := hide (dbox_go HXa.out hbn); replace HXb := hide (dbox_go HXb.out hbn); clear k1 k2 k3 k4 k5 k6 k7 k8 l1 l2 l3 l4 l5 l6 l7 l8 hbn; obtain ⟨k0, k1, k2, k3, k4, k5, k6, k7, k8⟩ := HXa.out; obtain ⟨l0, l1, l2, l3, l4, l5, l6, l7, l8⟩ := HXb.out; clear k0 l0) | (go_at_call 4; refine (s_cmpdate _ _ _ _ _ _ _ _ _ _ _ _ _ _ _ _ _).mono ?_; rintro e wn ⟨rfl, hbn⟩; (first | replace hbn := below_drew1 hbn | skip); replace HBc := hide (below_go HBc.out hbn); replace HXa := hide (dbox_go HXa.out hbn); replace HXb := hide (dbox_go HXb.out hbn); clear k1 k2 k3 k4 k5 k6 k7 k8 l1 l2 l3 l4 l5 l6 l7 l8 hbn; obtain ⟨k0, k1, k2, k3, k4, k5, k6, k7, k8⟩ := HXa.out; obtain ⟨l0, l1, l2, l3, l4, l5, l6, l7, l8⟩ := HXb.out; clear k0 l0))
    all_goals
      go_wp2_with fail
      go_meet
      exact ⟨rfl, by first | exact HBc.out | exact below_drew2 HBc.out, HXa.out, HXb.out⟩
  case rest =>
    obtain ⟨rfl, hb, hx1, hx2⟩ := hcut
    clear k1 k2 k3 k4 k5 k6 k7 k8 l1 l2 l3 l4 l5 l6 l7 l8 HBc HXa HXb
    have HBc := hide hb
    have HXa := hide hx1
    have HXb := hide hx2
    obtain ⟨k0, k1, k2, k3, k4, k5, k6, k7, k8⟩ := hx1
    obtain ⟨l0, l1, l2, l3, l4, l5, l6, l7, l8⟩ := hx2
    clear k0 l0 hb
    go_wp2_with fail
    go_region_with (first | (go_at_call 5; refine (l_to _ _ _ _ _ _ _ _ _).mono ?_; rintro e wn ⟨rfl, hbn⟩; (first | replace hbn := below_drew1 hbn | skip); replace HBc := hide (below_go HBc.out hbn); replace HXa := hide (dbox_go HXa.out hbn); replace HXb := hide (dbox_go HXb.out hbn); clear k1 k2 k3 k4 k5 k6 k7 k8 l1 l2 l3 l4 l5 l6 l7 l8 hbn; obtain ⟨k0, k1, k2, k3, k4, k5, k6, k7, k8⟩ := HXa.out; obtain ⟨l0, l1, l2, l3, l4, l5, l6, l7, l8⟩ := HXb.out; clear k0 l0) | (go_at_call 6; refine (i_cmpdate _ _ _ _ _ _ _ _ _ _ _ _ _ _ _ _ _ (by first | exact mtab_go HTw.out HBc.out | exact mtab_drew1 (mtab_go HTw.out HBc.out))).mono ?_; rintro e wn ⟨rfl, hbn⟩; (first | replace hbn := below_drew1 hbn | skip); replace HBc := hide (below_go HBc.out hbn); replace HXa := hide (dbox_go HXa.out hbn); replace HXb := hide (dbox_go HXb.out hbn); clear k1 k2 k3 k4 k5 k6 k7 k8 l1 l2 l3 l4 l5 l6 l7 l8 hbn; obtain ⟨k0, k1, k2, k3, k4, k5, k6, k7, k8⟩ := HXa.out; obtain ⟨l0, l1, l2, l3, l4, l5, l6, l7, l8⟩ := HXb.out; clear k0 l0))
    all_goals
      go_wp2
      go_ret
      exact ⟨rfl, by first | exact HBc.out | exact below_drew2 HBc.out | exact below_drawn HBc.out _⟩

/-- The witness: the settled world, the listed variables holding what their initialisers lay. -/
noncomputable def laidWorld (os : Os) : World :=
  let w0 := World.holding Tryd.prog os ⟨#[], #[], []⟩
  let put (h : Array Obj) (g : Nat) (cs : Array Value) : Array Obj := h.modify g fun
    | .cells _ t frozen => .cells cs t frozen
    | o => o
  let h1 := put w0.heap 0 (mdays.map fun z => Value.int .i64 z).toArray
  { w0 with heap := h1 }
theorem laid_met (os : Os) (args : Array Value) : laidMet Tryd.prog Rows.fnExactCompareDateRow.laid ((laidWorld os).forCall (fun _ _ => 0) ⟨#[], args, []⟩).memory :=
  (LaidIn.of_run (l := Rows.fnExactCompareDateRow.laid) [0] 8 (by kernel_rfl) (by kernel_rfl) (by kernel_rfl) (by kernel_rfl)).met

theorem witness_row (os : Os) {H : Type} (enc : TypeId × Value → H) :
    (OpenSpec.ofChange Rows.fnExactCompareDateSpec).preRow enc Tryd.prog Tryd.f3 Rows.fnExactCompareDateRow.domain false Rows.fnExactCompareDateRow.laid ((laidWorld os).forCall (fun _ _ => 0) ⟨#[], #[.agg #[.int .i64 0, .int .i64 0, .int .i64 0, .int .i64 0, .int .i64 0, .int .i64 0, .bool false, .int .i64 0], .agg #[.int .i64 0, .int .i64 0, .int .i64 0, .int .i64 0, .int .i64 0, .int .i64 0, .bool false, .int .i64 0]], []⟩).memory #[.agg #[.int .i64 0, .int .i64 0, .int .i64 0, .int .i64 0, .int .i64 0, .int .i64 0, .bool false, .int .i64 0], .agg #[.int .i64 0, .int .i64 0, .int .i64 0, .int .i64 0, .int .i64 0, .int .i64 0, .bool false, .int .i64 0]] := by
  have hw : (DataW.whole enc Tryd.prog ((laidWorld os).forCall (fun _ _ => 0) ⟨#[], #[.agg #[.int .i64 0, .int .i64 0, .int .i64 0, .int .i64 0, .int .i64 0, .int .i64 0, .bool false, .int .i64 0], .agg #[.int .i64 0, .int .i64 0, .int .i64 0, .int .i64 0, .int .i64 0, .int .i64 0, .bool false, .int .i64 0]], []⟩).memory Tryd.f3.params.toList Rows.fnExactCompareDateSpec.vars false (#[.agg #[.int .i64 0, .int .i64 0, .int .i64 0, .int .i64 0, .int .i64 0, .int .i64 0, .bool false, .int .i64 0], .agg #[.int .i64 0, .int .i64 0, .int .i64 0, .int .i64 0, .int .i64 0, .int .i64 0, .bool false, .int .i64 0]] : Array Value).toList 8).map (fun x => (x.1, x.2.1)) =
      some ([.agg [.lit (.int .i64 0), .lit (.int .i64 0), .lit (.int .i64 0), .lit (.int .i64 0), .lit (.int .i64 0), .lit (.int .i64 0), .lit (.bool false), .lit (.int .i64 0)], .agg [.lit (.int .i64 0), .lit (.int .i64 0), .lit (.int .i64 0), .lit (.int .i64 0), .lit (.int .i64 0), .lit (.int .i64 0), .lit (.bool false), .lit (.int .i64 0)]], [.agg (mdays.map fun z => .lit (.int .i64 z))]) := by kernel_rfl
  obtain ⟨⟨x1, x2, x3⟩, hx, hx1⟩ := Option.map_eq_some_iff.1 hw
  simp only [Prod.mk.injEq] at hx1
  obtain ⟨rfl, rfl⟩ := hx1
  exact OpenSpec.preRow_of_cond 8 hx (by kernel_rfl) (fun k hk => by cases hk) (by kernel_rfl) (laid_met os _)

set_option maxRecDepth 100000 in
set_option maxHeartbeats 2000000 in
theorem lifted (os : Os) (started : os.Started) (H : Type) (enc : TypeId × Value → H) (F : Stop.Interp) :
    ReturnsInHanded {} Tryd.checked os 3 .any ((OpenSpec.ofChange Rows.fnExactCompareDateSpec).preRow enc Tryd.prog Tryd.f3 Rows.fnExactCompareDateRow.domain false Rows.fnExactCompareDateRow.laid) (((OpenSpec.ofChange Rows.fnExactCompareDateSpec).at F).post enc Tryd.prog Tryd.f3 false true false false) := by
  refine returnsInHanded_of_row (C := Tryd.checked) (s := OpenSpec.ofChange Rows.fnExactCompareDateSpec) own started (by kernel_rfl) Tryd.func3
    (witness_row_atRef (enc := enc) (C := Tryd.checked) false (laidWorld os) #[.agg #[.int .i64 0, .int .i64 0, .int .i64 0, .int .i64 0, .int .i64 0, .int .i64 0, .bool false, .int .i64 0], .agg #[.int .i64 0, .int .i64 0, .int .i64 0, .int .i64 0, .int .i64 0, .int .i64 0, .bool false, .int .i64 0]] rfl (by kernel_rfl) (by kernel_rfl) (by kernel_rfl) (witness_row os enc)) ?_
  intro W base args ds gs before hval0 hW _ _ _ hL hsh _
  have hval : ∀ (j : Nat) t v, Tryd.f3.params[j]? = some t → args[j]? = some v → Value.okWide Tryd.prog W .any base t v := hval0
  have hW' := hW
  obtain ⟨p, q, hA0, hV0, rfl, _, _⟩ := hW
  have hA : DataW.TrodAll enc Tryd.prog W 0 (fun _ => true) true Tryd.f3.params.toList args.toList ds p := hA0
  rw [Tryd.params3] at hA hval
  obtain ⟨v0, vs0, d0, ds0, p0, q0, hargs, rfl, rfl, h0, r0⟩ := trodAll_cons hA
  obtain ⟨v1, vs1, d1, ds1, p1, q1, hargs1, rfl, rfl, h1, r1⟩ := trodAll_cons r0
  obtain ⟨rfl, rfl, rfl⟩ := trodAll_nil r1
  subst hargs1
  obtain rfl : args = #[v0, v1] := by cases args; simp_all
  have k0 := h0
  have lt0 : ∀ x ∈ p0, x.block < W.heap.size := by obtain ⟨mm, hmm⟩ := k0; exact DataW.trod_lt mm _ _ _ hmm
  have k1 := h1
  have lt1 : ∀ x ∈ p1, x.block < W.heap.size := by obtain ⟨mm, hmm⟩ := k1; exact DataW.trod_lt mm _ _ _ hmm
  have hV : DataW.TrodVars enc Tryd.prog W (fun _ => true) ["loop.example/g00262/impl.monthDays"] gs q := hV0
  have hVk := hV
  obtain ⟨gg, gt, gcs, gfuel, gd, gp, rfl, hgg, hgt, hgvar, hgd, rfl⟩ := trodVars_one hV
  obtain ⟨x0_0, x0_1, x0_2, x0_3, x0_4, x0_5, x0_6, x0_7, y0_0, y0_1, y0_2, y0_3, y0_4, y0_5, y0_6, y0_7, nn0, rfl, hd0, hx0_0, hx0_1, hx0_2, hx0_3, hx0_4, hx0_5, hx0_6, hx0_7⟩ := open_agg8 Tryd.underlying23 (by kernel_rfl) (by kernel_rfl) (hval 0 23 v0 rfl rfl) h0
  obtain ⟨f0_0, e0_0, rfl, wf0_0⟩ := DataW.trod_int Tryd.underlying2 hx0_0
  simp at e0_0
  subst e0_0
  obtain ⟨f0_1, e0_1, rfl, wf0_1⟩ := DataW.trod_int Tryd.underlying2 hx0_1
  simp at e0_1
  subst e0_1
  obtain ⟨f0_2, e0_2, rfl, wf0_2⟩ := DataW.trod_int Tryd.underlying2 hx0_2
  simp at e0_2
  subst e0_2
  obtain ⟨f0_3, e0_3, rfl, wf0_3⟩ := DataW.trod_int Tryd.underlying2 hx0_3
  simp at e0_3
  subst e0_3
  obtain ⟨f0_4, e0_4, rfl, wf0_4⟩ := DataW.trod_int Tryd.underlying2 hx0_4
  simp at e0_4
  subst e0_4
  obtain ⟨f0_5, e0_5, rfl, wf0_5⟩ := DataW.trod_int Tryd.underlying2 hx0_5
  simp at e0_5
  subst e0_5
  obtain ⟨f0_6, e0_6, rfl⟩ := DataW.trod_bool Tryd.underlying4 hx0_6
  simp at e0_6
  subst e0_6
  obtain ⟨f0_7, e0_7, rfl, wf0_7⟩ := DataW.trod_int Tryd.underlying2 hx0_7
  simp at e0_7
  subst e0_7
  subst hd0
  obtain ⟨x1_0, x1_1, x1_2, x1_3, x1_4, x1_5, x1_6, x1_7, y1_0, y1_1, y1_2, y1_3, y1_4, y1_5, y1_6, y1_7, nn1, rfl, hd1, hx1_0, hx1_1, hx1_2, hx1_3, hx1_4, hx1_5, hx1_6, hx1_7⟩ := open_agg8 Tryd.underlying23 (by kernel_rfl) (by kernel_rfl) (hval 1 23 v1 rfl rfl) h1
  obtain ⟨f1_0, e1_0, rfl, wf1_0⟩ := DataW.trod_int Tryd.underlying2 hx1_0
  simp at e1_0
  subst e1_0
  obtain ⟨f1_1, e1_1, rfl, wf1_1⟩ := DataW.trod_int Tryd.underlying2 hx1_1
  simp at e1_1
  subst e1_1
  obtain ⟨f1_2, e1_2, rfl, wf1_2⟩ := DataW.trod_int Tryd.underlying2 hx1_2
  simp at e1_2
  subst e1_2
  obtain ⟨f1_3, e1_3, rfl, wf1_3⟩ := DataW.trod_int Tryd.underlying2 hx1_3
  simp at e1_3
  subst e1_3
  obtain ⟨f1_4, e1_4, rfl, wf1_4⟩ := DataW.trod_int Tryd.underlying2 hx1_4
  simp at e1_4
  subst e1_4
  obtain ⟨f1_5, e1_5, rfl, wf1_5⟩ := DataW.trod_int Tryd.underlying2 hx1_5
  simp at e1_5
  subst e1_5
  obtain ⟨f1_6, e1_6, rfl⟩ := DataW.trod_bool Tryd.underlying4 hx1_6
  simp at e1_6
  subst e1_6
  obtain ⟨f1_7, e1_7, rfl, wf1_7⟩ := DataW.trod_int Tryd.underlying2 hx1_7
  simp at e1_7
  subst e1_7
  subst hd1
  clear hA0 hV0 hval0
  have hmt : MTab 0 W := mtab_of (by kernel_rfl) (by kernel_rfl) Tryd.underlying35 Tryd.underlying2 (by kernel_rfl) (by kernel_rfl) (Lib.laidMet.reads hL (.head _))
  refine (walk f0_0 f0_1 f0_2 f0_3 f0_4 f0_5 f0_6 f0_7 f1_0 f1_1 f1_2 f1_3 f1_4 f1_5 f1_6 f1_7 W hsh hmt).mono ?_
  rintro e W' ⟨rfl, bel⟩
  exact ⟨_, rfl, _, _, _, [], _, _, hW', trodAll_mk1 (shut_bool Tryd.underlying4 _), (trodAll_cons_mk (Below.trod laidOut (by kernel_rfl) (of_decide_eq_true (by kernel_rfl)) k0 bel lt0) (trodAll_cons_mk (Below.trod laidOut (by kernel_rfl) (of_decide_eq_true (by kernel_rfl)) k1 bel lt1) trodAll_mk0)), bel.trodVars laidOut (by kernel_rfl) hVk, bel.frame _, fun h => by cases h⟩

theorem said : Rows.FnExactCompareDateSaid :=
  OpenClaim.holds_of_cond 3 Tryd.f3 rfl rfl rfl rfl rfl rfl rfl ⟨rfl, rfl, rfl, rfl, rfl⟩ rfl rfl rfl rfl rfl (by kernel_rfl) Tryd.func3 (by kernel_rfl)
    (of_decide_eq_true (by kernel_rfl)) (by unfold Func.isWrapper; first | (rw [if_pos (by decide +kernel)]; kernel_rfl) | (rw [if_neg (by decide +kernel)]; exact ⟨rfl, rfl⟩))
    (fun os started H enc _ F => by rw [OpenClaim.pre_eq_preRow]; exact lifted os started H enc F)

/-- No parameter wants a stand-in; the program's own looks are off. -/
theorem plain (f : FuncId) (fn : Func) (hf : Tryd.pinned.checked.prog.funcNamed "loop.example/g00262/laws.FnExactCompareDate" = some f) (hfn : Tryd.pinned.checked.prog.funcs[f]? = some fn) :
    false = Tryd.pinned.checked.prog.looks [] ∧ ∀ (j : Nat) t, fn.params[j]? = some t → Tryd.pinned.checked.prog.wantsStandIn t = false := by
  obtain rfl : f = 3 := Option.some.inj ((show Tryd.prog.funcNamed "loop.example/g00262/laws.FnExactCompareDate" = some 3 by kernel_rfl).symm.trans hf) |>.symm
  obtain rfl : fn = Tryd.f3 := (Option.some.inj (Tryd.func3.symm.trans hfn)).symm
  refine ⟨by kernel_rfl, fun j t ht => ?_⟩
  rw [Tryd.params3] at ht
  have ht' : t = 23 := by simpa using Array.mem_of_getElem? ht
  rcases ht' with rfl
  · exact (show Tryd.prog.wantsStandIn 23 = false by kernel_rfl)
end Go.Proofs.YtmahfcaeimefmafDoor.fnExactCompareDate
namespace Go.Proofs.YtmahfcaeimefmafDoor
theorem compare_date_proved : Rows.FnExactCompareDateCardSaid :=
  Claim7.holds_tied_plain_at .later [] _ _ _ _ fnExactCompareDate.said (fun _ h => by cases h) (by kernel_rfl) (fun _ h => by cases h) fnExactCompareDate_row_tie rfl ⟨rfl, rfl⟩ (by kernel_rfl) rfl fnExactCompareDate.plain (by kernel_rfl)
end Go.Proofs.YtmahfcaeimefmafDoor
