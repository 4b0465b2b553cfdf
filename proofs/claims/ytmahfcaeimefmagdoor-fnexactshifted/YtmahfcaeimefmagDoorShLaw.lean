/-
  Proved: for every date and zone the call of FnExactShifted returns true and the arguments read as they did (the program's Shifted answers as the specification's at every date and every number), the table of the months holding what its initialiser lays (the card ties it). No other condition is laid.
-/
import Derived.Test.YtmahfcaeimefmagDoorCards
import Derived.Test.YtmahfcaeimefmagDoorTie
import Derived.Test.YtmahfcaeimefmagDoorShS
import Derived.Test.YtmahfcaeimefmagDoorEqDate
import Derived.Test.YtmahfcaeimefmagDoorJoins8
import Derived.WalkKit
import Derived.ProofKit
import Derived.OpenShut
import Derived.OpenVars
import Derived.ChangeVars
import Derived.ShutString
import Derived.Below
import Derived.ChangeOld
import Derived.Lib.SmallJoins
import Derived.Lib.LaidIn
import Derived.Lib.LaidU8T
import Derived.Deep.DeepHandedRow
import Derived.Deep.DeepWitnessRowRef
namespace Go.Proofs.YtmahfcaeimefmagDoor.fnExactShifted
open Go.ChangeShapes Go.WideShapes Go.ChangeAt Go.RowKit Go.Joins
open Go.ChangeMaps (open_string shut_string)
set_option linter.unusedVariables false
set_option linter.unusedSimpArgs false
theorem laidOut : laidOutB Tryd.prog = true := by kernel_rfl
theorem own : ownKnob Tryd.prog.godebug = none := by kernel_rfl

set_option maxHeartbeats 4000000 in
/-- The walk: the law answers true, and nothing that was there is written. -/
theorem walk (y mo d h mi s : Int) (g : Bool) (z : Int) (zone : Int) (w : World) (hsh : w.ShapedOpen Tryd.prog) (ht : MTab 0 w) :
    Calls Tryd.prog 3 #[.agg #[.int .i64 y, .int .i64 mo, .int .i64 d, .int .i64 h, .int .i64 mi, .int .i64 s, .bool g, .int .i64 z], .int .i64 zone] w fun e w' => e = .returned (.bool true) ∧ Below w.heap.size w w' := by
  have HT := hide ht
  clear ht
  go_enter Tryd.func3, Tryd.ntmps3
  go_wp2_with fail
  refine (l_to y mo d h mi s g z _).mono ?_
  rintro e w1 ⟨rfl, hb1⟩
  have HB1 := hide (box_below hb1)
  have HX1 := hide (dbox_go (dbox_new w y mo d h mi s g z _) hb1)
  clear hb1
  go_wp2_with fail
  refine (s_shift y mo d h mi s g z zone _).mono ?_
  rintro e w2 ⟨hp, hb2⟩
  have HB2 := hide (below_go HB1.out hb2)
  have hx2 := dbox_go HX1.out hb2
  obtain ⟨k0, k1, k2, k3, k4, k5, k6, k7, k8⟩ := hx2
  clear hb2
  rcases hp with ⟨ho, y', m', d', h', n', s', hs, rfl⟩ | ⟨ho, rfl⟩
  · go_wp2_with fail
    refine (l_to y mo d h mi s g z _).mono ?_
    rintro e w3 ⟨rfl, hb3⟩
    have HB3 := hide (below_go HB2.out (box_below hb3))
    have HX3 := hide (dbox_go (dbox_new w2 y' m' d' h' n' s' true zone _) hb3)
    clear hb3 k1 k2 k3 k4 k5 k6 k7 k8
    go_wp2_with fail
    refine (i_shift y mo d h mi s g z zone _ (mtab_go HT.out HB3.out)).mono ?_
    rintro e w4 ⟨hq, hb4⟩
    have HB4 := hide (below_go HB3.out hb4)
    have hx4 := dbox_go HX3.out hb4
    clear hb4
    rcases hq with ⟨_, y2, m2, d2, h2, n2, s2, hs2, rfl⟩ | ⟨ho2, rfl⟩
    · obtain ⟨rfl, rfl, rfl, rfl, rfl, rfl⟩ := sh_one hs hs2
      obtain ⟨k0, k1, k2, k3, k4, k5, k6, k7, k8⟩ := hx4
      clear hs hs2
      go_wp2_with fail
      refine (l_eqD _ _ _ _ _ _ _ _ _).mono ?_
      rintro e w5 ⟨rfl, hb5⟩
      have HB5 := hide (below_go HB4.out (box_below hb5))
      clear hb5
      go_wp2
      go_ret
      exact ⟨rfl, HB5.out⟩
    · rw [ho] at ho2; cases ho2
  · go_wp2_with fail
    refine (l_to y mo d h mi s g z _).mono ?_
    rintro e w3 ⟨rfl, hb3⟩
    have HB3 := hide (below_go HB2.out (box_below hb3))
    have HX3 := hide (dbox_go (dbox_new w2 0 0 0 0 0 0 false 0 _) hb3)
    clear hb3 k1 k2 k3 k4 k5 k6 k7 k8
    go_wp2_with fail
    refine (i_shift y mo d h mi s g z zone _ (mtab_go HT.out HB3.out)).mono ?_
    rintro e w4 ⟨hq, hb4⟩
    have HB4 := hide (below_go HB3.out hb4)
    have hx4 := dbox_go HX3.out hb4
    clear hb4
    rcases hq with ⟨ho2, _⟩ | ⟨_, rfl⟩
    · rw [ho] at ho2; cases ho2
    · obtain ⟨k0, k1, k2, k3, k4, k5, k6, k7, k8⟩ := hx4
      go_wp2_with fail
      refine (l_eqD _ _ _ _ _ _ _ _ _).mono ?_
      rintro e w5 ⟨rfl, hb5⟩
      have HB5 := hide (below_go HB4.out (box_below hb5))
      clear hb5
      go_wp2
      go_ret
      exact ⟨rfl, HB5.out⟩

/-- The witness: the settled world, the listed variables holding what their initialisers lay. -/
noncomputable def laidWorld (os : Os) : World :=
  let w0 := World.holding Tryd.prog os ⟨#[], #[], []⟩
  let put (h : Array Obj) (g : Nat) (cs : Array Value) : Array Obj := h.modify g fun
    | .cells _ t frozen => .cells cs t frozen
    | o => o
  let h1 := put w0.heap 0 (mdays.map fun z => Value.int .i64 z).toArray
  { w0 with heap := h1 }
theorem laid_met (os : Os) (args : Array Value) : laidMet Tryd.prog Rows.fnExactShiftedRow.laid ((laidWorld os).forCall (fun _ _ => 0) ⟨#[], args, []⟩).memory :=
  (LaidIn.of_run (l := Rows.fnExactShiftedRow.laid) [0] 8 (by kernel_rfl) (by kernel_rfl) (by kernel_rfl) (by kernel_rfl)).met

theorem witness_row (os : Os) {H : Type} (enc : TypeId × Value → H) :
    (OpenSpec.ofChange Rows.fnExactShiftedSpec).preRow enc Tryd.prog Tryd.f3 Rows.fnExactShiftedRow.domain false Rows.fnExactShiftedRow.laid ((laidWorld os).forCall (fun _ _ => 0) ⟨#[], #[.agg #[.int .i64 0, .int .i64 0, .int .i64 0, .int .i64 0, .int .i64 0, .int .i64 0, .bool false, .int .i64 0], .int .i64 0], []⟩).memory #[.agg #[.int .i64 0, .int .i64 0, .int .i64 0, .int .i64 0, .int .i64 0, .int .i64 0, .bool false, .int .i64 0], .int .i64 0] := by
  have hw : (DataW.whole enc Tryd.prog ((laidWorld os).forCall (fun _ _ => 0) ⟨#[], #[.agg #[.int .i64 0, .int .i64 0, .int .i64 0, .int .i64 0, .int .i64 0, .int .i64 0, .bool false, .int .i64 0], .int .i64 0], []⟩).memory Tryd.f3.params.toList Rows.fnExactShiftedSpec.vars false (#[.agg #[.int .i64 0, .int .i64 0, .int .i64 0, .int .i64 0, .int .i64 0, .int .i64 0, .bool false, .int .i64 0], .int .i64 0] : Array Value).toList 8).map (fun x => (x.1, x.2.1)) =
      some ([.agg [.lit (.int .i64 0), .lit (.int .i64 0), .lit (.int .i64 0), .lit (.int .i64 0), .lit (.int .i64 0), .lit (.int .i64 0), .lit (.bool false), .lit (.int .i64 0)], .lit (.int .i64 0)], [.agg (mdays.map fun z => .lit (.int .i64 z))]) := by kernel_rfl
  obtain ⟨⟨x1, x2, x3⟩, hx, hx1⟩ := Option.map_eq_some_iff.1 hw
  simp only [Prod.mk.injEq] at hx1
  obtain ⟨rfl, rfl⟩ := hx1
  exact OpenSpec.preRow_of_cond 8 hx (by kernel_rfl) (fun k hk => by cases hk) (by kernel_rfl) (laid_met os _)

set_option maxRecDepth 100000 in
set_option maxHeartbeats 2000000 in
theorem lifted (os : Os) (started : os.Started) (H : Type) (enc : TypeId × Value → H) (F : Stop.Interp) :
    ReturnsInHanded {} Tryd.checked os 3 .any ((OpenSpec.ofChange Rows.fnExactShiftedSpec).preRow enc Tryd.prog Tryd.f3 Rows.fnExactShiftedRow.domain false Rows.fnExactShiftedRow.laid) (((OpenSpec.ofChange Rows.fnExactShiftedSpec).at F).post enc Tryd.prog Tryd.f3 false true false false) := by
  refine returnsInHanded_of_row (C := Tryd.checked) (s := OpenSpec.ofChange Rows.fnExactShiftedSpec) own started (by kernel_rfl) Tryd.func3
    (witness_row_atRef (enc := enc) (C := Tryd.checked) false (laidWorld os) #[.agg #[.int .i64 0, .int .i64 0, .int .i64 0, .int .i64 0, .int .i64 0, .int .i64 0, .bool false, .int .i64 0], .int .i64 0] rfl (by kernel_rfl) (by kernel_rfl) (by kernel_rfl) (witness_row os enc)) ?_
  intro W base args ds gs before hval0 hW _ _ _ hL hsh _
  have hval : ∀ (j : Nat) t v, Tryd.f3.params[j]? = some t → args[j]? = some v → Value.okWide Tryd.prog W .any base t v := hval0
  have hW' := hW
  obtain ⟨p, q, hA0, hV0, rfl, _, _⟩ := hW
  have hA : DataW.TrodAll enc Tryd.prog W 0 (fun _ => true) true Tryd.f3.params.toList args.toList ds p := hA0
  rw [Tryd.params3] at hA hval
  obtain ⟨v0, vs0, d0, ds0, p0, q0, hargs, rfl, rfl, h0, r0⟩ := trodAll_cons hA
  obtain ⟨v1, vs1, d1, ds1, p1, q1, hargs1, rfl, rfl, h1, r1⟩ := trodAll_cons r0
  obtain ⟨rfl, rfl, rfl⟩ := trodAll_nil r1
  subst hargs1
  obtain rfl : args = #[v0, v1] := by cases args; simp_all
  have k0 := h0
  have lt0 : ∀ x ∈ p0, x.block < W.heap.size := by obtain ⟨mm, hmm⟩ := k0; exact DataW.trod_lt mm _ _ _ hmm
  have k1 := h1
  have lt1 : ∀ x ∈ p1, x.block < W.heap.size := by obtain ⟨mm, hmm⟩ := k1; exact DataW.trod_lt mm _ _ _ hmm
  have hV : DataW.TrodVars enc Tryd.prog W (fun _ => true) ["loop.example/g00262/impl.monthDays"] gs q := hV0
  have hVk := hV
  obtain ⟨gg, gt, gcs, gfuel, gd, gp, rfl, hgg, hgt, hgvar, hgd, rfl⟩ := trodVars_one hV
  obtain ⟨x0_0, x0_1, x0_2, x0_3, x0_4, x0_5, x0_6, x0_7, y0_0, y0_1, y0_2, y0_3, y0_4, y0_5, y0_6, y0_7, nn0, rfl, hd0, hx0_0, hx0_1, hx0_2, hx0_3, hx0_4, hx0_5, hx0_6, hx0_7⟩ := open_agg8 Tryd.underlying23 (by kernel_rfl) (by kernel_rfl) (hval 0 23 v0 rfl rfl) h0
  obtain ⟨f0_0, e0_0, rfl, wf0_0⟩ := DataW.trod_int Tryd.underlying2 hx0_0
  simp at e0_0
  subst e0_0
  obtain ⟨f0_1, e0_1, rfl, wf0_1⟩ := DataW.trod_int Tryd.underlying2 hx0_1
  simp at e0_1
  subst e0_1
  obtain ⟨f0_2, e0_2, rfl, wf0_2⟩ := DataW.trod_int Tryd.underlying2 hx0_2
  simp at e0_2
  subst e0_2
  obtain ⟨f0_3, e0_3, rfl, wf0_3⟩ := DataW.trod_int Tryd.underlying2 hx0_3
  simp at e0_3
  subst e0_3
  obtain ⟨f0_4, e0_4, rfl, wf0_4⟩ := DataW.trod_int Tryd.underlying2 hx0_4
  simp at e0_4
  subst e0_4
  obtain ⟨f0_5, e0_5, rfl, wf0_5⟩ := DataW.trod_int Tryd.underlying2 hx0_5
  simp at e0_5
  subst e0_5
  obtain ⟨f0_6, e0_6, rfl⟩ := DataW.trod_bool Tryd.underlying4 hx0_6
  simp at e0_6
  subst e0_6
  obtain ⟨f0_7, e0_7, rfl, wf0_7⟩ := DataW.trod_int Tryd.underlying2 hx0_7
  simp at e0_7
  subst e0_7
  subst hd0
  obtain ⟨z1, rfl, rfl, rfl, wf1⟩ := open_int Tryd.underlying2 (hval 1 2 v1 rfl rfl) h1
  clear hA0 hV0 hval0
  have hmt : MTab 0 W := mtab_of (by kernel_rfl) (by kernel_rfl) Tryd.underlying37 Tryd.underlying2 (by kernel_rfl) (by kernel_rfl) (Lib.laidMet.reads hL (.head _))
  refine (walk f0_0 f0_1 f0_2 f0_3 f0_4 f0_5 f0_6 f0_7 z1 W hsh hmt).mono ?_
  rintro e W' ⟨rfl, bel⟩
  exact ⟨_, rfl, _, _, _, [], _, _, hW', trodAll_mk1 (shut_bool Tryd.underlying4 _), (trodAll_cons_mk (Below.trod laidOut (by kernel_rfl) (of_decide_eq_true (by kernel_rfl)) k0 bel lt0) (trodAll_cons_mk (Below.trod laidOut (by kernel_rfl) (of_decide_eq_true (by kernel_rfl)) k1 bel lt1) trodAll_mk0)), bel.trodVars laidOut (by kernel_rfl) hVk, bel.frame _, fun h => by cases h⟩

theorem said : Rows.FnExactShiftedSaid :=
  OpenClaim.holds_of_cond 3 Tryd.f3 rfl rfl rfl rfl rfl rfl rfl ⟨rfl, rfl, rfl, rfl, rfl⟩ rfl rfl rfl rfl rfl (by kernel_rfl) Tryd.func3 (by kernel_rfl)
    (of_decide_eq_true (by kernel_rfl)) (by unfold Func.isWrapper; first | (rw [if_pos (by decide +kernel)]; kernel_rfl) | (rw [if_neg (by decide +kernel)]; exact ⟨rfl, rfl⟩))
    (fun os started H enc _ F => by rw [OpenClaim.pre_eq_preRow]; exact lifted os started H enc F)

/-- No parameter wants a stand-in; the program's own looks are off. -/
theorem plain (f : FuncId) (fn : Func) (hf : Tryd.pinned.checked.prog.funcNamed "loop.example/g00262/laws.FnExactShifted" = some f) (hfn : Tryd.pinned.checked.prog.funcs[f]? = some fn) :
    false = Tryd.pinned.checked.prog.looks [] ∧ ∀ (j : Nat) t, fn.params[j]? = some t → Tryd.pinned.checked.prog.wantsStandIn t = false := by
  obtain rfl : f = 3 := Option.some.inj ((show Tryd.prog.funcNamed "loop.example/g00262/laws.FnExactShifted" = some 3 by kernel_rfl).symm.trans hf) |>.symm
  obtain rfl : fn = Tryd.f3 := (Option.some.inj (Tryd.func3.symm.trans hfn)).symm
  refine ⟨by kernel_rfl, fun j t ht => ?_⟩
  rw [Tryd.params3] at ht
  have ht' : t = 23 ∨ t = 2 := by simpa using Array.mem_of_getElem? ht
  rcases ht' with rfl | rfl
  · exact (show Tryd.prog.wantsStandIn 23 = false by kernel_rfl)
  · exact (show Tryd.prog.wantsStandIn 2 = false by kernel_rfl)
end Go.Proofs.YtmahfcaeimefmagDoor.fnExactShifted
namespace Go.Proofs.YtmahfcaeimefmagDoor
theorem shifted_proved : Rows.FnExactShiftedCardSaid :=
  Claim7.holds_tied_plain_at .later [] _ _ _ _ fnExactShifted.said (fun _ h => by cases h) (by kernel_rfl) (fun _ h => by cases h) fnExactShifted_row_tie rfl ⟨rfl, rfl⟩ (by kernel_rfl) rfl fnExactShifted.plain (by kernel_rfl)
end Go.Proofs.YtmahfcaeimefmagDoor
