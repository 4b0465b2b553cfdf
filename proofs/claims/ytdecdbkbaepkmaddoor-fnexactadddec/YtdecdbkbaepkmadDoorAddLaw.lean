/-
  Proved: for every two numbers the call of FnExactAddDec returns true and the arguments read as they did (the program's AddDec answers as the specification's at every two numbers whose digits are together at most 1048576 bytes; the law passes longer ones by), the listed tables holding what their initialisers lay (the card ties them). No other condition is laid.
-/
import Derived.Test.YtdecdbkbaepkmadDoorCards
import Derived.Test.YtdecdbkbaepkmadDoorTie
import Derived.Test.YtdecdbkbaepkmadDoorAddLW
import Derived.WalkKit
import Derived.ProofKit
import Derived.OpenShut
import Derived.ShutString
import Derived.Below
import Derived.Lib.SmallJoins
import Derived.Deep.DeepCutAuto
import Derived.Deep.RegionWith
import Derived.Lib.LaidIn
import Derived.Lib.LaidU8T
import Derived.Deep.DeepHandedRow
import Derived.Deep.DeepWitnessRowRef
namespace Go.Proofs.YtdecdbkbaepkmadDoor.fnExactAddDec
open Go.ChangeShapes Go.WideShapes Go.ChangeAt Go.RowKit Go.Joins
open Go.ChangeMaps (open_string shut_string)
set_option linter.unusedVariables false
theorem cellsT : Tryd.prog.cellsOf 23 = 3 := by kernel_rfl
theorem structReads {H : Type} (enc : TypeId × Value → H) (n : Bool) (b : ByteArray) (c : Int) (hb : b.size ≤ maxLen) (hc : (Lit.int .i64 c).wf = true) : ∀ (W' : World) (sp : Nat → Bool), DataW.Trod enc Tryd.prog W' 0 sp true 23 (.agg #[.bool n, .string b, .int .i64 c]) (.agg [.lit (.bool n), .lit (.string b.data.toList), .lit (.int .i64 c)]) [] := fun W' sp =>
  shut_agg3 (y0 := (.lit (.bool n), [])) (y1 := (.lit (.string b.data.toList), [])) (y2 := (.lit (.int .i64 c), [])) Tryd.underlying23 (by kernel_rfl) cellsT ⟨1, by simp [DataW.trod, Tryd.underlying4]⟩ ⟨1, by simp [DataW.trod, Tryd.underlying9, hb]⟩ ⟨1, by simp [DataW.trod, Tryd.underlying2, hc]⟩
theorem own : ownKnob Tryd.prog.godebug = none := by kernel_rfl

theorem walk (n0 : Bool) (s0 : ByteArray) (c0 : Int) (w0 : s0.size ≤ maxLen) (n1 : Bool) (s1 : ByteArray) (c1 : Int) (w1 : s1.size ≤ maxLen) (w : World) (hsh : w.ShapedOpen Tryd.prog) :
    Calls Tryd.prog 3 #[.agg #[.bool n0, .string s0, .int .i64 c0], .agg #[.bool n1, .string s1, .int .i64 c1]] w fun e w' => e = .returned (.bool true) ∧ Below w.heap.size w w' :=
  _root_.Go.Proofs.YtdecdbkbaepkmadDoor.walk n0 s0 c0 w0 n1 s1 c1 w1 w hsh

/-- The witness: the settled world, the listed variables holding what their initialisers lay. -/
noncomputable def laidWorld (os : Os) : World :=
  let w0 := World.holding Tryd.prog os ⟨#[], #[], []⟩
  let put (h : Array Obj) (g : Nat) (cs : Array Value) : Array Obj := h.modify g fun
    | .cells _ t frozen => .cells cs t frozen
    | o => o
  let h1 := put w0.heap 1 ((List.range 16).flatMap fun i => [Value.int .u8 (Lib.accLo i), Value.int .u8 (Lib.accHi i)]).toArray
  let h2 := put h1 0 (Lib.firstTab.map fun z => Value.int .u8 z).toArray
  { w0 with heap := h2 }
theorem laid_met (os : Os) (args : Array Value) : laidMet Tryd.prog Rows.fnExactAddDecRow.laid ((laidWorld os).forCall (fun _ _ => 0) ⟨#[], args, []⟩).memory :=
  (LaidIn.of_run (l := Rows.fnExactAddDecRow.laid) [1, 0] 8 (by kernel_rfl) (by kernel_rfl) (by kernel_rfl) (by kernel_rfl)).met

theorem witness_row (os : Os) {H : Type} (enc : TypeId × Value → H) :
    (OpenSpec.ofChange Rows.fnExactAddDecSpec).preRow enc Tryd.prog Tryd.f3 Rows.fnExactAddDecRow.domain false Rows.fnExactAddDecRow.laid ((laidWorld os).forCall (fun _ _ => 0) ⟨#[], #[.agg #[.bool false, .string ⟨#[]⟩, .int .i64 0], .agg #[.bool false, .string ⟨#[]⟩, .int .i64 0]], []⟩).memory #[.agg #[.bool false, .string ⟨#[]⟩, .int .i64 0], .agg #[.bool false, .string ⟨#[]⟩, .int .i64 0]] := by
  have hw : (DataW.whole enc Tryd.prog ((laidWorld os).forCall (fun _ _ => 0) ⟨#[], #[.agg #[.bool false, .string ⟨#[]⟩, .int .i64 0], .agg #[.bool false, .string ⟨#[]⟩, .int .i64 0]], []⟩).memory Tryd.f3.params.toList Rows.fnExactAddDecSpec.vars false #[Value.agg #[.bool false, .string ⟨#[]⟩, .int .i64 0], Value.agg #[.bool false, .string ⟨#[]⟩, .int .i64 0]].toList 8).map (fun x => (x.1, x.2.1)) =
      some ([.agg [.lit (.bool false), .lit (.string []), .lit (.int .i64 0)], .agg [.lit (.bool false), .lit (.string []), .lit (.int .i64 0)]], []) := by kernel_rfl
  obtain ⟨⟨x1, x2, x3⟩, hx, hx1⟩ := Option.map_eq_some_iff.1 hw
  simp only [Prod.mk.injEq] at hx1
  obtain ⟨rfl, rfl⟩ := hx1
  exact OpenSpec.preRow_of_cond 8 hx (by kernel_rfl) (fun k hk => by cases hk) (by kernel_rfl) (laid_met os _)

set_option maxRecDepth 100000 in
set_option maxHeartbeats 2000000 in
theorem lifted (os : Os) (started : os.Started) (H : Type) (enc : TypeId × Value → H) (F : Stop.Interp) :
    ReturnsInHanded {} Tryd.checked os 3 .any ((OpenSpec.ofChange Rows.fnExactAddDecSpec).preRow enc Tryd.prog Tryd.f3 Rows.fnExactAddDecRow.domain false Rows.fnExactAddDecRow.laid) (((OpenSpec.ofChange Rows.fnExactAddDecSpec).at F).post enc Tryd.prog Tryd.f3 false true false false) := by
  refine returnsInHanded_of_row (C := Tryd.checked) (s := OpenSpec.ofChange Rows.fnExactAddDecSpec) own started (by kernel_rfl) Tryd.func3
    (witness_row_atRef (enc := enc) (C := Tryd.checked) false (laidWorld os) #[.agg #[.bool false, .string ⟨#[]⟩, .int .i64 0], .agg #[.bool false, .string ⟨#[]⟩, .int .i64 0]] rfl (by kernel_rfl) (by kernel_rfl) (by kernel_rfl) (witness_row os enc)) ?_
  intro W base args ds gs before hval0 hW _ _ _ hL hsh _
  have hval : ∀ (j : Nat) t v, Tryd.f3.params[j]? = some t → args[j]? = some v → Value.okWide Tryd.prog W .any base t v := hval0
  have hW' := hW
  obtain ⟨p, q, hA0, hV0, rfl, _, _⟩ := hW
  have hA : DataW.TrodAll enc Tryd.prog W 0 (fun _ => true) true Tryd.f3.params.toList args.toList ds p := hA0
  rw [Tryd.params3] at hA hval
  obtain ⟨v0, vs0, d0, ds0, p0, q0, hargs, rfl, rfl, h0, r0⟩ := trodAll_cons hA
  obtain ⟨v1, vs1, d1, ds1, p1, q1, hargs1, rfl, rfl, h1, r1⟩ := trodAll_cons r0
  obtain ⟨rfl, rfl, rfl⟩ := trodAll_nil r1
  subst hargs1
  obtain rfl : args = #[v0, v1] := by cases args; simp_all
  obtain ⟨rfl, rfl⟩ := trodVars_none hV0
  obtain ⟨x0, y0, z0, X0, Y0, Z0, m0, rfl, rfl, rfl, hx0, hy0, hz0⟩ := open_agg3 Tryd.underlying23 (by kernel_rfl) cellsT (hval 0 23 v0 rfl rfl) h0
  obtain ⟨n0, e0a, rfl⟩ := DataW.trod_bool Tryd.underlying4 hx0
  obtain ⟨s0, e0b, rfl, w0⟩ := DataW.trod_string Tryd.underlying9 hy0
  obtain ⟨c0, e0c, rfl, wc0⟩ := DataW.trod_int Tryd.underlying2 hz0
  simp at e0a e0b e0c
  subst e0a e0b e0c
  obtain ⟨x1, y1, z1, X1, Y1, Z1, m1, rfl, rfl, rfl, hx1, hy1, hz1⟩ := open_agg3 Tryd.underlying23 (by kernel_rfl) cellsT (hval 1 23 v1 rfl rfl) h1
  obtain ⟨n1, e1a, rfl⟩ := DataW.trod_bool Tryd.underlying4 hx1
  obtain ⟨s1, e1b, rfl, w1⟩ := DataW.trod_string Tryd.underlying9 hy1
  obtain ⟨c1, e1c, rfl, wc1⟩ := DataW.trod_int Tryd.underlying2 hz1
  simp at e1a e1b e1c
  subst e1a e1b e1c
  clear hA0 hV0 hval0
  refine (walk n0 s0 c0 w0 n1 s1 c1 w1 W hsh).mono ?_
  rintro e W' ⟨rfl, bel⟩
  exact ⟨_, rfl, _, _, _, [], _, [], hW', trodAll_mk1 (shut_bool Tryd.underlying4 _), (trodAll_cons_mk (structReads enc n0 s0 c0 w0 wc0 _ _) (trodAll_cons_mk (structReads enc n1 s1 c1 w1 wc1 _ _) trodAll_mk0)), rfl, bel.frame _, fun h => by cases h⟩

theorem said : Rows.FnExactAddDecSaid :=
  OpenClaim.holds_of_cond 3 Tryd.f3 rfl rfl rfl rfl rfl rfl rfl ⟨rfl, rfl, rfl, rfl, rfl⟩ rfl rfl rfl rfl rfl (by kernel_rfl) Tryd.func3 (by kernel_rfl)
    (of_decide_eq_true (by kernel_rfl)) (by unfold Func.isWrapper; first | (rw [if_pos (by decide +kernel)]; kernel_rfl) | (rw [if_neg (by decide +kernel)]; exact ⟨rfl, rfl⟩))
    (fun os started H enc _ F => by rw [OpenClaim.pre_eq_preRow]; exact lifted os started H enc F)

/-- No parameter wants a stand-in; the program's own looks are off. -/
theorem plain (f : FuncId) (fn : Func) (hf : Tryd.pinned.checked.prog.funcNamed "loop.example/g00262/laws.FnExactAddDec" = some f) (hfn : Tryd.pinned.checked.prog.funcs[f]? = some fn) :
    false = Tryd.pinned.checked.prog.looks [] ∧ ∀ (j : Nat) t, fn.params[j]? = some t → Tryd.pinned.checked.prog.wantsStandIn t = false := by
  obtain rfl : f = 3 := Option.some.inj ((show Tryd.prog.funcNamed "loop.example/g00262/laws.FnExactAddDec" = some 3 by kernel_rfl).symm.trans hf) |>.symm
  obtain rfl : fn = Tryd.f3 := (Option.some.inj (Tryd.func3.symm.trans hfn)).symm
  refine ⟨by kernel_rfl, fun j t ht => ?_⟩
  rw [Tryd.params3] at ht
  obtain rfl : t = 23 := by simpa using Array.mem_of_getElem? ht
  exact (show Tryd.prog.wantsStandIn 23 = false by kernel_rfl)
end Go.Proofs.YtdecdbkbaepkmadDoor.fnExactAddDec
namespace Go.Proofs.YtdecdbkbaepkmadDoor
theorem add_dec_proved : Rows.FnExactAddDecCardSaid :=
  Claim7.holds_tied_plain_at .later [] _ _ _ _ fnExactAddDec.said (fun _ h => by cases h) (by kernel_rfl) (fun _ h => by cases h) fnExactAddDec_row_tie rfl ⟨rfl, rfl⟩ (by kernel_rfl) rfl fnExactAddDec.plain (by kernel_rfl)
end Go.Proofs.YtdecdbkbaepkmadDoor
