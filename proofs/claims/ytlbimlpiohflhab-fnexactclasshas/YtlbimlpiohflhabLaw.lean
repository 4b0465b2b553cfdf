/-
  Proved: for every node, whatever its fields and ranges, and every number the call of FnExactClassHas returns true and the arguments read as they did (the program's ClassHas answers as the specification's). No condition is laid.
-/
import Derived.Test.YtlbimlpiohflhabRows
import Derived.Test.YtlbimlpiohflhabClassW
import Derived.Test.YtlbimlpiohflhabJoins7
import Derived.WalkKit
import Derived.ProofKit
import Derived.OpenShut
import Derived.ShutString
import Derived.Below
import Derived.Lib.SmallJoins
import Derived.OpenVars
namespace Go.Proofs.Ytlbimlpiohflhab.fnExactClassHas
open Go.ChangeShapes Go.WideShapes Go.ChangeAt Go.RowKit Go.Joins
open Go.ChangeMaps (open_string shut_string)
set_option linter.unusedVariables false
set_option linter.unusedSimpArgs false
theorem laidOut : laidOutB Try.prog = true := by kernel_rfl
theorem own : ownKnob Try.prog.godebug = none := by kernel_rfl
set_option maxRecDepth 100000 in
theorem lifted (os : Os) (started : os.Started) (H : Type) (enc : TypeId × Value → H) :
    ReturnsInHanded {} Try.checked os 3 .any (Rows.fnExactClassHasSpec.pre6 enc Try.prog Try.f3 Rows.fnExactClassHasRow.domain false) (Rows.fnExactClassHasSpec.post enc Try.prog Try.f3 false true false false) := by
  refine returnsInHanded_of_change (C := Try.checked) own started (by kernel_rfl) Try.func3
    (ChangeSpec.witness6 (enc := enc) (C := Try.checked) false ⟨#[], #[.agg #[.int .i64 0, .bool false, .slice none 0 0, .int .i64 0, .int .i64 0, .int .i64 0, .int .i64 0], .int .i64 0], []⟩ 8 (by kernel_rfl) (by kernel_rfl) (by kernel_rfl) (by kernel_rfl)) ?_
  intro W base args ds gs before hval0 hW hcnd _
  have hval : ∀ (j : Nat) t v, Try.f3.params[j]? = some t → args[j]? = some v → Value.okWide Try.prog W .any base t v := hval0
  have hW' := hW
  obtain ⟨p, q, hA0, hV, rfl, hfz, hnd⟩ := hW
  have hA : DataW.TrodAll enc Try.prog W 0 (fun _ => true) true Try.f3.params.toList args.toList ds p := hA0
  rw [Try.params3] at hA hval
  obtain ⟨v0, vs0, d0, ds0, p0, q0, hargs, rfl, rfl, h0, r0⟩ := trodAll_cons hA
  obtain ⟨v1, vs1, d1, ds1, p1, q1, hargs1, rfl, rfl, h1, r1⟩ := trodAll_cons r0
  obtain ⟨rfl, rfl, rfl⟩ := trodAll_nil r1
  subst hargs1
  obtain rfl : args = #[v0, v1] := by cases args; simp_all
  obtain ⟨rfl, rfl⟩ := trodVars_none hV
  have k0 := h0
  have lt0 : ∀ x ∈ p0, x.block < W.heap.size := by obtain ⟨mm, hmm⟩ := k0; exact DataW.trod_lt mm _ _ _ hmm
  have k1 := h1
  have lt1 : ∀ x ∈ p1, x.block < W.heap.size := by obtain ⟨mm, hmm⟩ := k1; exact DataW.trod_lt mm _ _ _ hmm
  obtain ⟨x0_0, x0_1, x0_2, x0_3, x0_4, x0_5, x0_6, y0_0, y0_1, y0_2, y0_3, y0_4, y0_5, y0_6, nn0, rfl, hd0, hx0_0, hx0_1, hx0_2, hx0_3, hx0_4, hx0_5, hx0_6⟩ := open_agg7 Try.underlying24 (by kernel_rfl) (by kernel_rfl) (hval 0 24 v0 rfl rfl) h0
  obtain ⟨f0_0, e0_0, rfl, wf0_0⟩ := DataW.trod_int Try.underlying2 hx0_0
  simp at e0_0
  subst e0_0
  obtain ⟨f0_1, e0_1, rfl⟩ := DataW.trod_bool Try.underlying4 hx0_1
  simp at e0_1
  subst e0_1
  obtain ⟨a0, n0, c0, L0, H0, rfl, wn0, wr0⟩ := rng_of Try.underlying22 Try.underlying42 (by kernel_rfl) rfl rfl (by kernel_rfl) (by kernel_rfl) Try.underlying2 Try.underlying2 hx0_2
  obtain ⟨f0_3, e0_3, rfl, wf0_3⟩ := DataW.trod_int Try.underlying2 hx0_3
  simp at e0_3
  subst e0_3
  obtain ⟨f0_4, e0_4, rfl, wf0_4⟩ := DataW.trod_int Try.underlying2 hx0_4
  simp at e0_4
  subst e0_4
  obtain ⟨f0_5, e0_5, rfl, wf0_5⟩ := DataW.trod_int Try.underlying2 hx0_5
  simp at e0_5
  subst e0_5
  obtain ⟨f0_6, e0_6, rfl, wf0_6⟩ := DataW.trod_int Try.underlying2 hx0_6
  simp at e0_6
  subst e0_6
  subst hd0
  obtain ⟨z1, rfl, rfl, rfl, wf1⟩ := open_int Try.underlying2 (hval 1 2 v1 rfl rfl) h1
  clear hA0 hval0
  simp only [List.append_nil] at hW'
  refine (cls_walk f0_0 f0_1 a0 n0 c0 f0_3 f0_4 f0_5 f0_6 L0 H0 z1 W wn0 wr0).mono fun e W' ⟨he, bel⟩ => ?_
  subst he
  exact ⟨_, rfl, _, _, _, [], _, [], hW', trodAll_mk1 (shut_bool Try.underlying4 _), (trodAll_cons_mk (Below.trod laidOut (by kernel_rfl) (of_decide_eq_true (by kernel_rfl)) k0 bel lt0) (trodAll_cons_mk (Below.trod laidOut (by kernel_rfl) (of_decide_eq_true (by kernel_rfl)) k1 bel lt1) trodAll_mk0)), rfl, bel.frame _, fun h => by cases h⟩

theorem over : Rows.fnExactClassHasRow.holds Try.pinned (OpenSpec.ofChange Rows.fnExactClassHasSpec) :=
  OpenClaim.holds_of_wide 3 Try.f3 rfl rfl rfl rfl rfl rfl rfl ⟨rfl, rfl, rfl, rfl, rfl⟩ rfl rfl rfl rfl rfl (by kernel_rfl) Try.func3 (by kernel_rfl)
    (of_decide_eq_true (by kernel_rfl)) (by unfold Func.isWrapper; first | (rw [if_pos (by decide +kernel)]; kernel_rfl) | (rw [if_neg (by decide +kernel)]; exact ⟨rfl, rfl⟩))
    (fun os started H enc _ => lifted os started H enc)

end Go.Proofs.Ytlbimlpiohflhab.fnExactClassHas
namespace Go.Proofs.Ytlbimlpiohflhab
theorem class_has_proved : Rows.FnExactClassHasSaid := fnExactClassHas.over
end Go.Proofs.Ytlbimlpiohflhab
