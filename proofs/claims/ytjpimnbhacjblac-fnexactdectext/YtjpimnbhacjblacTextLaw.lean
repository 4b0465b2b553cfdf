/-
  Proved: for every number the call of FnExactDecText returns true and the argument reads as it did (the program's DecText answers as the specification's at every number whose digits are at most 1048576 bytes; the law passes longer ones by). No condition is laid.
-/
import Derived.Test.YtjpimnbhacjblacRows
import Derived.Test.YtjpimnbhacjblacTextI
import Derived.WalkKit
import Derived.ProofKit
import Derived.OpenShut
import Derived.ShutString
import Derived.Below
import Derived.Lib.SmallJoins
namespace Go.Proofs.Ytjpimnbhacjblac.fnExactDecText
open Go.ChangeShapes Go.WideShapes Go.ChangeAt Go.RowKit Go.Joins
open Go.ChangeMaps (open_string shut_string)
set_option linter.unusedVariables false
set_option linter.unusedSimpArgs false

theorem own : ownKnob Try.prog.godebug = none := by kernel_rfl
theorem cellsT : Try.prog.cellsOf 23 = 3 := by kernel_rfl
set_option maxHeartbeats 2000000 in
theorem walk (n0 : Bool) (s0 : ByteArray) (c0 : Int) (w0 : s0.size ≤ maxLen) (w : World) :
    Calls Try.prog 3 #[.agg #[.bool n0, .string s0, .int .i64 c0]] w fun e w' => e = .returned (.bool true) ∧ Below w.heap.size w w' := by
  have HS := hide w0
  unfold maxLen at w0
  by_cases hbig : 1048576 < s0.size
  · go_enter Try.func3, Try.ntmps3
    go_wp2_with fail
    refine (l_szBig n0 s0 c0 _ _ HS.out (by omega) (by omega) (by omega)).mono ?_
    rintro e w1 ⟨rfl, hb1⟩
    have HB1 := hide (box_below hb1)
    clear hb1
    go_wp2
    go_ret
    exact ⟨rfl, HB1.out⟩
  · go_enter Try.func3, Try.ntmps3
    go_wp2_with fail
    refine (l_szOk n0 s0 c0 _ _ HS.out (by omega) (by omega) (by omega)).mono ?_
    rintro e w1 ⟨rfl, hb1⟩
    have HB1 := hide (box_below hb1)
    have hx1 := boxed_go (boxed_new w n0 s0 c0 _) hb1
    have HX1 := hide hx1
    obtain ⟨k0, k1, k2, k3⟩ := hx1
    clear hb1 k0
    go_wp2_with fail
    refine (l_to n0 s0 c0 _).mono ?_
    rintro e w2 ⟨rfl, hb2⟩
    have HB2 := hide (below_go HB1.out hb2)
    have HX2 := hide (boxed_go HX1.out hb2)
    clear hb2 k1 k2 k3
    go_wp2_with fail
    refine (s_text4 n0 s0 c0 _ HS.out).mono ?_
    rintro e w3 ⟨rfl, hb3⟩
    have HB3 := hide (below_go HB2.out hb3)
    have hx3 := boxed_go HX2.out hb3
    have HX3 := hide hx3
    obtain ⟨k0, k1, k2, k3⟩ := hx3
    clear hb3 k0
    go_wp2_with fail
    refine (l_to n0 s0 c0 _).mono ?_
    rintro e w4 ⟨rfl, hb4⟩
    have HB4 := hide (below_go HB3.out hb4)
    clear hb4 k1 k2 k3
    go_wp2_with fail
    refine (i_text4 n0 s0 c0 _ HS.out).mono ?_
    rintro e w5 ⟨rfl, hb5⟩
    have HB5 := hide (below_go HB4.out hb5)
    clear hb5
    go_wp2
    go_ret
    exact ⟨rfl, HB5.out⟩

theorem structReads {H : Type} (enc : TypeId × Value → H) (n : Bool) (b : ByteArray) (c : Int) (hb : b.size ≤ maxLen) (hc : (Lit.int .i64 c).wf = true) : ∀ (W' : World) (sp : Nat → Bool), DataW.Trod enc Try.prog W' 0 sp true 23 (.agg #[.bool n, .string b, .int .i64 c]) (.agg [.lit (.bool n), .lit (.string b.data.toList), .lit (.int .i64 c)]) [] := fun W' sp =>
  shut_agg3 (y0 := (.lit (.bool n), [])) (y1 := (.lit (.string b.data.toList), [])) (y2 := (.lit (.int .i64 c), [])) Try.underlying23 (by kernel_rfl) cellsT ⟨1, by simp [DataW.trod, Try.underlying4]⟩ ⟨1, by simp [DataW.trod, Try.underlying9, hb]⟩ ⟨1, by simp [DataW.trod, Try.underlying2, hc]⟩
set_option maxRecDepth 100000 in
theorem lifted (os : Os) (started : os.Started) (H : Type) (enc : TypeId × Value → H) :
    ReturnsInHanded {} Try.checked os 3 .any (Rows.fnExactDecTextSpec.pre6 enc Try.prog Try.f3 Rows.fnExactDecTextRow.domain false) (Rows.fnExactDecTextSpec.post enc Try.prog Try.f3 false true false false) := by
  refine returnsInHanded_of_change (C := Try.checked) own started (by kernel_rfl) Try.func3
    (ChangeSpec.witness6 (enc := enc) (C := Try.checked) false ⟨#[], #[.agg #[.bool false, .string ByteArray.empty, .int .i64 0]], []⟩ 8 (by kernel_rfl) (by kernel_rfl) (by kernel_rfl) (by kernel_rfl)) ?_
  intro W base args ds gs before hval0 hW hcnd _
  have hval : ∀ (j : Nat) t v, Try.f3.params[j]? = some t → args[j]? = some v → Value.okWide Try.prog W .any base t v := hval0
  have hW' := hW
  obtain ⟨p, q, hA0, hV, rfl, hfz, hnd⟩ := hW
  have hA : DataW.TrodAll enc Try.prog W 0 (fun _ => true) true Try.f3.params.toList args.toList ds p := hA0
  rw [Try.params3] at hA hval
  obtain ⟨v0, vs0, d0, ds0, p0, q0, hargs, rfl, rfl, h0, r0⟩ := trodAll_cons hA
  obtain ⟨rfl, rfl, rfl⟩ := trodAll_nil r0
  obtain rfl : args = #[v0] := by cases args; simp_all
  obtain ⟨rfl, rfl⟩ := trodVars_none hV
  obtain ⟨x0, y0, z0, X0, Y0, Z0, m0, rfl, rfl, rfl, hx0, hy0, hz0⟩ := open_agg3 Try.underlying23 (by kernel_rfl) cellsT (hval 0 23 v0 rfl rfl) h0
  obtain ⟨n0, e0a, rfl⟩ := DataW.trod_bool Try.underlying4 hx0
  obtain ⟨s0, e0b, rfl, w0⟩ := DataW.trod_string Try.underlying9 hy0
  obtain ⟨c0, e0c, rfl, wc0⟩ := DataW.trod_int Try.underlying2 hz0
  simp at e0a e0b e0c
  subst e0a e0b e0c
  clear hA0 hval0
  simp only [List.append_nil] at hW'
  refine (walk n0 s0 c0 w0 W).mono fun e W' ⟨he, hg⟩ => ?_
  subst he
  exact ⟨_, rfl, _, _, _, [], _, [], hW', trodAll_mk1 (shut_bool Try.underlying4 _), (trodAll_cons_mk (structReads enc n0 s0 c0 w0 wc0 _ _) trodAll_mk0), rfl, hg.frame _, fun h => by cases h⟩

theorem over : Rows.fnExactDecTextRow.holds Try.pinned (OpenSpec.ofChange Rows.fnExactDecTextSpec) :=
  OpenClaim.holds_of_wide 3 Try.f3 rfl rfl rfl rfl rfl rfl rfl ⟨rfl, rfl, rfl, rfl, rfl⟩ rfl rfl rfl rfl rfl (by kernel_rfl) Try.func3 (by kernel_rfl)
    (of_decide_eq_true (by kernel_rfl)) (by unfold Func.isWrapper; first | (rw [if_pos (by decide +kernel)]; kernel_rfl) | (rw [if_neg (by decide +kernel)]; exact ⟨rfl, rfl⟩))
    (fun os started H enc _ => lifted os started H enc)

end Go.Proofs.Ytjpimnbhacjblac.fnExactDecText
namespace Go.Proofs.Ytjpimnbhacjblac
theorem dec_text_proved : Rows.FnExactDecTextSaid := fnExactDecText.over
end Go.Proofs.Ytjpimnbhacjblac
