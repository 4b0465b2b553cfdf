/-
  Proved: for every two numbers the call of FnExactCompareDec returns true and the arguments read as they did (the program's CompareDec answers as the specification's at all numbers whose digits together are at most 1048576 bytes; the law passes longer ones by). No condition is laid.
-/
import Derived.Test.YtjpimnbhacjbladRows
import Derived.Test.YtjpimnbhacjbladCmpLaw0
import Derived.WalkKit
import Derived.ProofKit
import Derived.OpenShut
import Derived.ShutString
import Derived.Below
import Derived.Lib.SmallJoins
import Derived.Deep.DeepCutAuto
namespace Go.Proofs.Ytjpimnbhacjblad.fnExactCompareDec
open Go.ChangeShapes Go.WideShapes Go.ChangeAt Go.RowKit Go.Joins
open Go.ChangeMaps (open_string shut_string)
set_option linter.unusedVariables false
set_option linter.unusedSimpArgs false

theorem own : ownKnob Try.prog.godebug = none := by kernel_rfl
theorem cellsT : Try.prog.cellsOf 23 = 3 := by kernel_rfl
set_option maxHeartbeats 2000000 in
theorem walk (n0 : Bool) (s0 : ByteArray) (c0 : Int) (w0 : s0.size ≤ maxLen) (n1 : Bool) (s1 : ByteArray) (c1 : Int) (w1 : s1.size ≤ maxLen) (w : World) :
    Calls Try.prog 3 #[.agg #[.bool n0, .string s0, .int .i64 c0], .agg #[.bool n1, .string s1, .int .i64 c1]] w fun e w' => e = .returned (.bool true) ∧ Below w.heap.size w w' := by
  have HS0 := hide w0
  have HS1 := hide w1
  unfold maxLen at w0 w1
  by_cases hbig : 1048576 < s0.size
  · go_enter Try.func3, Try.ntmps3
    go_wp2_with fail
    refine (l_szBig n0 s0 c0 _ _ HS0.out (by omega) (by omega) (by omega)).mono ?_
    rintro e v1 ⟨rfl, hb1⟩
    obtain ⟨hx1, hx2, hb⟩ := boxed_two hb1
    have HB := hide hb
    clear hb1 hx1 hx2 hb
    go_wp2
    go_ret
    exact ⟨rfl, HB.out⟩
  · by_cases hbig2 : 1048576 < s0.size + s1.size
    · go_enter Try.func3, Try.ntmps3
      go_wp2_with fail
      refine (l_szOk n0 s0 c0 _ _ HS0.out (by omega) (by omega) (by omega)).mono ?_
      rintro e v1 ⟨rfl, hb1⟩
      obtain ⟨hx1, hx2, hb⟩ := boxed_two hb1
      have HB := hide hb
      obtain ⟨l0, l1, l2, l3⟩ := hx2
      clear hb1 hx1 hb l0
      go_wp2_with fail
      refine (l_szBig n1 s1 c1 _ _ HS1.out (by omega) (by omega) (by omega)).mono ?_
      rintro e v2 ⟨rfl, hb2⟩
      have HB2 := hide (below_go HB.out hb2)
      clear hb2
      go_wp2
      go_ret
      exact ⟨rfl, HB2.out⟩
    · go_enter Try.func3, Try.ntmps3
      go_wp2_with fail
      refine (l_szOk n0 s0 c0 _ _ HS0.out (by omega) (by omega) (by omega)).mono ?_
      rintro e v1 ⟨rfl, hb1⟩
      obtain ⟨hx1, hx2, hb⟩ := boxed_two hb1
      have HBc := hide hb
      have HXa := hide hx1
      have HXb := hide hx2
      obtain ⟨l0, l1, l2, l3⟩ := hx2
      clear hb1 hx1 hb l0
      go_wp2_with fail
      refine (l_szOk n1 s1 c1 _ _ HS1.out (by omega) (by omega) (by omega)).mono ?_
      rintro e v2 ⟨rfl, hbn⟩
      replace HBc := hide (below_go HBc.out hbn)
      replace HXa := hide (boxed_go HXa.out hbn)
      replace HXb := hide (boxed_go HXb.out hbn)
      clear l1 l2 l3 hbn
      obtain ⟨k0, k1, k2, k3⟩ := HXa.out
      obtain ⟨l0, l1, l2, l3⟩ := HXb.out
      clear k0 l0
      go_wp2
      go_cut [6] (fun v wx => v = .int .i64 (cmpB n0 s0 c0 n1 s1 c1) ∧ Below w.heap.size w wx ∧ Boxed wx w.heap.size n0 s0 c0 ∧ Boxed wx (w.heap.size + 1) n1 s1 c1)
      case first =>
        go_region_with (first | (go_at_call 6; refine (l_to _ _ _ _).mono ?_; rintro e wn ⟨rfl, hbn⟩; (first | replace hbn := below_drew1 hbn | skip); replace HBc := hide (below_go HBc.out hbn); replace HXa := hide (boxed_go HXa.out hbn); replace HXb := hide (boxed_go HXb.out hbn); clear k1 k2 k3 l1 l2 l3 hbn; obtain ⟨k0, k1, k2, k3⟩ := HXa.out; obtain ⟨l0, l1, l2, l3⟩ := HXb.out; clear k0 l0) | (go_at_call 5; refine (s_cmp _ _ _ _ _ _ _ HS0.out HS1.out).mono ?_; rintro e wn ⟨rfl, hbn⟩; (first | replace hbn := below_drew1 hbn | skip); replace HBc := hide (below_go HBc.out hbn); replace HXa := hide (boxed_go HXa.out hbn); replace HXb := hide (boxed_go HXb.out hbn); clear k1 k2 k3 l1 l2 l3 hbn; obtain ⟨k0, k1, k2, k3⟩ := HXa.out; obtain ⟨l0, l1, l2, l3⟩ := HXb.out; clear k0 l0))
        all_goals
          go_wp2_with fail
          go_meet
          exact ⟨rfl, HBc.out, HXa.out, HXb.out⟩
      case rest =>
        obtain ⟨rfl, hb, hx1, hx2⟩ := hcut
        clear k1 k2 k3 l1 l2 l3 HBc HXa HXb
        have HBc := hide hb
        have HXa := hide hx1
        have HXb := hide hx2
        obtain ⟨k0, k1, k2, k3⟩ := hx1
        obtain ⟨l0, l1, l2, l3⟩ := hx2
        clear k0 l0 hb
        go_wp2
        go_region_with (first | (go_at_call 6; refine (l_to _ _ _ _).mono ?_; rintro e wn ⟨rfl, hbn⟩; (first | replace hbn := below_drew1 hbn | skip); replace HBc := hide (below_go HBc.out hbn); replace HXa := hide (boxed_go HXa.out hbn); replace HXb := hide (boxed_go HXb.out hbn); clear k1 k2 k3 l1 l2 l3 hbn; obtain ⟨k0, k1, k2, k3⟩ := HXa.out; obtain ⟨l0, l1, l2, l3⟩ := HXb.out; clear k0 l0) | (go_at_call 7; refine (i_cmp _ _ _ _ _ _ _ HS0.out HS1.out).mono ?_; rintro e wn ⟨rfl, hbn⟩; (first | replace hbn := below_drew1 hbn | skip); replace HBc := hide (below_go HBc.out hbn); replace HXa := hide (boxed_go HXa.out hbn); replace HXb := hide (boxed_go HXb.out hbn); clear k1 k2 k3 l1 l2 l3 hbn; obtain ⟨k0, k1, k2, k3⟩ := HXa.out; obtain ⟨l0, l1, l2, l3⟩ := HXb.out; clear k0 l0))
        all_goals
          go_wp2
          go_ret
          exact ⟨rfl, HBc.out⟩

theorem structReads {H : Type} (enc : TypeId × Value → H) (n : Bool) (b : ByteArray) (c : Int) (hb : b.size ≤ maxLen) (hc : (Lit.int .i64 c).wf = true) : ∀ (W' : World) (sp : Nat → Bool), DataW.Trod enc Try.prog W' 0 sp true 23 (.agg #[.bool n, .string b, .int .i64 c]) (.agg [.lit (.bool n), .lit (.string b.data.toList), .lit (.int .i64 c)]) [] := fun W' sp =>
  shut_agg3 (y0 := (.lit (.bool n), [])) (y1 := (.lit (.string b.data.toList), [])) (y2 := (.lit (.int .i64 c), [])) Try.underlying23 (by kernel_rfl) cellsT ⟨1, by simp [DataW.trod, Try.underlying4]⟩ ⟨1, by simp [DataW.trod, Try.underlying9, hb]⟩ ⟨1, by simp [DataW.trod, Try.underlying2, hc]⟩
set_option maxRecDepth 100000 in
theorem lifted (os : Os) (started : os.Started) (H : Type) (enc : TypeId × Value → H) :
    ReturnsInHanded {} Try.checked os 3 .any (Rows.fnExactCompareDecSpec.pre6 enc Try.prog Try.f3 Rows.fnExactCompareDecRow.domain false) (Rows.fnExactCompareDecSpec.post enc Try.prog Try.f3 false true false false) := by
  refine returnsInHanded_of_change (C := Try.checked) own started (by kernel_rfl) Try.func3
    (ChangeSpec.witness6 (enc := enc) (C := Try.checked) false ⟨#[], #[.agg #[.bool false, .string ByteArray.empty, .int .i64 0], .agg #[.bool false, .string ByteArray.empty, .int .i64 0]], []⟩ 8 (by kernel_rfl) (by kernel_rfl) (by kernel_rfl) (by kernel_rfl)) ?_
  intro W base args ds gs before hval0 hW hcnd _
  have hval : ∀ (j : Nat) t v, Try.f3.params[j]? = some t → args[j]? = some v → Value.okWide Try.prog W .any base t v := hval0
  have hW' := hW
  obtain ⟨p, q, hA0, hV, rfl, hfz, hnd⟩ := hW
  have hA : DataW.TrodAll enc Try.prog W 0 (fun _ => true) true Try.f3.params.toList args.toList ds p := hA0
  rw [Try.params3] at hA hval
  obtain ⟨v0, vs0, d0, ds0, p0, q0, hargs, rfl, rfl, h0, r0⟩ := trodAll_cons hA
  obtain ⟨v1, vs1, d1, ds1, p1, q1, hargs1, rfl, rfl, h1, r1⟩ := trodAll_cons r0
  obtain ⟨rfl, rfl, rfl⟩ := trodAll_nil r1
  subst hargs1
  obtain rfl : args = #[v0, v1] := by cases args; simp_all
  obtain ⟨rfl, rfl⟩ := trodVars_none hV
  obtain ⟨x0, y0, z0, X0, Y0, Z0, m0, rfl, rfl, rfl, hx0, hy0, hz0⟩ := open_agg3 Try.underlying23 (by kernel_rfl) cellsT (hval 0 23 v0 rfl rfl) h0
  obtain ⟨n0, e0a, rfl⟩ := DataW.trod_bool Try.underlying4 hx0
  obtain ⟨s0, e0b, rfl, w0⟩ := DataW.trod_string Try.underlying9 hy0
  obtain ⟨c0, e0c, rfl, wc0⟩ := DataW.trod_int Try.underlying2 hz0
  simp at e0a e0b e0c
  subst e0a e0b e0c
  obtain ⟨x1, y1, z1, X1, Y1, Z1, m1, rfl, rfl, rfl, hx1, hy1, hz1⟩ := open_agg3 Try.underlying23 (by kernel_rfl) cellsT (hval 1 23 v1 rfl rfl) h1
  obtain ⟨n1, e1a, rfl⟩ := DataW.trod_bool Try.underlying4 hx1
  obtain ⟨s1, e1b, rfl, w1⟩ := DataW.trod_string Try.underlying9 hy1
  obtain ⟨c1, e1c, rfl, wc1⟩ := DataW.trod_int Try.underlying2 hz1
  simp at e1a e1b e1c
  subst e1a e1b e1c
  clear hA0 hval0
  simp only [List.append_nil] at hW'
  refine (walk n0 s0 c0 w0 n1 s1 c1 w1 W).mono fun e W' ⟨he, hg⟩ => ?_
  subst he
  exact ⟨_, rfl, _, _, _, [], _, [], hW', trodAll_mk1 (shut_bool Try.underlying4 _), (trodAll_cons_mk (structReads enc n0 s0 c0 w0 wc0 _ _) (trodAll_cons_mk (structReads enc n1 s1 c1 w1 wc1 _ _) trodAll_mk0)), rfl, hg.frame _, fun h => by cases h⟩

theorem over : Rows.fnExactCompareDecRow.holds Try.pinned (OpenSpec.ofChange Rows.fnExactCompareDecSpec) :=
  OpenClaim.holds_of_wide 3 Try.f3 rfl rfl rfl rfl rfl rfl rfl ⟨rfl, rfl, rfl, rfl, rfl⟩ rfl rfl rfl rfl rfl (by kernel_rfl) Try.func3 (by kernel_rfl)
    (of_decide_eq_true (by kernel_rfl)) (by unfold Func.isWrapper; first | (rw [if_pos (by decide +kernel)]; kernel_rfl) | (rw [if_neg (by decide +kernel)]; exact ⟨rfl, rfl⟩))
    (fun os started H enc _ => lifted os started H enc)

end Go.Proofs.Ytjpimnbhacjblad.fnExactCompareDec
namespace Go.Proofs.Ytjpimnbhacjblad
theorem compare_dec_proved : Rows.FnExactCompareDecSaid := fnExactCompareDec.over
end Go.Proofs.Ytjpimnbhacjblad
