/-
  The walk of the law over sums: it answers true, and nothing that was there is written.
-/
import Derived.Test.YtdecdbkbaepkmadDoorAddW
import Derived.Test.YtdecdbkbaepkmadDoorAddS
import Derived.Test.YtdecdbkbaepkmadDoorHeldTwo
import Derived.Test.YtdecdbkbaepkmadDoorEqDec
import Derived.Deep.DeepCutAuto
import Derived.Deep.RegionHeld3
import Derived.Deep.QuietTactic
import Derived.BigQuiet
namespace Go.Proofs.YtdecdbkbaepkmadDoor
open Go.RowKit
set_option linter.unusedSimpArgs false
set_option linter.unusedVariables false
theorem below_undrewN {n : Nat} {w wn : World} (h : Below (w.drewN n).heap.size (w.drewN n) wn) : Below w.heap.size w wn := ⟨h.os, h.tape, h.output, h.size, h.block⟩
set_option maxHeartbeats 8000000 in
/-- The walk: the law answers true, and nothing that was there is written. -/
theorem walk (n0 : Bool) (s0 : ByteArray) (c0 : Int) (w0 : s0.size ≤ maxLen) (n1 : Bool) (s1 : ByteArray) (c1 : Int) (w1 : s1.size ≤ maxLen) (w : World) (hsh : w.ShapedOpen Tryd.prog) :
    Calls Tryd.prog 3 #[.agg #[.bool n0, .string s0, .int .i64 c0], .agg #[.bool n1, .string s1, .int .i64 c1]] w fun e w' => e = .returned (.bool true) ∧ Below w.heap.size w w' := by
  have HS0 := hide w0
  have HS1 := hide w1
  unfold maxLen at w0 w1
  by_cases hbig : 1048576 < s0.size
  · go_enter Tryd.func3, Tryd.ntmps3
    go_wp2_with fail
    refine (l_szBig n0 s0 c0 _ _ HS0.out (by omega) (by omega) (by omega)).mono ?_
    rintro e v1 ⟨rfl, hb1⟩
    obtain ⟨hx1, hx2, hb⟩ := boxed_two hb1
    have HB := hide hb
    clear hb1 hx1 hx2 hb
    go_wp2
    go_ret
    exact ⟨rfl, HB.out⟩
  · by_cases hbig2 : 1048576 < s0.size + s1.size
    · go_enter Tryd.func3, Tryd.ntmps3
      go_wp2_with fail
      refine (l_szOk n0 s0 c0 _ _ HS0.out (by omega) (by omega) (by omega)).mono ?_
      rintro e v1 ⟨rfl, hb1⟩
      obtain ⟨hx1, hx2, hb⟩ := boxed_two hb1
      have HB := hide hb
      obtain ⟨l0, l1, l2, l3⟩ := hx2
      clear hb1 hx1 hb l0
      go_wp2_with fail
      refine (l_szBig n1 s1 c1 _ _ HS1.out (by omega) (by omega) (by omega)).mono ?_
      rintro e v2 ⟨rfl, hb2⟩
      have HB2 := hide (below_go HB.out hb2)
      clear hb2
      go_wp2
      go_ret
      exact ⟨rfl, HB2.out⟩
    · go_enter Tryd.func3, Tryd.ntmps3
      go_wp2_with fail
      refine (l_szOk n0 s0 c0 _ _ HS0.out (by omega) (by omega) (by omega)).mono ?_
      rintro e v1 ⟨rfl, hb1⟩
      obtain ⟨hx1, hx2, hb⟩ := boxed_two hb1
      have HBc := hide hb
      have HXa := hide hx1
      have HXb := hide hx2
      obtain ⟨l0, l1, l2, l3⟩ := hx2
      clear hb1 hx1 hb l0
      go_wp2_with fail
      refine (l_szOk n1 s1 c1 _ _ HS1.out (by omega) (by omega) (by omega)).mono ?_
      rintro e v2 ⟨rfl, hbn⟩
      replace HBc := hide (below_go HBc.out hbn)
      replace HXa := hide (boxed_go HXa.out hbn)
      replace HXb := hide (boxed_go HXb.out hbn)
      clear l1 l2 l3 hbn
      obtain ⟨k0, k1, k2, k3⟩ := HXa.out
      obtain ⟨l0, l1, l2, l3⟩ := HXb.out
      clear k0 l0
      have hTQ : TQ w v2 w.heap.size n0 s0 c0 n1 s1 c1 n0 s0 c0 := ⟨HXa.out, HXb.out, HXa.out, HBc.out⟩
      have HTQ := hide hTQ
      obtain ⟨R, hR⟩ : ∃ R, addB n0 s0 c0 n1 s1 c1 = R := ⟨_, rfl⟩
      have ER := hide hR
      obtain ⟨n9, s9, c9, o9⟩ := R
      have hres : Hid (resV (n9, s9, c9, o9) = .tuple #[.agg #[.bool n9, .string s9, .int .i64 c9], .bool o9]) := hide rfl
      have hS0 := tq_all (tq_drew hTQ)
      clear hR hTQ k1 k2 k3 l1 l2 l3 HXa HXb HBc
      go_wp2_with fail
      go_cut [6, 7] (fun v6 v7 wx => ∃ q, v6 = .pointer (some ⟨q, 0, none⟩) ∧ v7 = .bool o9 ∧ TQ w wx q n0 s0 c0 n1 s1 c1 n9 s9 c9)
      case first =>
        go_region_held3 (fun w' => TQ w w' w.heap.size n0 s0 c0 n1 s1 c1 n0 s0 c0 ∧ w'.cell? ⟨w.heap.size, 0, none⟩ = some (.bool n0) ∧ w'.cell? ⟨w.heap.size, 1, none⟩ = some (.string s0) ∧ w'.cell? ⟨w.heap.size, 2, none⟩ = some (.int .i64 c0) ∧ w'.cell? ⟨w.heap.size + 1, 0, none⟩ = some (.bool n1) ∧ w'.cell? ⟨w.heap.size + 1, 1, none⟩ = some (.string s1) ∧ w'.cell? ⟨w.heap.size + 1, 2, none⟩ = some (.int .i64 c1)) (first | assumption | exact tq_all (tq_set HTW.out HF.out _ _ _) | exact tq_all (tq_alloc HTW.out _) | exact tq_all (tq_alloc (And.left (by assumption)) _) | exact tq_all (tq_go (And.left (by assumption)) hbn)) (first | (go_at_call 6; refine (l_to _ _ _ _).mono ?_; rintro e wn ⟨rfl, hbn⟩; (first | (have HF := hide (fr_at HTW.out hbn)) | (have HF := hide (fr_drew HTQ.out hbn)) | (replace HF := hide (fr_go HF.out hbn)) | skip); (have HTW := hide (tq_go (And.left (by assumption)) hbn))) | (go_at_call 5; refine (s_add _ _ _ _ _ _ _ HS0.out HS1.out).mono ?_; rintro e wn ⟨rfl, hbn⟩; rw [ER.out, hres.out]; (first | (have HF := hide (fr_at HTW.out hbn)) | (have HF := hide (fr_drew HTQ.out hbn)) | (replace HF := hide (fr_go HF.out hbn)) | skip); (have HTW := hide (tq_go (And.left (by assumption)) hbn)); (first | (have hcl := heldN_cells HF.out.1; obtain ⟨⟨r1, r2, r3⟩, g1, g2, g3⟩ := hcl) | skip)))
        all_goals
          go_wp2_with fail
          go_meet
          exact ⟨_, rfl, rfl, by first | exact tq_new2 HTW.out HF.out n9 s9 c9 | exact tq_new1 HTW.out n9 s9 c9 _⟩
      case rest =>
        obtain ⟨q, rfl, rfl, htq⟩ := hcut
        clear HTQ hS0
        have HTQ := hide htq
        have hS0 := tq_all (tq_drew htq)
        clear htq
        go_wp2_with fail
        go_cut [8, 9] (fun v8 v9 wx => ∃ p, v8 = .pointer (some ⟨p, 0, none⟩) ∧ v9 = .bool o9 ∧ TQ w wx q n0 s0 c0 n1 s1 c1 n9 s9 c9 ∧ Boxed wx p n9 s9 c9)
        case first =>
          go_region_held3 (fun w' => TQ w w' q n0 s0 c0 n1 s1 c1 n9 s9 c9 ∧ w'.cell? ⟨w.heap.size, 0, none⟩ = some (.bool n0) ∧ w'.cell? ⟨w.heap.size, 1, none⟩ = some (.string s0) ∧ w'.cell? ⟨w.heap.size, 2, none⟩ = some (.int .i64 c0) ∧ w'.cell? ⟨w.heap.size + 1, 0, none⟩ = some (.bool n1) ∧ w'.cell? ⟨w.heap.size + 1, 1, none⟩ = some (.string s1) ∧ w'.cell? ⟨w.heap.size + 1, 2, none⟩ = some (.int .i64 c1)) (first | assumption | exact tq_all (tq_set HTW.out HF.out _ _ _) | exact tq_all (tq_alloc HTW.out _) | exact tq_all (tq_alloc (And.left (by assumption)) _) | exact tq_all (tq_go (And.left (by assumption)) hbn)) (first | (go_at_call 6; refine (l_to _ _ _ _).mono ?_; rintro e wn ⟨rfl, hbn⟩; (first | (have HF := hide (fr_at HTW.out hbn)) | (have HF := hide (fr_drew HTQ.out hbn)) | (replace HF := hide (fr_go HF.out hbn)) | skip); (have HTW := hide (tq_go (And.left (by assumption)) hbn))) | (go_at_call 7; refine (i_add _ _ _ _ _ _ _ HS0.out HS1.out).mono ?_; rintro e wn ⟨rfl, hbn⟩; rw [ER.out, hres.out]; (first | (have HF := hide (fr_at HTW.out hbn)) | (have HF := hide (fr_drew HTQ.out hbn)) | (replace HF := hide (fr_go HF.out hbn)) | skip); (have HTW := hide (tq_go (And.left (by assumption)) hbn)); (first | (have hcl := heldN_cells HF.out.1; obtain ⟨⟨r1, r2, r3⟩, g1, g2, g3⟩ := hcl) | skip)))
          all_goals
            go_wp2_with fail
            go_meet
            exact ⟨_, rfl, rfl, by first | exact tq_set HTW.out HF.out _ _ _ | exact tq_alloc HTW.out _, by first | exact (tq_new2 HTW.out HF.out n9 s9 c9).2.2.1 | exact (tq_new1 HTW.out n9 s9 c9 _).2.2.1⟩
        case rest =>
          obtain ⟨p, rfl, rfl, htq, hbp⟩ := hcut
          clear HTQ hS0
          have HTQ := hide htq
          obtain ⟨k0, k1, k2, k3⟩ := htq.2.2.1
          obtain ⟨l0, l1, l2, l3⟩ := hbp
          clear htq k0 l0
          go_wp2_with fail
          try go_quiet (fail)
          try go_wp2_with fail
          refine (l_eq n9 s9 c9 _).mono ?_
          rintro e w5 ⟨rfl, hb5⟩
          (first | replace hb5 := below_undrewN hb5 | skip)
          have HB5 := hide (below_go HTQ.out.2.2.2 hb5)
          clear hb5
          go_wp2
          go_ret
          exact ⟨rfl, HB5.out⟩
end Go.Proofs.YtdecdbkbaepkmadDoor
