/-
  Proved: for every string the call of FnExactRunes returns true and the argument reads as it did (the program's Runes answers as the specification's at every text of at most 1048576 bytes, in memory of its own; the law passes longer ones by). The row lists two tables of the library's; the card ties them to the program's text; no other condition is laid.
-/
import Derived.Test.YtkfgofomgcemcaaDoorCards
import Derived.Test.YtkfgofomgcemcaaDoorTie
import Derived.Test.YtkfgofomgcemcaaDoorRunesLaw0
import Derived.WalkKit
import Derived.ProofKit
import Derived.OpenShut
import Derived.ShutString
import Derived.Below
import Derived.Lib.LaidIn
import Derived.Lib.LaidU8T
import Derived.Deep.DeepHandedRow
import Derived.Deep.DeepWitnessRowRef
namespace Go.Proofs.YtkfgofomgcemcaaDoor.fnExactRunes
open Go.ChangeShapes Go.WideShapes Go.ChangeAt Go.RowKit
open Go.ChangeMaps (open_string shut_string)
set_option linter.unusedVariables false
theorem own : ownKnob Tryd.prog.godebug = none := by kernel_rfl

set_option maxHeartbeats 1000000 in
/-- The walk: the law answers true, and nothing that was there is written. -/
theorem walk (a0 : ByteArray) (w0 : a0.size ≤ maxLen) (w : World) (hsh : w.ShapedOpen Tryd.prog) (hT : Tabs w) :
    Calls Tryd.prog 3 #[.string a0] w fun e w' => e = .returned (.bool true) ∧ Below w.heap.size w w' := by
  unfold maxLen at w0
  by_cases hbig : 1048576 < a0.size
  · have hb' : (1048576 : Int) < (a0.size : Int) := by omega
    go_enter Tryd.func3, Tryd.ntmps3
    go_wp2
    go_ret
    exact ⟨rfl, Below.refl _ _⟩
  · have hs : a0.size ≤ 1048576 := by omega
    have hb' : ¬ (1048576 : Int) < (a0.size : Int) := by omega
    have hlen := outL_len a0
    obtain ⟨L, hL⟩ : ∃ L, outL (rns a0) = L := ⟨_, rfl⟩
    obtain ⟨b, hb⟩ : ∃ b, (rns a0).isSome = b := ⟨_, rfl⟩
    rw [hL] at hlen
    have HL := hide hL
    have HBb := hide hb
    have HT := hide hT
    have hn : L.length ≤ 1048576 := by omega
    have hc1 : ¬ (1 + (L.length : Int)) < 0 := by omega
    clear hL hb hT w0
    go_enter Tryd.func3, Tryd.ntmps3
    go_wp2_with fail
    refine (s_runes_lb a0 L b _ hs HL.out HBb.out).mono ?_
    rintro e wA ⟨adA, cA, rfl, hoA, hbA⟩
    have OA := hide hoA
    have BA := hide hbA
    clear hoA hbA
    go_wp2_with fail
    refine (i_runes_lb a0 L b _ hs (tabs_below HT.out BA.out) HL.out HBb.out).mono ?_
    rintro e wB ⟨adB, cB, rfl, hoB, hbB⟩
    have OA2 := hide (own_below' OA.out hbB)
    have OB := hide hoB
    have BB := hide hbB
    have BwB := hide (BA.out.trans (hbB.mono BA.out.size))
    clear hoB hbB
    go_wp2_with fail
    refine (eq_same adB adA L.length cB cA L _ rfl hn (own_rowAt' rfl OB.out) (own_rowAt' rfl OA2.out)).mono ?_
    rintro e wC ⟨rfl, q, rfl⟩
    go_wp2_with fail
    refine (mark_any wA.heap.size adB L.length cB L (wB.drewN q) rfl hn (show (wB.drewN q).ownsRow wA.heap.size 2 1 (.slice adB L.length cB) L.length (L.map (Value.int .i64)) from OB.out)).mono ?_
    rintro e wD ⟨rfl, hoD, hbD⟩
    have OD := hide hoD
    have OA3 := hide (own_stays OA2.out (show Below wA.heap.size wB wD from ⟨hbD.os, hbD.tape, hbD.output, hbD.size, hbD.block⟩) (fun k hk => (OA.out.lt k hk).2))
    have BD := hide (BwB.out.trans (show Below w.heap.size wB wD from ⟨hbD.os, hbD.tape, hbD.output, hbD.size, fun k hk => hbD.block k (Nat.lt_of_lt_of_le hk BA.out.size)⟩))
    clear hoD hbD
    go_wp2_with fail
    refine (held_ints adB L.length cB _ hn (own_rowAt' (upFrom_len 1 _) OD.out)).mono ?_
    rintro e wE ⟨rfl, q2, rfl⟩
    go_wp2_with fail
    refine (i_runes_lb a0 L b _ hs (tabs_below HT.out (BD.out.trans (c := wD.drewN q2) ⟨rfl, rfl, rfl, Nat.le_refl _, fun _ _ => rfl⟩)) HL.out HBb.out).mono ?_
    rintro e wF ⟨adF, cF, rfl, hoF, hbF⟩
    have hbF' : Below wD.heap.size wD wF := ⟨hbF.os, hbF.tape, hbF.output, hbF.size, hbF.block⟩
    have OF := hide hoF
    have OD2 := hide (own_below' OD.out hbF')
    have OA4 := hide (own_below' OA3.out hbF')
    have BF := hide (BD.out.trans (hbF'.mono BD.out.size))
    clear hoF hbF hbF'
    go_wp2_with fail
    refine (eq_same adF adA L.length cF cA L _ rfl hn (own_rowAt' rfl OF.out) (own_rowAt' rfl OA4.out)).mono ?_
    rintro e wG ⟨rfl, q3, rfl⟩
    go_wp2_with fail
    refine (held_ints adB L.length cB _ hn (show RowAt .i64 (wF.drewN q3) adB (upFrom 1 L.length) (wF.drewN q3).heap.size from own_rowAt' (upFrom_len 1 _) OD2.out)).mono ?_
    rintro e wH ⟨rfl, q4, rfl⟩
    go_wp2
    go_ret
    exact ⟨rfl, ⟨BF.out.os, BF.out.tape, BF.out.output, BF.out.size, BF.out.block⟩⟩

/-- The witness: the settled world, the listed variables holding what their initialisers lay. -/
noncomputable def laidWorld (os : Os) : World :=
  let w0 := World.holding Tryd.prog os ⟨#[], #[], []⟩
  let put (h : Array Obj) (g : Nat) (cs : Array Value) : Array Obj := h.modify g fun
    | .cells _ t frozen => .cells cs t frozen
    | o => o
  let h1 := put w0.heap 1 ((List.range 16).flatMap fun i => [Value.int .u8 (Lib.accLo i), Value.int .u8 (Lib.accHi i)]).toArray
  let h2 := put h1 0 (Lib.firstTab.map fun z => Value.int .u8 z).toArray
  { w0 with heap := h2 }
theorem laid_met (os : Os) (args : Array Value) : laidMet Tryd.prog Rows.fnExactRunesRow.laid ((laidWorld os).forCall (fun _ _ => 0) ⟨#[], args, []⟩).memory :=
  (LaidIn.of_run (l := Rows.fnExactRunesRow.laid) [1, 0] 8 (by kernel_rfl) (by kernel_rfl) (by kernel_rfl) (by kernel_rfl)).met

theorem witness_row (os : Os) {H : Type} (enc : TypeId × Value → H) :
    (OpenSpec.ofChange Rows.fnExactRunesSpec).preRow enc Tryd.prog Tryd.f3 Rows.fnExactRunesRow.domain false Rows.fnExactRunesRow.laid ((laidWorld os).forCall (fun _ _ => 0) ⟨#[], #[.string ⟨#[]⟩], []⟩).memory #[.string ⟨#[]⟩] := by
  have hw : (DataW.whole enc Tryd.prog ((laidWorld os).forCall (fun _ _ => 0) ⟨#[], #[.string ⟨#[]⟩], []⟩).memory Tryd.f3.params.toList Rows.fnExactRunesSpec.vars false #[Value.string ⟨#[]⟩].toList 8).map (fun x => (x.1, x.2.1)) =
      some ([.lit (.string [])], []) := by kernel_rfl
  obtain ⟨⟨x1, x2, x3⟩, hx, hx1⟩ := Option.map_eq_some_iff.1 hw
  simp only [Prod.mk.injEq] at hx1
  obtain ⟨rfl, rfl⟩ := hx1
  exact OpenSpec.preRow_of_cond 8 hx (by kernel_rfl) (fun k hk => by cases hk) (by kernel_rfl) (laid_met os _)

set_option maxRecDepth 100000 in
set_option maxHeartbeats 2000000 in
theorem lifted (os : Os) (started : os.Started) (H : Type) (enc : TypeId × Value → H) (F : Stop.Interp) :
    ReturnsInHanded {} Tryd.checked os 3 .any ((OpenSpec.ofChange Rows.fnExactRunesSpec).preRow enc Tryd.prog Tryd.f3 Rows.fnExactRunesRow.domain false Rows.fnExactRunesRow.laid) (((OpenSpec.ofChange Rows.fnExactRunesSpec).at F).post enc Tryd.prog Tryd.f3 false true false false) := by
  refine returnsInHanded_of_row (C := Tryd.checked) (s := OpenSpec.ofChange Rows.fnExactRunesSpec) own started (by kernel_rfl) Tryd.func3
    (witness_row_atRef (enc := enc) (C := Tryd.checked) false (laidWorld os) #[.string ⟨#[]⟩] rfl (by kernel_rfl) (by kernel_rfl) (by kernel_rfl) (witness_row os enc)) ?_
  intro W base args ds gs before hval0 hW _ _ _ hL hsh _
  have hval : ∀ (j : Nat) t v, Tryd.f3.params[j]? = some t → args[j]? = some v → Value.okWide Tryd.prog W .any base t v := hval0
  have hW' := hW
  obtain ⟨p, q, hA0, hV0, rfl, _, _⟩ := hW
  have hA : DataW.TrodAll enc Tryd.prog W 0 (fun _ => true) true Tryd.f3.params.toList args.toList ds p := hA0
  rw [Tryd.params3] at hA hval
  obtain ⟨v0, d0, rfl, rfl, h0⟩ := trodAll_one hA
  obtain ⟨rfl, rfl⟩ := trodVars_none hV0
  obtain ⟨s, rfl, rfl, rfl, ws⟩ := open_string Tryd.underlying9 (hval 0 9 v0 rfl rfl) h0
  clear hA0 hV0 hval0
  have htab := Go.Proofs.utf8Tabs_of_readsT (Go.Proofs.U8Types.of196 Tryd.laysValid) ⟨by kernel_rfl, by kernel_rfl, by kernel_rfl, by kernel_rfl, by kernel_rfl, by kernel_rfl, by kernel_rfl⟩ (Lib.laidMet.reads hL (.tail _ (.head _))) (Lib.laidMet.reads hL (.head _))
  refine (walk s ws W hsh htab).mono ?_
  rintro e W' ⟨rfl, bel⟩
  have e1 : ((OpenSpec.ofChange Rows.fnExactRunesSpec).at F).fn H ([.lit (.string s.data.toList)] ++ []) = { results := [.lit (.bool true)], args := [.lit (.string s.data.toList)] } := rfl
  refine ⟨_, rfl, _, _, _, [], [], [], hW', ?_, ?_, ?_, bel.frame _, fun h => by cases h⟩
  · rw [e1]; exact trodAll_mk1 (shut_bool Tryd.underlying4 _)
  · rw [e1]; exact trodAll_mk1 (shut_string Tryd.underlying9 ws)
  · rw [e1]; rfl

theorem said : Rows.FnExactRunesSaid :=
  OpenClaim.holds_of_cond 3 Tryd.f3 rfl rfl rfl rfl rfl rfl rfl ⟨rfl, rfl, rfl, rfl, rfl⟩ rfl rfl rfl rfl rfl (by kernel_rfl) Tryd.func3 (by kernel_rfl)
    (of_decide_eq_true (by kernel_rfl)) (by unfold Func.isWrapper; first | (rw [if_pos (by decide +kernel)]; kernel_rfl) | (rw [if_neg (by decide +kernel)]; exact ⟨rfl, rfl⟩))
    (fun os started H enc _ F => by rw [OpenClaim.pre_eq_preRow]; exact lifted os started H enc F)

/-- No parameter wants a stand-in; the program's own looks are off. -/
theorem plain (f : FuncId) (fn : Func) (hf : Tryd.pinned.checked.prog.funcNamed "loop.example/g00262/laws.FnExactRunes" = some f) (hfn : Tryd.pinned.checked.prog.funcs[f]? = some fn) :
    false = Tryd.pinned.checked.prog.looks [] ∧ ∀ (j : Nat) t, fn.params[j]? = some t → Tryd.pinned.checked.prog.wantsStandIn t = false := by
  obtain rfl : f = 3 := Option.some.inj ((show Tryd.prog.funcNamed "loop.example/g00262/laws.FnExactRunes" = some 3 by kernel_rfl).symm.trans hf) |>.symm
  obtain rfl : fn = Tryd.f3 := (Option.some.inj (Tryd.func3.symm.trans hfn)).symm
  refine ⟨by kernel_rfl, fun j t ht => ?_⟩
  rw [Tryd.params3] at ht
  obtain rfl : t = 9 := by simpa using Array.mem_of_getElem? ht
  exact (show Tryd.prog.wantsStandIn 9 = false by kernel_rfl)
end Go.Proofs.YtkfgofomgcemcaaDoor.fnExactRunes
namespace Go.Proofs.YtkfgofomgcemcaaDoor
theorem runes_proved : Rows.FnExactRunesCardSaid :=
  Claim7.holds_tied_plain_at .later [] _ _ _ _ fnExactRunes.said (fun _ h => by cases h) (by kernel_rfl) (fun _ h => by cases h) fnExactRunes_row_tie rfl ⟨rfl, rfl⟩ (by kernel_rfl) rfl fnExactRunes.plain (by kernel_rfl)
end Go.Proofs.YtkfgofomgcemcaaDoor
