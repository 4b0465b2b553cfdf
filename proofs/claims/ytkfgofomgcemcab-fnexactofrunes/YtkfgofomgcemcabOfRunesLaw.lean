/-
  Proved: for every slice of int64 the call of FnExactOfRunes returns true and the argument reads as it did (the program's OfRunes answers as the specification's at every row of at most 1048576 numbers and writes into none; the law passes longer ones by). No condition is laid.
-/
import Derived.Test.YtkfgofomgcemcabRows
import Derived.Test.YtkfgofomgcemcabOfRunes
import Derived.WalkKit
import Derived.ProofKit
import Derived.OpenShut
import Derived.ShutString
import Derived.ChangeOld
import Derived.Below
namespace Go.Proofs.Ytkfgofomgcemcab.fnExactOfRunes
open Go.ChangeShapes Go.WideShapes Go.ChangeAt Go.RowKit
open Go.ChangeMaps (open_string shut_string)
set_option linter.unusedVariables false

theorem own : ownKnob Try.prog.godebug = none := by kernel_rfl
theorem laidOut : laidOutB Try.prog = true := by kernel_rfl

/-- WHAT THE WALK IS TOLD OF A SLICE OF INTEGERS THAT CAME IN: it is nil; or it leads to a row of 'cap' cells, the numbers 'zs' (the first 'len' are its elements, the rest its spare room), each fitting its kind. -/
def IsRow (k : IntKind) (w : World) (a : Option Addr) (len cap : Nat) (zs : List Int) : Prop :=
  (a = none ∧ len = 0 ∧ cap = 0 ∧ zs = []) ∨
  ∃ x, a = some x ∧ len ≤ cap ∧ cap ≤ maxLen ∧ zs.length = cap ∧ (∀ i, i < zs.length → w.cell? (x.add i) = some (.int k (zs.getD i 0))) ∧ ∀ n ∈ zs, (Lit.int k n).wf = true

/-! ### STEP 1: THE WALK: the Go text returns true, AND WRITES NOTHING THAT WAS THERE: 'Below w.heap.size w w'' (Derived/Below.lean: '.refl', '.alloc', '.drew', '.setCell' at a new block, '.trans'). Open each 'IsRow' by 'rcases' AHEAD of 'go_enter'; part every test ahead of the walk. -/
theorem walk (a0 : Option Addr) (len0 cap0 : Nat) (z0 : List Int) (w : World) (w0 : IsRow .i64 w a0 len0 cap0 z0) :
    Calls Try.prog 3 #[.slice a0 len0 cap0] w fun e w' => e = .returned (.bool true) ∧ Below w.heap.size w w' := by
  by_cases hbig : 1048576 < len0
  · have hb' : (1048576 : Int) < (len0 : Int) := by omega
    go_enter Try.func3, Try.ntmps3
    go_wp2
    go_ret
    exact ⟨rfl, Below.refl _ _⟩
  · have hn : len0 ≤ 1048576 := by omega
    obtain ⟨xs, hx, hr⟩ : ∃ xs : List Int, xs.length = len0 ∧ RowAt .i64 w a0 xs w.heap.size := by
      rcases w0 with ⟨rfl, rfl, rfl, rfl⟩ | ⟨x, rfl, hl, hm, hz, hcell, hwz⟩
      · exact ⟨[], rfl, fun h => absurd rfl h⟩
      · refine ⟨z0.take len0, by rw [List.length_take]; omega, fun hne => ?_⟩
        have hpos : 0 < len0 := by
          rcases Nat.eq_zero_or_pos len0 with h | h
          · subst h; simp at hne
          · exact h
        obtain ⟨b, off, spot⟩ := x
        have hc0 := hcell 0 (by omega)
        have hspot : spot = none := by simpa [Addr.add] using World.cell?_spot hc0
        subst hspot
        have hadd : ∀ i, (⟨b, off, none⟩ : Addr).add i = ⟨b, off + i, none⟩ := fun i => by unfold Addr.add; split <;> simp_all
        refine ⟨b, off, rfl, ?_, fun j hj => ?_⟩
        · have := World.block_lt_of_cell? w _ hc0
          rw [hadd] at this
          exact this
        · rw [List.length_take] at hj
          rw [← hadd, hcell j (by omega), List.getElem?_take, if_pos (by omega)]
          simp [List.getD]
    clear w0
    have HX := hide hx
    have HR := hide hr
    clear hx hr
    have hn' : ¬ (1048576 : Int) < (len0 : Int) := by omega
    go_enter Try.func3, Try.ntmps3
    go_wp2_with fail
    refine (to_ints a0 len0 cap0 xs _ HX.out hn HR.out).mono ?_
    rintro e w1 ⟨rfl, hown1, hb1⟩
    have HO1 := hide hown1
    have HB1 := hide hb1
    have hz1 := own_size hown1
    clear hown1 hb1
    go_wp2_with fail
    refine (s_of w.heap.size 0 len0 len0 xs _ HX.out hn hz1 (own_cells HX.out HO1.out)).mono ?_
    rintro e w2 ⟨rfl, hb2⟩
    have HB2 := hide (HB1.out.trans (hb2.mono HB1.out.size))
    clear hb2
    go_wp2_with fail
    refine (to_ints a0 len0 cap0 xs _ HX.out hn (rowAt_below HR.out HB2.out)).mono ?_
    rintro e w3 ⟨rfl, hown3, hb3⟩
    have HO3 := hide hown3
    have HB3 := hide (HB2.out.trans (hb3.mono HB2.out.size))
    have hz3 := own_size hown3
    clear hown3 hb3
    go_wp2_with fail
    refine (i_of w2.heap.size 0 len0 len0 xs _ HX.out hn hz3 (own_cells HX.out HO3.out)).mono ?_
    rintro e w4 ⟨rfl, hb4⟩
    have HO4 := hide (own_below HO3.out hb4)
    have HB4 := hide (HB3.out.trans (hb4.mono HB3.out.size))
    have hz4 := hb4.size
    clear hb4
    go_wp2_with fail
    refine (to_ints a0 len0 cap0 xs _ HX.out hn (rowAt_below HR.out HB4.out)).mono ?_
    rintro e w5 ⟨rfl, hown5, hb5⟩
    have HO5 := hide hown5
    have HO6 := hide (own_below HO4.out hb5)
    have HB5 := hide (HB4.out.trans (hb5.mono HB4.out.size))
    clear hown5 hb5
    go_wp2_with fail
    refine (eq_ints _ _ len0 len0 _ _ xs xs _ HX.out HX.out hn hn (own_rowAt HX.out HO6.out) (own_rowAt HX.out HO5.out)).mono ?_
    rintro e w6 ⟨rfl, q, rfl⟩
    have hdec : decide (xs = xs) = true := by simp
    go_wp2
    go_ret
    exact ⟨rfl, below_drewN' HB5.out q⟩

/-! ### THE ROW's STEP: WRITTEN OUT: LEAVE IT -/
set_option maxRecDepth 100000 in
theorem lifted (os : Os) (started : os.Started) (H : Type) (enc : TypeId × Value → H) :
    ReturnsInHanded {} Try.checked os 3 .any (Rows.fnExactOfRunesSpec.pre6 enc Try.prog Try.f3 Rows.fnExactOfRunesRow.domain false) (Rows.fnExactOfRunesSpec.post enc Try.prog Try.f3 false true false false) := by
  refine returnsInHanded_of_change (C := Try.checked) own started (by kernel_rfl) Try.func3
    (ChangeSpec.witness6 (enc := enc) (C := Try.checked) false ⟨#[], #[.slice none 0 0], []⟩ 8 (by kernel_rfl) (by kernel_rfl) (by kernel_rfl) (by kernel_rfl)) ?_
  intro W base args ds gs before hval0 hW hcnd _
  have hval : ∀ (j : Nat) t v, Try.f3.params[j]? = some t → args[j]? = some v → Value.okWide Try.prog W .any base t v := hval0
  have hW' := hW
  obtain ⟨p, q, hA0, hV, rfl, hfz, hnd⟩ := hW
  have hA : DataW.TrodAll enc Try.prog W 0 (fun _ => true) true Try.f3.params.toList args.toList ds p := hA0
  rw [Try.params3] at hA hval
  obtain ⟨v0, vs0, d0, ds0, p0, q0, hargs, rfl, rfl, h0, r0⟩ := trodAll_cons hA
  obtain ⟨rfl, rfl, rfl⟩ := trodAll_nil r0
  obtain rfl : args = #[v0] := by cases args; simp_all
  obtain ⟨rfl, rfl⟩ := trodVars_none hV
  obtain ⟨a0, len0, cap0, rfl⟩ := okWide_slice Try.underlying22 (hval 0 22 v0 rfl rfl)
  have k0 := h0
  have lt0 : ∀ x ∈ p0, x.block < W.heap.size := by obtain ⟨m, hm⟩ := k0; exact DataW.trod_lt m _ _ _ hm
  obtain ⟨z0, w0⟩ : ∃ zs, IsRow .i64 W a0 len0 cap0 zs := by
    obtain ⟨fuel, hf⟩ := h0
    rcases open_ints Try.underlying22 Try.underlying2 (by kernel_rfl) hf with ⟨hcs, _⟩ | ⟨x, l, c, zs, hcs, _, hl, hm, hz, _, hcell, hwz⟩
    · simp [Value.cells] at hcs
      obtain ⟨rfl, rfl, rfl⟩ := hcs
      exact ⟨[], .inl ⟨rfl, rfl, rfl, rfl⟩⟩
    · simp [Value.cells] at hcs
      obtain ⟨rfl, rfl, rfl⟩ := hcs
      exact ⟨zs, .inr ⟨_, rfl, hl, hm, by simpa using hz, hcell, hwz⟩⟩
  clear hA0 hval0
  refine (walk a0 len0 cap0 z0 W w0).mono fun e W' ⟨he, bel⟩ => ?_
  subst he
  exact ⟨_, rfl, _, _, _, [], _, [], hW', trodAll_mk1 (shut_bool Try.underlying4 _), (trodAll_cons_mk (Below.trod laidOut (by kernel_rfl) (of_decide_eq_true (by kernel_rfl)) k0 bel lt0) trodAll_mk0), rfl, bel.frame _, fun h => by cases h⟩

theorem over : Rows.fnExactOfRunesRow.holds Try.pinned (OpenSpec.ofChange Rows.fnExactOfRunesSpec) :=
  OpenClaim.holds_of_wide 3 Try.f3 rfl rfl rfl rfl rfl rfl rfl ⟨rfl, rfl, rfl, rfl, rfl⟩ rfl rfl rfl rfl rfl (by kernel_rfl) Try.func3 (by kernel_rfl)
    (of_decide_eq_true (by kernel_rfl)) (by unfold Func.isWrapper; first | (rw [if_pos (by decide +kernel)]; kernel_rfl) | (rw [if_neg (by decide +kernel)]; exact ⟨rfl, rfl⟩))
    (fun os started H enc _ => lifted os started H enc)

end Go.Proofs.Ytkfgofomgcemcab.fnExactOfRunes
namespace Go.Proofs.Ytkfgofomgcemcab
theorem ofRunes_proved : Rows.FnExactOfRunesSaid := fnExactOfRunes.over
end Go.Proofs.Ytkfgofomgcemcab
