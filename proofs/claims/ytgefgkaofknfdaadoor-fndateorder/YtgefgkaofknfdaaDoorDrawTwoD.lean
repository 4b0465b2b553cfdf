/-
  Contract: two drawn dates, whatever the code is.
-/
import Derived.Test.YtgefgkaofknfdaaDoorDrawDate
import Derived.Deep.RegionLaw
import Derived.Laws.ResultCell
namespace Go.Proofs.YtgefgkaofknfdaaDoor
open Go.RowKit Go.Joins
set_option linter.unusedVariables false
set_option linter.unusedSimpArgs false
theorem results_cell_cellD {P : Program} {fn : Func} {p u : Tmp} {ty ty' : TypeId} (h : fn.results = #[.cell p ty, .cell u ty']) (tmps : Array Value) (w : World) :
    (results fn tmps).run P w = ((asAddr (tmps.getD p undef)).run P w).andThen fun a w₁ => ((loadVar ty a).run P w₁).andThen fun v w₂ => ((asAddr (tmps.getD u undef)).run P w₂).andThen fun b w₃ => ((loadVar ty' b).run P w₃).andThen fun x w₄ => .ok (.tuple #[v, x]) w₄ := by
  simp only [results, h]
  simp [Sem.run_bind, Result.andThen]
theorem ret_twoD {P : Program} {fn : Func} {p u : Tmp} {ty : TypeId} (h : fn.results = #[.cell p ty, .cell u ty]) (tmps : Array Value) (w : World) (g g' : Nat) (t t' : TypeId) (cs cs' : Array Value) (fr fr' : Nat × Nat) (d : TypeDesc)
    (hp : tmps.getD p undef = .pointer (some ⟨g, 0, none⟩)) (hp' : tmps.getD u undef = .pointer (some ⟨g', 0, none⟩)) (hg : w.heap[g]? = some (.cells cs t fr)) (hg' : w.heap[g']? = some (.cells cs' t' fr'))
    (hu : P.underlying ty = some d) (hd : (match d with | .struct _ | .array _ _ => true | _ => false) = true) (hi : (P.info? ty).map (·.size) = some cs.size) (hi' : (P.info? ty).map (·.size) = some cs'.size) :
    (results fn tmps).run P w = .ok (.tuple #[.agg cs, .agg cs']) w := by
  rw [results_cell_cellD h]
  simp only [hp, hp', asAddr, Sem.run_pure, Result.andThen, run_loadVar_row w g t ty cs fr d hg hu hd hi, run_loadVar_row w g' t' ty cs' fr' d hg' hu hd hi']
theorem src_upD {w : World} {a : Option Addr} {zs : List Int} {B B' : Nat} (h : SrcAt w a zs B) (hB : B ≤ B') : SrcAt w a zs B' := by
  intro hne
  obtain ⟨b, off, e, hb, hc⟩ := h hne
  exact ⟨b, off, e, by omega, hc⟩
theorem far8 (w : World) (K D : Nat) (hne : K ≠ D) (x0 x1 x2 x3 x4 x5 : Int) (x6 : Bool) (x7 : Int) : ((((((((w.setCell ⟨D, 0, none⟩ (.int .i64 x0)).setCell ⟨D, 1, none⟩ (.int .i64 x1)).setCell ⟨D, 2, none⟩ (.int .i64 x2)).setCell ⟨D, 3, none⟩ (.int .i64 x3)).setCell ⟨D, 4, none⟩ (.int .i64 x4)).setCell ⟨D, 5, none⟩ (.int .i64 x5)).setCell ⟨D, 6, none⟩ (.bool x6)).setCell ⟨D, 7, none⟩ (.int .i64 x7)).heap[K]? = w.heap[K]? := by
  iterate 8 (rw [Below.heap_setCell _ _ _ K hne])
theorem two8 {w : World} {K D : Nat} {y mo d h mi s : Int} {g : Bool} {z : Int} {y' mo' d' h' mi' s' : Int} {g' : Bool} {z' : Int} {T : TypeId} (hK : w.heap[K]? = some (.cells #[.int .i64 y, .int .i64 mo, .int .i64 d, .int .i64 h, .int .i64 mi, .int .i64 s, .bool g, .int .i64 z] T (0, 0))) (hD : w.heap[D]? = some (.cells #[.int .i64 y', .int .i64 mo', .int .i64 d', .int .i64 h', .int .i64 mi', .int .i64 s', .bool g', .int .i64 z'] T (0, 0))) (hne : K ≠ D) (x0 x1 x2 x3 x4 x5 : Int) (x6 : Bool) (x7 : Int) (y0 y1 y2 y3 y4 y5 : Int) (y6 : Bool) (y7 : Int) :
    ((((((((((((((((w.drew.setCell ⟨K, 0, none⟩ (.int .i64 x0)).setCell ⟨K, 1, none⟩ (.int .i64 x1)).setCell ⟨K, 2, none⟩ (.int .i64 x2)).setCell ⟨K, 3, none⟩ (.int .i64 x3)).setCell ⟨K, 4, none⟩ (.int .i64 x4)).setCell ⟨K, 5, none⟩ (.int .i64 x5)).setCell ⟨K, 6, none⟩ (.bool x6)).setCell ⟨K, 7, none⟩ (.int .i64 x7)).setCell ⟨D, 0, none⟩ (.int .i64 y0)).setCell ⟨D, 1, none⟩ (.int .i64 y1)).setCell ⟨D, 2, none⟩ (.int .i64 y2)).setCell ⟨D, 3, none⟩ (.int .i64 y3)).setCell ⟨D, 4, none⟩ (.int .i64 y4)).setCell ⟨D, 5, none⟩ (.int .i64 y5)).setCell ⟨D, 6, none⟩ (.bool y6)).setCell ⟨D, 7, none⟩ (.int .i64 y7)).heap[K]? = some (.cells #[.int .i64 x0, .int .i64 x1, .int .i64 x2, .int .i64 x3, .int .i64 x4, .int .i64 x5, .bool x6, .int .i64 x7] T (0, 0)) ∧ ((((((((((((((((w.drew.setCell ⟨K, 0, none⟩ (.int .i64 x0)).setCell ⟨K, 1, none⟩ (.int .i64 x1)).setCell ⟨K, 2, none⟩ (.int .i64 x2)).setCell ⟨K, 3, none⟩ (.int .i64 x3)).setCell ⟨K, 4, none⟩ (.int .i64 x4)).setCell ⟨K, 5, none⟩ (.int .i64 x5)).setCell ⟨K, 6, none⟩ (.bool x6)).setCell ⟨K, 7, none⟩ (.int .i64 x7)).setCell ⟨D, 0, none⟩ (.int .i64 y0)).setCell ⟨D, 1, none⟩ (.int .i64 y1)).setCell ⟨D, 2, none⟩ (.int .i64 y2)).setCell ⟨D, 3, none⟩ (.int .i64 y3)).setCell ⟨D, 4, none⟩ (.int .i64 y4)).setCell ⟨D, 5, none⟩ (.int .i64 y5)).setCell ⟨D, 6, none⟩ (.bool y6)).setCell ⟨D, 7, none⟩ (.int .i64 y7)).heap[D]? = some (.cells #[.int .i64 y0, .int .i64 y1, .int .i64 y2, .int .i64 y3, .int .i64 y4, .int .i64 y5, .bool y6, .int .i64 y7] T (0, 0)) := by
  have hK' : w.drew.heap[K]? = some (.cells #[.int .i64 y, .int .i64 mo, .int .i64 d, .int .i64 h, .int .i64 mi, .int .i64 s, .bool g, .int .i64 z] T (0, 0)) := hK
  have hD' : w.drew.heap[D]? = some (.cells #[.int .i64 y', .int .i64 mo', .int .i64 d', .int .i64 h', .int .i64 mi', .int .i64 s', .bool g', .int .i64 z'] T (0, 0)) := hD
  refine ⟨?_, ?_⟩
  · rw [far8 _ K D hne]
    exact set8_row hK' x0 x1 x2 x3 x4 x5 x6 x7
  · refine set8_row (y := y') (mo := mo') (d := d') (h := h') (mi := mi') (s := s') (g := g') (z := z') ?_ y0 y1 y2 y3 y4 y5 y6 y7
    rw [far8 _ D K (fun e => hne e.symm)]
    exact hD'
theorem dsh_far8 {w : World} {K D : Nat} (h : DSh w K) (hne : K ≠ D) (x0 x1 x2 x3 x4 x5 : Int) (x6 : Bool) (x7 : Int) : DSh ((((((((w.setCell ⟨D, 0, none⟩ (.int .i64 x0)).setCell ⟨D, 1, none⟩ (.int .i64 x1)).setCell ⟨D, 2, none⟩ (.int .i64 x2)).setCell ⟨D, 3, none⟩ (.int .i64 x3)).setCell ⟨D, 4, none⟩ (.int .i64 x4)).setCell ⟨D, 5, none⟩ (.int .i64 x5)).setCell ⟨D, 6, none⟩ (.bool x6)).setCell ⟨D, 7, none⟩ (.int .i64 x7)) K := by
  obtain ⟨z0, z1, z2, z3, z4, z5, z6, z7, h⟩ := h
  exact ⟨z0, z1, z2, z3, z4, z5, z6, z7, (far8 w K D hne x0 x1 x2 x3 x4 x5 x6 x7).trans h⟩
theorem below8 {b : Nat} {w w1 : World} {B : Nat} (h : Below b w w1) (hB : b ≤ B) (x0 x1 x2 x3 x4 x5 : Int) (x6 : Bool) (x7 : Int) : Below b w ((((((((w1.setCell ⟨B, 0, none⟩ (.int .i64 x0)).setCell ⟨B, 1, none⟩ (.int .i64 x1)).setCell ⟨B, 2, none⟩ (.int .i64 x2)).setCell ⟨B, 3, none⟩ (.int .i64 x3)).setCell ⟨B, 4, none⟩ (.int .i64 x4)).setCell ⟨B, 5, none⟩ (.int .i64 x5)).setCell ⟨B, 6, none⟩ (.bool x6)).setCell ⟨B, 7, none⟩ (.int .i64 x7)) := by
  iterate 8 (refine Below.setCell ?_ hB _)
  exact h
set_option maxRecDepth 100000 in
set_option maxHeartbeats 4000000 in
theorem end_two {s0 s1 s4 s7 s8 s9 s10 s11 s12 s13 s14 s15 s16 s17 s18 s19 s20 s21 s22 s23 s24 s25 s26 s27 s28 : Value} {w wE : World} {RA RB A B b : Nat} {Q : Exit → Act → World → Prop} {x0 x1 x2 x3 x4 x5 : Int} {x6 : Bool} {x7 : Int} {y0 y1 y2 y3 y4 y5 : Int} {y6 : Bool} {y7 : Int} (hA : wE.heap[A]? = some (.cells #[.int .i64 x0, .int .i64 x1, .int .i64 x2, .int .i64 x3, .int .i64 x4, .int .i64 x5, .bool x6, .int .i64 x7] 25 (0, 0))) (hB : wE.heap[B]? = some (.cells #[.int .i64 y0, .int .i64 y1, .int .i64 y2, .int .i64 y3, .int .i64 y4, .int .i64 y5, .bool y6, .int .i64 y7] 25 (0, 0))) (h1 : DSh wE RA) (h2 : DSh wE RB)
    (n1 : ¬ A = RA) (n2 : ¬ A = RB) (n3 : ¬ B = RA) (n4 : ¬ B = RB) (n5 : RA ≠ RB) (hRA : b ≤ RA) (hRB : b ≤ RB) (hbel : Below b w wE)
    (hQ : ∀ u29 u30 w', Below b w w' → w'.heap[RA]? = some (.cells #[.int .i64 x0, .int .i64 x1, .int .i64 x2, .int .i64 x3, .int .i64 x4, .int .i64 x5, .bool x6, .int .i64 x7] 25 (0, 0)) → w'.heap[RB]? = some (.cells #[.int .i64 y0, .int .i64 y1, .int .i64 y2, .int .i64 y3, .int .i64 y4, .int .i64 y5, .bool y6, .int .i64 y7] 25 (0, 0)) → Q .normal { tmps := #[s0, s1, .pointer (some ⟨RA, 0, none⟩), .pointer (some ⟨RB, 0, none⟩), s4, .pointer (some ⟨A, 0, none⟩), .pointer (some ⟨B, 0, none⟩), s7, s8, s9, s10, s11, s12, s13, s14, s15, s16, s17, s18, s19, s20, s21, s22, s23, s24, s25, s26, s27, s28, u29, u30], defers := [] } w') :
    (Code.region 10 #[{ dst := some 29, op := Op.load 25 (Operand.tmp 5), type := 25, pos := "l05_dates.go:231", after := #[], guard := none }, { dst := some 30, op := Op.load 25 (Operand.tmp 6), type := 25, pos := "l05_dates.go:231", after := #[{ on := 2, ground := Ground.gcOnly Departure.lateStores }], guard := none }, { dst := none, op := Op.store 25 (Operand.tmp 2) (Operand.tmp 29), type := 0, pos := "l05_dates.go:231", after := #[{ on := 0, ground := Ground.data }, { on := 0, ground := Ground.phase }, { on := 1, ground := Ground.textOnly Departure.lateStores }], guard := none }, { dst := none, op := Op.store 25 (Operand.tmp 3) (Operand.tmp 30), type := 0, pos := "l05_dates.go:231", after := #[{ on := 1, ground := Ground.data }, { on := 2, ground := Ground.chain }, { on := 0, ground := Ground.phase }, { on := 1, ground := Ground.phase }, { on := 2, ground := Ground.phase }], guard := none }] true).wp Tryd.prog Q { tmps := #[s0, s1, .pointer (some ⟨RA, 0, none⟩), .pointer (some ⟨RB, 0, none⟩), s4, .pointer (some ⟨A, 0, none⟩), .pointer (some ⟨B, 0, none⟩), s7, s8, s9, s10, s11, s12, s13, s14, s15, s16, s17, s18, s19, s20, s21, s22, s23, s24, s25, s26, s27, s28, undef, undef], defers := [] } wE := by
  refine wp_region_inv (by kernel_rfl) (by kernel_rfl) (fun u => { tmps := #[s0, s1, .pointer (some ⟨RA, 0, none⟩), .pointer (some ⟨RB, 0, none⟩), s4, .pointer (some ⟨A, 0, none⟩), .pointer (some ⟨B, 0, none⟩), s7, s8, s9, s10, s11, s12, s13, s14, s15, s16, s17, s18, s19, s20, s21, s22, s23, s24, s25, s26, s27, s28, u 29, u 30], defers := [] }) (fun k => if k ≤ 1 then k + 29 else k + 100)
    (fun k x w' => match k with | 0 => x = .agg #[.int .i64 x0, .int .i64 x1, .int .i64 x2, .int .i64 x3, .int .i64 x4, .int .i64 x5, .bool x6, .int .i64 x7] | 1 => x = .agg #[.int .i64 y0, .int .i64 y1, .int .i64 y2, .int .i64 y3, .int .i64 y4, .int .i64 y5, .bool y6, .int .i64 y7] | 2 => w'.heap[RA]? = some (.cells #[.int .i64 x0, .int .i64 x1, .int .i64 x2, .int .i64 x3, .int .i64 x4, .int .i64 x5, .bool x6, .int .i64 x7] 25 (0, 0)) | 3 => w'.heap[RB]? = some (.cells #[.int .i64 y0, .int .i64 y1, .int .i64 y2, .int .i64 y3, .int .i64 y4, .int .i64 y5, .bool y6, .int .i64 y7] 25 (0, 0)) | _ => True)
    (fun w' => w'.heap[A]? = some (.cells #[.int .i64 x0, .int .i64 x1, .int .i64 x2, .int .i64 x3, .int .i64 x4, .int .i64 x5, .bool x6, .int .i64 x7] 25 (0, 0)) ∧ w'.heap[B]? = some (.cells #[.int .i64 y0, .int .i64 y1, .int .i64 y2, .int .i64 y3, .int .i64 y4, .int .i64 y5, .bool y6, .int .i64 y7] 25 (0, 0)) ∧ DSh w' RA ∧ DSh w' RB ∧ Below b w w') (fun _ => undef) ⟨hA, hB, h1, h2, hbel.drew⟩ ?hput ?hD ?step ?done
  case hput =>
    intro i o ho u v
    have hi := (Array.getElem?_eq_some_iff.1 ho).1
    have hi' : i < 4 := hi
    clear hi
    rcases (show i = 0 ∨ i = 1 ∨ i = 2 ∨ i = 3 by omega) with e | e | e | e
    all_goals
      subst e
      obtain rfl := Option.some.inj ho
      rfl
  case hD =>
    intro i k hi hk hne
    try dsimp only
    split <;> split <;> omega
  case step =>
    intro i o ho u w2 hj hV K hK
    have hi := (Array.getElem?_eq_some_iff.1 ho).1
    have hi' : i < 4 := hi
    clear hi
    rcases (show i = 0 ∨ i = 1 ∨ i = 2 ∨ i = 3 by omega) with e | e | e | e
    all_goals
      subst e
      obtain rfl := Option.some.inj ho
      clear ho hi'
      try dsimp only at hV hK ⊢
    · obtain ⟨⟨c0, c1, c2, c3, c4, c5, c6, c7⟩, -⟩ := dsh_cells hj.1
      have HJ := hide hj
      clear hj
      go_simp
      exact hK _ _ HJ.out rfl (fun _ _ h => h)
    · obtain ⟨⟨c0, c1, c2, c3, c4, c5, c6, c7⟩, -⟩ := dsh_cells hj.2.1
      have HJ := hide hj
      clear hj
      go_simp
      exact hK _ _ HJ.out rfl (fun _ _ h => h)
    · have e1 : u 29 = .agg #[.int .i64 x0, .int .i64 x1, .int .i64 x2, .int .i64 x3, .int .i64 x4, .int .i64 x5, .bool x6, .int .i64 x7] := hV ⟨0, .data⟩ (by simp) rfl
      obtain ⟨j1, j2, j3, j4, j5⟩ := hj
      obtain ⟨z0, z1, z2, z3, z4, z5, z6, z7, hR⟩ := j3
      have HW := hide (set8_row hR x0 x1 x2 x3 x4 x5 x6 x7)
      have HJ := hide (show (((((((((w2.setCell ⟨RA, 0, none⟩ (.int .i64 x0)).setCell ⟨RA, 1, none⟩ (.int .i64 x1)).setCell ⟨RA, 2, none⟩ (.int .i64 x2)).setCell ⟨RA, 3, none⟩ (.int .i64 x3)).setCell ⟨RA, 4, none⟩ (.int .i64 x4)).setCell ⟨RA, 5, none⟩ (.int .i64 x5)).setCell ⟨RA, 6, none⟩ (.bool x6)).setCell ⟨RA, 7, none⟩ (.int .i64 x7)).heap[A]? = some (.cells #[.int .i64 x0, .int .i64 x1, .int .i64 x2, .int .i64 x3, .int .i64 x4, .int .i64 x5, .bool x6, .int .i64 x7] 25 (0, 0)) ∧ ((((((((w2.setCell ⟨RA, 0, none⟩ (.int .i64 x0)).setCell ⟨RA, 1, none⟩ (.int .i64 x1)).setCell ⟨RA, 2, none⟩ (.int .i64 x2)).setCell ⟨RA, 3, none⟩ (.int .i64 x3)).setCell ⟨RA, 4, none⟩ (.int .i64 x4)).setCell ⟨RA, 5, none⟩ (.int .i64 x5)).setCell ⟨RA, 6, none⟩ (.bool x6)).setCell ⟨RA, 7, none⟩ (.int .i64 x7)).heap[B]? = some (.cells #[.int .i64 y0, .int .i64 y1, .int .i64 y2, .int .i64 y3, .int .i64 y4, .int .i64 y5, .bool y6, .int .i64 y7] 25 (0, 0)) ∧ DSh ((((((((w2.setCell ⟨RA, 0, none⟩ (.int .i64 x0)).setCell ⟨RA, 1, none⟩ (.int .i64 x1)).setCell ⟨RA, 2, none⟩ (.int .i64 x2)).setCell ⟨RA, 3, none⟩ (.int .i64 x3)).setCell ⟨RA, 4, none⟩ (.int .i64 x4)).setCell ⟨RA, 5, none⟩ (.int .i64 x5)).setCell ⟨RA, 6, none⟩ (.bool x6)).setCell ⟨RA, 7, none⟩ (.int .i64 x7)) RA ∧ DSh ((((((((w2.setCell ⟨RA, 0, none⟩ (.int .i64 x0)).setCell ⟨RA, 1, none⟩ (.int .i64 x1)).setCell ⟨RA, 2, none⟩ (.int .i64 x2)).setCell ⟨RA, 3, none⟩ (.int .i64 x3)).setCell ⟨RA, 4, none⟩ (.int .i64 x4)).setCell ⟨RA, 5, none⟩ (.int .i64 x5)).setCell ⟨RA, 6, none⟩ (.bool x6)).setCell ⟨RA, 7, none⟩ (.int .i64 x7)) RB ∧ Below b w ((((((((w2.setCell ⟨RA, 0, none⟩ (.int .i64 x0)).setCell ⟨RA, 1, none⟩ (.int .i64 x1)).setCell ⟨RA, 2, none⟩ (.int .i64 x2)).setCell ⟨RA, 3, none⟩ (.int .i64 x3)).setCell ⟨RA, 4, none⟩ (.int .i64 x4)).setCell ⟨RA, 5, none⟩ (.int .i64 x5)).setCell ⟨RA, 6, none⟩ (.bool x6)).setCell ⟨RA, 7, none⟩ (.int .i64 x7))) from ⟨(far8 w2 A RA n1 x0 x1 x2 x3 x4 x5 x6 x7).trans j1, (far8 w2 B RA n3 x0 x1 x2 x3 x4 x5 x6 x7).trans j2, ⟨_, _, _, _, _, _, _, _, set8_row hR x0 x1 x2 x3 x4 x5 x6 x7⟩, dsh_far8 j4 (fun e => n5 e.symm) x0 x1 x2 x3 x4 x5 x6 x7, below8 j5 hRA x0 x1 x2 x3 x4 x5 x6 x7⟩)
      have HM := hide (far8 w2 RB RA (fun e => n5 e.symm) x0 x1 x2 x3 x4 x5 x6 x7)
      obtain ⟨⟨c0, c1, c2, c3, c4, c5, c6, c7⟩, f0, f1, f2, f3, f4, f5, f6, f7⟩ := dsh_cells hR
      clear j1 j2 j4 j5 hR
      rw [e1] at hK ⊢
      go_simp
      refine hK undef _ HJ.out HW.out (fun k x hx => ?_)
      rcases k with _ | _ | _ | _ | k
      · exact hx
      · exact hx
      · exact HW.out
      · exact HM.out.trans hx
      · trivial
    · have e1 : u 30 = .agg #[.int .i64 y0, .int .i64 y1, .int .i64 y2, .int .i64 y3, .int .i64 y4, .int .i64 y5, .bool y6, .int .i64 y7] := hV ⟨1, .data⟩ (by simp) rfl
      obtain ⟨j1, j2, j3, j4, j5⟩ := hj
      obtain ⟨z0, z1, z2, z3, z4, z5, z6, z7, hR⟩ := j4
      have HW := hide (set8_row hR y0 y1 y2 y3 y4 y5 y6 y7)
      have HJ := hide (show (((((((((w2.setCell ⟨RB, 0, none⟩ (.int .i64 y0)).setCell ⟨RB, 1, none⟩ (.int .i64 y1)).setCell ⟨RB, 2, none⟩ (.int .i64 y2)).setCell ⟨RB, 3, none⟩ (.int .i64 y3)).setCell ⟨RB, 4, none⟩ (.int .i64 y4)).setCell ⟨RB, 5, none⟩ (.int .i64 y5)).setCell ⟨RB, 6, none⟩ (.bool y6)).setCell ⟨RB, 7, none⟩ (.int .i64 y7)).heap[A]? = some (.cells #[.int .i64 x0, .int .i64 x1, .int .i64 x2, .int .i64 x3, .int .i64 x4, .int .i64 x5, .bool x6, .int .i64 x7] 25 (0, 0)) ∧ ((((((((w2.setCell ⟨RB, 0, none⟩ (.int .i64 y0)).setCell ⟨RB, 1, none⟩ (.int .i64 y1)).setCell ⟨RB, 2, none⟩ (.int .i64 y2)).setCell ⟨RB, 3, none⟩ (.int .i64 y3)).setCell ⟨RB, 4, none⟩ (.int .i64 y4)).setCell ⟨RB, 5, none⟩ (.int .i64 y5)).setCell ⟨RB, 6, none⟩ (.bool y6)).setCell ⟨RB, 7, none⟩ (.int .i64 y7)).heap[B]? = some (.cells #[.int .i64 y0, .int .i64 y1, .int .i64 y2, .int .i64 y3, .int .i64 y4, .int .i64 y5, .bool y6, .int .i64 y7] 25 (0, 0)) ∧ DSh ((((((((w2.setCell ⟨RB, 0, none⟩ (.int .i64 y0)).setCell ⟨RB, 1, none⟩ (.int .i64 y1)).setCell ⟨RB, 2, none⟩ (.int .i64 y2)).setCell ⟨RB, 3, none⟩ (.int .i64 y3)).setCell ⟨RB, 4, none⟩ (.int .i64 y4)).setCell ⟨RB, 5, none⟩ (.int .i64 y5)).setCell ⟨RB, 6, none⟩ (.bool y6)).setCell ⟨RB, 7, none⟩ (.int .i64 y7)) RA ∧ DSh ((((((((w2.setCell ⟨RB, 0, none⟩ (.int .i64 y0)).setCell ⟨RB, 1, none⟩ (.int .i64 y1)).setCell ⟨RB, 2, none⟩ (.int .i64 y2)).setCell ⟨RB, 3, none⟩ (.int .i64 y3)).setCell ⟨RB, 4, none⟩ (.int .i64 y4)).setCell ⟨RB, 5, none⟩ (.int .i64 y5)).setCell ⟨RB, 6, none⟩ (.bool y6)).setCell ⟨RB, 7, none⟩ (.int .i64 y7)) RB ∧ Below b w ((((((((w2.setCell ⟨RB, 0, none⟩ (.int .i64 y0)).setCell ⟨RB, 1, none⟩ (.int .i64 y1)).setCell ⟨RB, 2, none⟩ (.int .i64 y2)).setCell ⟨RB, 3, none⟩ (.int .i64 y3)).setCell ⟨RB, 4, none⟩ (.int .i64 y4)).setCell ⟨RB, 5, none⟩ (.int .i64 y5)).setCell ⟨RB, 6, none⟩ (.bool y6)).setCell ⟨RB, 7, none⟩ (.int .i64 y7))) from ⟨(far8 w2 A RB n2 y0 y1 y2 y3 y4 y5 y6 y7).trans j1, (far8 w2 B RB n4 y0 y1 y2 y3 y4 y5 y6 y7).trans j2, dsh_far8 j3 n5 y0 y1 y2 y3 y4 y5 y6 y7, ⟨_, _, _, _, _, _, _, _, set8_row hR y0 y1 y2 y3 y4 y5 y6 y7⟩, below8 j5 hRB y0 y1 y2 y3 y4 y5 y6 y7⟩)
      have HM := hide (far8 w2 RA RB n5 y0 y1 y2 y3 y4 y5 y6 y7)
      obtain ⟨⟨c0, c1, c2, c3, c4, c5, c6, c7⟩, f0, f1, f2, f3, f4, f5, f6, f7⟩ := dsh_cells hR
      clear j1 j2 j3 j5 hR
      rw [e1] at hK ⊢
      go_simp
      refine hK undef _ HJ.out HW.out (fun k x hx => ?_)
      rcases k with _ | _ | _ | _ | k
      · exact hx
      · exact hx
      · exact HM.out.trans hx
      · exact HW.out
      · trivial
  case done =>
    intro u w2 hj hV
    exact hQ _ _ w2 hj.2.2.2.2 (hV 2 (by decide)) (hV 3 (by decide))
/-- While two dates are drawn: the reader, the dates' places, the answer's two places. -/
def CS (w : World) (G : Nat) (a : Option Addr) (n cap : Nat) (zs : List Int) (l : List Nat) (w' : World) : Prop :=
  RdAt w' G a n cap zs ∧ Below w.heap.size w w' ∧ w.heap.size + 1 < G ∧ DSh w' w.heap.size ∧ DSh w' (w.heap.size + 1) ∧ ∀ B ∈ l, G < B ∧ DSh w' B
section
variable {w w1 w2 : World} {G : Nat} {a : Option Addr} {n cap : Nat} {zs : List Int} {l : List Nat}
theorem cs_drew (h : CS w G a n cap zs l w1) (k : Drew G a n cap zs w1 w2) : CS w G a n cap zs l w2 := by
  obtain ⟨h1, h2, h3, h4, h5, h6⟩ := h
  exact ⟨k.1, h2.grown k.2 h2.size (fun x hx => by cases hx; omega), h3, dsh_grown h4 k.2 (fun e => by cases e; omega), dsh_grown h5 k.2 (fun e => by cases e; omega), fun B hB => ⟨(h6 B hB).1, dsh_grown (h6 B hB).2 k.2 (fun e => by cases e; have := (h6 G hB).1; omega)⟩⟩
theorem cs_alloc (h : CS w G a n cap zs l w1) (o : Obj) : CS w G a n cap zs l (w1.alloc o) := by
  obtain ⟨h1, h2, h3, h4, h5, h6⟩ := h
  have g := World.grownBy_alloc w1 o none
  exact ⟨rd_alloc h1 o, h2.alloc h2.size o, h3, dsh_grown h4 g (by simp), dsh_grown h5 g (by simp), fun B hB => ⟨(h6 B hB).1, dsh_grown (h6 B hB).2 g (by simp)⟩⟩
theorem cs_new (h : CS w G a n cap zs l w1) (y mo d hh mi s : Int) (g : Bool) (z : Int) : CS w G a n cap zs (w1.heap.size :: l) (w1.alloc (.cells #[.int .i64 y, .int .i64 mo, .int .i64 d, .int .i64 hh, .int .i64 mi, .int .i64 s, .bool g, .int .i64 z] 25)) := by
  have k := cs_alloc h (.cells #[.int .i64 y, .int .i64 mo, .int .i64 d, .int .i64 hh, .int .i64 mi, .int .i64 s, .bool g, .int .i64 z] 25)
  have hlt := rd_lt h.1
  refine ⟨k.1, k.2.1, k.2.2.1, k.2.2.2.1, k.2.2.2.2.1, fun B hB => ?_⟩
  rcases List.mem_cons.1 hB with e | e
  · subst e
    exact ⟨hlt, y, mo, d, hh, mi, s, g, z, heap_alloc_new w1 _⟩
  · exact k.2.2.2.2.2 B e
theorem cs_set {B i : Nat} {v : Value} (h : CS w G a n cap zs l w1) (hB : B ∈ l) (hs : DSh (w1.setCell ⟨B, i, none⟩ v) B) : CS w G a n cap zs l (w1.setCell ⟨B, i, none⟩ v) := by
  obtain ⟨h1, h2, h3, h4, h5, h6⟩ := h
  have hGB := (h6 B hB).1
  have g := grown_set w1 B i v
  refine ⟨rd_grown h1 g (fun k hk => by cases hk; omega), h2.setCell (by simp; omega) _, h3, dsh_grown h4 g (fun e => by cases e; omega), dsh_grown h5 g (fun e => by cases e; omega), fun C hC => ⟨(h6 C hC).1, ?_⟩⟩
  by_cases e : C = B
  · subst e; exact hs
  · exact dsh_grown (h6 C hC).2 g (fun h => e (by cases h; rfl))
theorem cs_set8 {B : Nat} (h : CS w G a n cap zs l w1) (hB : B ∈ l) (x0 x1 x2 x3 x4 x5 : Int) (x6 : Bool) (x7 : Int) : CS w G a n cap zs l ((((((((w1.setCell ⟨B, 0, none⟩ (.int .i64 x0)).setCell ⟨B, 1, none⟩ (.int .i64 x1)).setCell ⟨B, 2, none⟩ (.int .i64 x2)).setCell ⟨B, 3, none⟩ (.int .i64 x3)).setCell ⟨B, 4, none⟩ (.int .i64 x4)).setCell ⟨B, 5, none⟩ (.int .i64 x5)).setCell ⟨B, 6, none⟩ (.bool x6)).setCell ⟨B, 7, none⟩ (.int .i64 x7)) := by
  have t0 := cs_set h hB (dsh_set0 (h.2.2.2.2.2 B hB).2 x0)
  have t1 := cs_set t0 hB (dsh_set1 (t0.2.2.2.2.2 B hB).2 x1)
  have t2 := cs_set t1 hB (dsh_set2 (t1.2.2.2.2.2 B hB).2 x2)
  have t3 := cs_set t2 hB (dsh_set3 (t2.2.2.2.2.2 B hB).2 x3)
  have t4 := cs_set t3 hB (dsh_set4 (t3.2.2.2.2.2 B hB).2 x4)
  have t5 := cs_set t4 hB (dsh_set5 (t4.2.2.2.2.2 B hB).2 x5)
  have t6 := cs_set t5 hB (dsh_set6 (t5.2.2.2.2.2 B hB).2 x6)
  have t7 := cs_set t6 hB (dsh_set7 (t6.2.2.2.2.2 B hB).2 x7)
  exact t7
end
set_option maxRecDepth 100000 in
set_option maxHeartbeats 8000000 in
theorem d_twod (a : Option Addr) (n cap : Nat) (zs : List Int) (w : World) (hl : zs.length = n) (hz : ∀ x ∈ zs, 0 ≤ x ∧ x ≤ 255) (hn : n ≤ 1048576) (hs : SrcAt w a zs w.heap.size) :
    Calls Tryd.prog 5 #[.slice a n cap] w fun e w' => ∃ (x0 x1 x2 x3 x4 x5 : Int) (x6 : Bool) (x7 : Int) (y0 y1 y2 y3 y4 y5 : Int) (y6 : Bool) (y7 : Int), e = .returned (.tuple #[.agg #[.int .i64 x0, .int .i64 x1, .int .i64 x2, .int .i64 x3, .int .i64 x4, .int .i64 x5, .bool x6, .int .i64 x7], .agg #[.int .i64 y0, .int .i64 y1, .int .i64 y2, .int .i64 y3, .int .i64 y4, .int .i64 y5, .bool y6, .int .i64 y7]]) ∧ Below w.heap.size w w' := by
  have HS := hide hs
  have HL := hide hl
  have HZ := hide hz
  clear hs hl hz
  go_enter Tryd.func5, Tryd.ntmps5
  go_wp2_with fail
  have hW : ((w.alloc (.cells #[.int .i64 0, .int .i64 0, .int .i64 0, .int .i64 0, .int .i64 0, .int .i64 0, .bool false, .int .i64 0] 25)).alloc (.cells #[.int .i64 0, .int .i64 0, .int .i64 0, .int .i64 0, .int .i64 0, .int .i64 0, .bool false, .int .i64 0] 25)).heap.size = w.heap.size + 1 + 1 := by simp
  refine (d_open a n cap zs _ HL.out HZ.out hn (src_upD (src_grown (src_grown HS.out (Nat.le_refl _) (World.grownBy_alloc w _ none) (fun k hk => by cases hk)) (by simp) (World.grownBy_alloc _ _ none) (fun k hk => by cases hk)) (by simp; omega))).mono ?_
  rintro e w1 ⟨rfl, hrd, hb1⟩
  rw [hW] at hrd
  have hA1 : DSh (w.alloc (.cells #[.int .i64 0, .int .i64 0, .int .i64 0, .int .i64 0, .int .i64 0, .int .i64 0, .bool false, .int .i64 0] 25)) w.heap.size := ⟨_, _, _, _, _, _, _, _, heap_alloc_new w _⟩
  have hA2 : DSh ((w.alloc (.cells #[.int .i64 0, .int .i64 0, .int .i64 0, .int .i64 0, .int .i64 0, .int .i64 0, .bool false, .int .i64 0] 25)).alloc (.cells #[.int .i64 0, .int .i64 0, .int .i64 0, .int .i64 0, .int .i64 0, .int .i64 0, .bool false, .int .i64 0] 25)) w.heap.size := dsh_grown hA1 (World.grownBy_alloc _ _ none) (by simp)
  have hA3 : DSh ((w.alloc (.cells #[.int .i64 0, .int .i64 0, .int .i64 0, .int .i64 0, .int .i64 0, .int .i64 0, .bool false, .int .i64 0] 25)).alloc (.cells #[.int .i64 0, .int .i64 0, .int .i64 0, .int .i64 0, .int .i64 0, .int .i64 0, .bool false, .int .i64 0] 25)) (w.heap.size + 1) := by
    have := heap_alloc_new (w.alloc (.cells #[.int .i64 0, .int .i64 0, .int .i64 0, .int .i64 0, .int .i64 0, .int .i64 0, .bool false, .int .i64 0] 25)) (.cells #[.int .i64 0, .int .i64 0, .int .i64 0, .int .i64 0, .int .i64 0, .int .i64 0, .bool false, .int .i64 0] 25)
    exact ⟨_, _, _, _, _, _, _, _, by simpa using this⟩
  have gb : ((w.alloc (.cells #[.int .i64 0, .int .i64 0, .int .i64 0, .int .i64 0, .int .i64 0, .int .i64 0, .bool false, .int .i64 0] 25)).alloc (.cells #[.int .i64 0, .int .i64 0, .int .i64 0, .int .i64 0, .int .i64 0, .int .i64 0, .bool false, .int .i64 0] 25)).grownBy w1 none := ⟨hb1.os, hb1.tape, hb1.output, hb1.size, fun k hk _ => hb1.block k hk⟩
  have C0 : Hid (CS w (w.heap.size + 1 + 1) a n cap zs [] w1) := hide ⟨hrd, (((Below.refl w.heap.size w).alloc (Nat.le_refl _) _).alloc (by simp) _).trans (hb1.mono (by rw [hW]; omega)), by omega, dsh_grown hA2 gb (by simp), dsh_grown hA3 gb (by simp), fun B hB => (by cases hB)⟩
  clear hrd hb1 hW hA1 hA2 hA3 gb
  go_wp2_with fail
  refine (d_date (w.heap.size + 1 + 1) a n cap zs _ C0.out.1).mono ?_
  rintro e w2 ⟨x0, x1, x2, x3, x4, x5, x6, x7, rfl, hd⟩
  have C1 := hide (cs_new (cs_drew C0.out hd) x0 x1 x2 x3 x4 x5 x6 x7)
  clear hd
  go_wp2_with fail
  refine (d_date (w.heap.size + 1 + 1) a n cap zs _ C1.out.1).mono ?_
  rintro e w3 ⟨y0, y1, y2, y3, y4, y5, y6, y7, rfl, hd⟩
  have C2 := hide (cs_new (cs_drew C1.out hd) y0 y1 y2 y3 y4 y5 y6 y7)
  clear hd
  go_wp2_with fail
  refine (d_once (w.heap.size + 1 + 1) a n cap zs 2 _ (by omega) (by omega) C2.out.1).mono ?_
  rintro e w4 ⟨b, rfl, hd⟩
  have C3 := hide (cs_drew C2.out hd)
  clear hd
  cases b
  · go_wp2_with fail
    have CE := C3
    have n0 := CE.out.2.2.1
    have n5 := (CE.out.2.2.2.2.2 w2.heap.size (by simp)).1
    have n6 := (CE.out.2.2.2.2.2 w3.heap.size (by simp)).1
    have n1 : ¬ w2.heap.size = w.heap.size := by omega
    have n2 : ¬ w.heap.size = w2.heap.size := by omega
    have n3 : ¬ w2.heap.size = w.heap.size + 1 := by omega
    have n4 : ¬ w.heap.size + 1 = w2.heap.size := by omega
    have m1 : ¬ w3.heap.size = w.heap.size := by omega
    have m2 : ¬ w.heap.size = w3.heap.size := by omega
    have m3 : ¬ w3.heap.size = w.heap.size + 1 := by omega
    have m4 : ¬ w.heap.size + 1 = w3.heap.size := by omega
    have hsh := (CE.out.2.2.2.2.2 w2.heap.size (by simp)).2
    obtain ⟨yp, mop, dp, hp, mip, sp, gp, zp, hsh⟩ := hsh
    have HA := hide hsh
    clear hsh
    have hsh := (CE.out.2.2.2.2.2 w3.heap.size (by simp)).2
    obtain ⟨yq, moq, dq, hq, miq, sq, gq, zq, hsh⟩ := hsh
    have HB := hide hsh
    clear hsh
    refine end_two (A := w2.heap.size) (B := w3.heap.size) (RA := w.heap.size) (RB := w.heap.size + 1) (w := w) HA.out HB.out CE.out.2.2.2.1 CE.out.2.2.2.2.1 n1 n3 m1 m3 (by omega) (by omega) (by omega) CE.out.2.1 ?_
    intro u29 u30 wF hbF hF1 hF2
    have HBF := hide hbF
    have HF1 := hide hF1
    have HF2 := hide hF2
    clear hbF hF1 hF2
    go_wp2
    exact bodyPost_ret (v := .tuple #[.agg #[.int .i64 yp, .int .i64 mop, .int .i64 dp, .int .i64 hp, .int .i64 mip, .int .i64 sp, .bool gp, .int .i64 zp], .agg #[.int .i64 yq, .int .i64 moq, .int .i64 dq, .int .i64 hq, .int .i64 miq, .int .i64 sq, .bool gq, .int .i64 zq]]) (ret_twoD Tryd.results5 _ _ w.heap.size (w.heap.size + 1) 25 25 _ _ _ _ _ rfl rfl HF1.out HF2.out Tryd.underlying25 rfl (by kernel_rfl) (by kernel_rfl)) rfl ⟨_, _, _, _, _, _, _, _, _, _, _, _, _, _, _, _, rfl, HBF.out⟩
  · have hGB := (C3.out.2.2.2.2.2 w3.heap.size (by simp)).1
    have hsh := (C3.out.2.2.2.2.2 w2.heap.size (by simp)).2
    obtain ⟨ya, moa, da, ha, mia, sa, ga, za, hsh⟩ := hsh
    obtain ⟨⟨ac0, ac1, ac2, ac3, ac4, ac5, ac6, ac7⟩, af0, af1, af2, af3, af4, af5, af6, af7⟩ := dsh_cells hsh
    clear hsh
    have hsh := (C3.out.2.2.2.2.2 w3.heap.size (by simp)).2
    obtain ⟨yb, mob, db, hb, mib, sb, gb, zb, hsh⟩ := hsh
    obtain ⟨⟨bc0, bc1, bc2, bc3, bc4, bc5, bc6, bc7⟩, bf0, bf1, bf2, bf3, bf4, bf5, bf6, bf7⟩ := dsh_cells hsh
    clear hsh
    have C4 := hide (cs_set8 (B := w3.heap.size) C3.out (by simp) ya moa da ha mia sa ga za)
    go_wp2_with fail
    refine (d_below (w.heap.size + 1 + 1) a n cap zs 4 _ (by omega) (by omega) (rd_alloc C4.out.1 _)).mono ?_
    rintro e w5 ⟨x, hx0, hx1, rfl, hd⟩
    obtain ⟨v, hv⟩ := dint_cell hd.2 hx0 hx1 rfl (rd_lt C4.out.1) (fun k hk => by have hk2 : k < 4 := hk; rcases (show k = 0 ∨ k = 1 ∨ k = 2 ∨ k = 3 by omega) with e | e | e | e <;> subst e <;> exact ⟨_, rfl⟩)
    have hv2 : w5.cell? ⟨w4.heap.size, x.toNat, none⟩ = some (.int .i64 v) := by simpa using hv
    clear hv
    have C5 := hide (cs_drew (cs_alloc C4.out _) hd)
    clear hd
    have C6 := hide (cs_set (B := w3.heap.size) C5.out (by simp) (dsh_set3 (C5.out.2.2.2.2.2 w3.heap.size (by simp)).2 v))
    have hsh := (C5.out.2.2.2.2.2 w3.heap.size (by simp)).2
    obtain ⟨yc, moc, dc, hc, mic, sc, gc, zc, hsh⟩ := hsh
    obtain ⟨⟨-, -, -, cc3, -, -, -, -⟩, -, -, -, cf3, -, -, -, -⟩ := dsh_cells hsh
    clear hsh
    go_wp2_with fail
    refine (d_once (w.heap.size + 1 + 1) a n cap zs 2 _ (by omega) (by omega) C6.out.1).mono ?_
    rintro e w6 ⟨b, rfl, hd⟩
    have C7 := hide (cs_drew C6.out hd)
    clear hd
    clear ac0 ac1 ac2 ac3 ac4 ac5 ac6 ac7 af0 af1 af2 af3 af4 af5 af6 af7 bc0 bc1 bc2 bc3 bc4 bc5 bc6 bc7 bf0 bf1 bf2 bf3 bf4 bf5 bf6 bf7 cc3 cf3 hv2
    cases b
    · go_wp2_with fail
      have CE := C7
      have n0 := CE.out.2.2.1
      have n5 := (CE.out.2.2.2.2.2 w2.heap.size (by simp)).1
      have n6 := (CE.out.2.2.2.2.2 w3.heap.size (by simp)).1
      have n1 : ¬ w2.heap.size = w.heap.size := by omega
      have n2 : ¬ w.heap.size = w2.heap.size := by omega
      have n3 : ¬ w2.heap.size = w.heap.size + 1 := by omega
      have n4 : ¬ w.heap.size + 1 = w2.heap.size := by omega
      have m1 : ¬ w3.heap.size = w.heap.size := by omega
      have m2 : ¬ w.heap.size = w3.heap.size := by omega
      have m3 : ¬ w3.heap.size = w.heap.size + 1 := by omega
      have m4 : ¬ w.heap.size + 1 = w3.heap.size := by omega
      have hsh := (CE.out.2.2.2.2.2 w2.heap.size (by simp)).2
      obtain ⟨yp, mop, dp, hp, mip, sp, gp, zp, hsh⟩ := hsh
      have HA := hide hsh
      clear hsh
      have hsh := (CE.out.2.2.2.2.2 w3.heap.size (by simp)).2
      obtain ⟨yq, moq, dq, hq, miq, sq, gq, zq, hsh⟩ := hsh
      have HB := hide hsh
      clear hsh
      refine end_two (A := w2.heap.size) (B := w3.heap.size) (RA := w.heap.size) (RB := w.heap.size + 1) (w := w) HA.out HB.out CE.out.2.2.2.1 CE.out.2.2.2.2.1 n1 n3 m1 m3 (by omega) (by omega) (by omega) CE.out.2.1 ?_
      intro u29 u30 wF hbF hF1 hF2
      have HBF := hide hbF
      have HF1 := hide hF1
      have HF2 := hide hF2
      clear hbF hF1 hF2
      go_wp2
      exact bodyPost_ret (v := .tuple #[.agg #[.int .i64 yp, .int .i64 mop, .int .i64 dp, .int .i64 hp, .int .i64 mip, .int .i64 sp, .bool gp, .int .i64 zp], .agg #[.int .i64 yq, .int .i64 moq, .int .i64 dq, .int .i64 hq, .int .i64 miq, .int .i64 sq, .bool gq, .int .i64 zq]]) (ret_twoD Tryd.results5 _ _ w.heap.size (w.heap.size + 1) 25 25 _ _ _ _ _ rfl rfl HF1.out HF2.out Tryd.underlying25 rfl (by kernel_rfl) (by kernel_rfl)) rfl ⟨_, _, _, _, _, _, _, _, _, _, _, _, _, _, _, _, rfl, HBF.out⟩
    · have hsh := (C7.out.2.2.2.2.2 w2.heap.size (by simp)).2
      obtain ⟨ye, moe, de, he, mie, se, ge, ze, hsh⟩ := hsh
      obtain ⟨⟨-, -, -, -, -, -, ec6, -⟩, -, -, -, -, -, -, ef6, -⟩ := dsh_cells hsh
      clear hsh
      have C8 := hide (cs_set (B := w3.heap.size) C7.out (by simp) (dsh_set6 (C7.out.2.2.2.2.2 w3.heap.size (by simp)).2 (!ge)))
      have C9 := hide (cs_set (B := w3.heap.size) C8.out (by simp) (dsh_set7 (C8.out.2.2.2.2.2 w3.heap.size (by simp)).2 0))
      have hsh := (C7.out.2.2.2.2.2 w3.heap.size (by simp)).2
      obtain ⟨yf, mof, df, hf, mif, sf, gf, zf, hsh⟩ := hsh
      obtain ⟨⟨-, -, -, -, -, -, fc6, fc7⟩, -, -, -, -, -, -, ff6, ff7⟩ := dsh_cells hsh
      clear hsh
      go_wp2_with fail
      obtain ⟨wE, CE, hE⟩ : ∃ wE, Hid (CS w (w.heap.size + 1 + 1) a n cap zs [w3.heap.size, w2.heap.size] wE) ∧ ((w6.setCell ⟨w3.heap.size, 6, none⟩ (.bool (!ge))).setCell ⟨w3.heap.size, 7, none⟩ (.int .i64 0)) = wE := ⟨_, C9, rfl⟩
      rw [hE]
      clear hE
      have n0 := CE.out.2.2.1
      have n5 := (CE.out.2.2.2.2.2 w2.heap.size (by simp)).1
      have n6 := (CE.out.2.2.2.2.2 w3.heap.size (by simp)).1
      have n1 : ¬ w2.heap.size = w.heap.size := by omega
      have n2 : ¬ w.heap.size = w2.heap.size := by omega
      have n3 : ¬ w2.heap.size = w.heap.size + 1 := by omega
      have n4 : ¬ w.heap.size + 1 = w2.heap.size := by omega
      have m1 : ¬ w3.heap.size = w.heap.size := by omega
      have m2 : ¬ w.heap.size = w3.heap.size := by omega
      have m3 : ¬ w3.heap.size = w.heap.size + 1 := by omega
      have m4 : ¬ w.heap.size + 1 = w3.heap.size := by omega
      have hsh := (CE.out.2.2.2.2.2 w2.heap.size (by simp)).2
      obtain ⟨yp, mop, dp, hp, mip, sp, gp, zp, hsh⟩ := hsh
      have HA := hide hsh
      clear hsh
      have hsh := (CE.out.2.2.2.2.2 w3.heap.size (by simp)).2
      obtain ⟨yq, moq, dq, hq, miq, sq, gq, zq, hsh⟩ := hsh
      have HB := hide hsh
      clear hsh
      refine end_two (A := w2.heap.size) (B := w3.heap.size) (RA := w.heap.size) (RB := w.heap.size + 1) (w := w) HA.out HB.out CE.out.2.2.2.1 CE.out.2.2.2.2.1 n1 n3 m1 m3 (by omega) (by omega) (by omega) CE.out.2.1 ?_
      intro u29 u30 wF hbF hF1 hF2
      have HBF := hide hbF
      have HF1 := hide hF1
      have HF2 := hide hF2
      clear hbF hF1 hF2
      go_wp2
      exact bodyPost_ret (v := .tuple #[.agg #[.int .i64 yp, .int .i64 mop, .int .i64 dp, .int .i64 hp, .int .i64 mip, .int .i64 sp, .bool gp, .int .i64 zp], .agg #[.int .i64 yq, .int .i64 moq, .int .i64 dq, .int .i64 hq, .int .i64 miq, .int .i64 sq, .bool gq, .int .i64 zq]]) (ret_twoD Tryd.results5 _ _ w.heap.size (w.heap.size + 1) 25 25 _ _ _ _ _ rfl rfl HF1.out HF2.out Tryd.underlying25 rfl (by kernel_rfl) (by kernel_rfl)) rfl ⟨_, _, _, _, _, _, _, _, _, _, _, _, _, _, _, _, rfl, HBF.out⟩
end Go.Proofs.YtgefgkaofknfdaaDoor
