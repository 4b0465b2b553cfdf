/-
  Plain laws on how a row of model nodes lies: of no program.
-/
import Derived.Test.YtfohfljdgmlibaaPnRow
import Derived.Lib.SmallJoins
import Derived.Deep.SlicePairs
import Derived.WalkKit
import Derived.ProofKit
import Derived.OpenShut
import Derived.Below
namespace Go.Proofs.Ytfohfljdgmlibaa
open Go.ChangeShapes Go.WideShapes Go.RowKit Go.Deep Go.WideElems
set_option linter.unusedVariables false
structure PnD where
  K : Int
  NM : ByteArray
  KL : List Int
  OC : Int
instance : Inhabited PnD := ⟨⟨0, ⟨#[]⟩, [], 0⟩⟩
section
variable {H : Type} {enc : TypeId × Value → H} {P : Program} {w : World} {base : Nat} {spare : Nat → Bool} {held : Bool}
theorem trod_struct4 {t : TypeId} {f0 f1 f2 f3 : Field} {fuel : Nat} {cs : List Value} {x : DataW H × List MemPlace} (ht : P.underlying t = some (.struct #[f0, f1, f2, f3])) (h : DataW.trod enc P w base spare held fuel t cs = some x) :
    ∃ y0 y1 y2 y3 n, x.1 = .agg [y0.1, y1.1, y2.1, y3.1] ∧ cs.length = P.cellsOf t ∧ DataW.trod enc P w base spare held n f0.type ((cs.drop f0.offset).take (P.cellsOf f0.type)) = some y0 ∧
      DataW.trod enc P w base spare held n f1.type ((cs.drop f1.offset).take (P.cellsOf f1.type)) = some y1 ∧
      DataW.trod enc P w base spare held n f2.type ((cs.drop f2.offset).take (P.cellsOf f2.type)) = some y2 ∧
      DataW.trod enc P w base spare held n f3.type ((cs.drop f3.offset).take (P.cellsOf f3.type)) = some y3 := by
  obtain ⟨xs, n, _, rfl, hl, hlen, hf⟩ := DataW.trod_struct ht h
  match xs, hlen with
  | [y0, y1, y2, y3], _ => exact ⟨y0, y1, y2, y3, n, by simp, hl, by simpa using hf 0 f0 rfl, by simpa using hf 1 f1 rfl, by simpa using hf 2 f2 rfl, by simpa using hf 3 f3 rfl⟩
theorem ints_of {t e : TypeId} {fuel : Nat} {v : Value} {x : DataW H × List MemPlace} (ht : P.underlying t = some (.slice e)) (he : P.underlying e = some (.int .i64)) (ce : P.cellsOf e = 1)
    (h : DataW.trod enc P w 0 (fun _ => true) held fuel t [v] = some x) : ∃ a n c xs, v = .slice a n c ∧ xs.length = n ∧ n ≤ maxLen ∧ n ≤ c ∧ RowAt .i64 w a xs w.heap.size := by
  rcases open_ints ht he ce h with ⟨hc, _⟩ | ⟨a, len, cap, zs, hc, _, hl, hm, hz, _, hcell, hwz⟩
  · simp only [List.cons.injEq, and_true] at hc
    exact ⟨none, 0, 0, [], hc, rfl, Nat.zero_le _, Nat.le_refl _, fun h0 => absurd rfl h0⟩
  · simp only [List.cons.injEq, and_true] at hc
    have hz' : zs.length = cap := by simpa using hz
    refine ⟨some a, len, cap, zs.take len, hc, by rw [List.length_take]; omega, by omega, hl, fun h0 => ?_⟩
    have hlen : 0 < len := by
      rcases Nat.eq_zero_or_pos len with h | h
      · subst h; exact absurd rfl h0
      · exact h
    obtain ⟨sb, so, spot⟩ := a
    have hspot : spot = none := by simpa [Addr.add] using World.cell?_spot (hcell 0 (by omega))
    subst hspot
    refine ⟨sb, so, rfl, World.block_lt_of_cell? w _ (hcell 0 (by omega)), fun j hj => ?_⟩
    have hj' : j < len := by rw [List.length_take] at hj; omega
    have := hcell j (by omega)
    rw [add_plain] at this
    rw [this, List.getElem?_take, if_pos hj', List.getD_eq_getElem?_getD]
theorem pnit_of {e er : TypeId} {f0 f1 f2 f3 : Field} {fuel : Nat} {cs : List Value} {x : DataW H × List MemPlace} (he : P.underlying e = some (.struct #[f0, f1, f2, f3])) (hone : oneCellFields P #[f0, f1, f2, f3] = true)
    (u0 : P.underlying f0.type = some (.int .i64)) (u1 : P.underlying f1.type = some .string) (u2 : P.underlying f2.type = some (.slice er)) (u3 : P.underlying f3.type = some (.int .i64))
    (er2 : P.underlying er = some (.int .i64)) (cr : P.cellsOf er = 1)
    (hl : cs.length = 4) (h : DataW.trod enc P w 0 (fun _ => true) held fuel e cs = some x) :
    ∃ (q : PnD) (ad : Option Addr) (cp : Nat), cs = [.int .i64 q.K, .string q.NM, .slice ad q.KL.length cp, .int .i64 q.OC] ∧ q.NM.size ≤ maxLen ∧ q.KL.length ≤ maxLen ∧ q.KL.length ≤ cp ∧ RowAt .i64 w ad q.KL w.heap.size := by
  match cs, hl with
  | [c0, c1, c2, c3], _ =>
    obtain ⟨y0, y1, y2, y3, n, -, -, h0, h1, h2, h3⟩ := trod_struct4 he h
    obtain ⟨p0, q0⟩ := hone_of hone 0 f0 rfl
    obtain ⟨p1, q1⟩ := hone_of hone 1 f1 rfl
    obtain ⟨p2, q2⟩ := hone_of hone 2 f2 rfl
    obtain ⟨p3, q3⟩ := hone_of hone 3 f3 rfl
    simp only [p0, q0, p1, q1, p2, q2, p3, q3, List.drop_zero, List.drop_succ_cons, List.take_succ_cons, List.take_zero] at h0 h1 h2 h3
    obtain ⟨m0, e0, -, -⟩ := DataW.trod_int u0 h0
    obtain ⟨m1, e1, -, w1⟩ := DataW.trod_string u1 h1
    obtain ⟨ad, nr, cp, xs, e2, hxs, hn, hcp, hr⟩ := ints_of u2 er2 cr h2
    obtain ⟨m3, e3, -, -⟩ := DataW.trod_int u3 h3
    simp only [List.cons.injEq, and_true] at e0 e1 e3
    subst hxs
    exact ⟨⟨m0, m1, xs, m3⟩, ad, cp, by rw [e0, e1, e2, e3], w1, hn, hcp, hr⟩
theorem pn_of {t e er : TypeId} {f0 f1 f2 f3 : Field} {fuel : Nat} {v : Value} {x : DataW H × List MemPlace} (ht : P.underlying t = some (.slice e)) (he : P.underlying e = some (.struct #[f0, f1, f2, f3])) (ce : P.cellsOf e = 4) (hone : oneCellFields P #[f0, f1, f2, f3] = true)
    (u0 : P.underlying f0.type = some (.int .i64)) (u1 : P.underlying f1.type = some .string) (u2 : P.underlying f2.type = some (.slice er)) (u3 : P.underlying f3.type = some (.int .i64))
    (er2 : P.underlying er = some (.int .i64)) (cr : P.cellsOf er = 1)
    (h : DataW.trod enc P w 0 (fun _ => true) held fuel t [v] = some x) :
    ∃ (a : Option Addr) (n c : Nat) (D : Pn), v = .slice a n c ∧ D.n = n ∧ PnSz D ∧ PnAt w a D w.heap.size := by
  rcases open_slice ht h with ⟨hc, -⟩ | ⟨a, len, cap, m, n, D, Pl, hc, -, hl, hm, hmm, -, hx⟩
  · simp only [List.cons.injEq, and_true] at hc
    exact ⟨none, 0, 0, ⟨0, fun _ => 0, fun _ => ⟨#[]⟩, fun _ => [], fun _ => 0⟩, hc, rfl, ⟨Nat.zero_le _, fun j hj => absurd hj (Nat.not_lt_zero j)⟩, fun h0 => absurd h0 (Nat.lt_irrefl _)⟩
  · simp only [List.cons.injEq, and_true] at hc
    simp only [if_true] at hmm
    subst hmm
    have each : ∀ i, i < m → ∃ q : PnD, ∃ (ad : Option Addr) (cp : Nat), (w.cell? (a.add (i * 4)) = some (.int .i64 q.K) ∧ w.cell? (a.add (i * 4 + 1)) = some (.string q.NM) ∧ w.cell? (a.add (i * 4 + 2)) = some (.slice ad q.KL.length cp) ∧ w.cell? (a.add (i * 4 + 3)) = some (.int .i64 q.OC)) ∧ q.NM.size ≤ maxLen ∧ q.KL.length ≤ maxLen ∧ q.KL.length ≤ cp ∧ RowAt .i64 w ad q.KL w.heap.size := by
      intro i hi
      obtain ⟨cs', h1, h2⟩ := hx i hi
      rw [ce] at h1
      obtain ⟨_, hlen, hcell⟩ := World.cells?_some h1
      obtain ⟨q, ad, cp, rfl, r1, r2, r3, r4⟩ := pnit_of he hone u0 u1 u2 u3 er2 cr hlen h2
      refine ⟨q, ad, cp, ⟨?_, ?_, ?_, ?_⟩, r1, r2, r3, r4⟩
      · have := hcell 0 (by omega); rw [add_add] at this; simpa using this
      · have := hcell 1 (by omega); rw [add_add] at this; simpa using this
      · have := hcell 2 (by omega); rw [add_add] at this; simpa using this
      · have := hcell 3 (by omega); rw [add_add] at this; simpa using this
    obtain ⟨q, hq⟩ := choose_lt each
    refine ⟨some a, len, m, ⟨len, fun i => (q i).K, fun i => (q i).NM, fun i => (q i).KL, fun i => (q i).OC⟩, hc, rfl, ⟨by show len ≤ maxLen; omega, fun j hj => ?_⟩, fun h0 => ?_⟩
    · have hj' : j < len := hj
      obtain ⟨ad, cp, -, r1, r2, -, -⟩ := hq j (by omega)
      exact ⟨r1, r2⟩
    · obtain ⟨sb, so, spot⟩ := a
      have h0' : 0 < len := h0
      obtain ⟨_, _, ⟨hz, _⟩, _⟩ := hq 0 (by omega)
      have hspot : spot = none := by simpa [Addr.add] using World.cell?_spot hz
      subst hspot
      refine ⟨sb, so, rfl, World.block_lt_of_cell? w _ hz, fun j hj => ?_⟩
      obtain ⟨ad, cp, ⟨z0, z1, z2, z3⟩, -, -, r3, r4⟩ := hq j (by have hj' : j < len := hj; omega)
      rw [add_plain] at z0 z1 z2 z3
      exact ⟨ad, cp, ⟨z0, z1, z2, z3⟩, r4, r3⟩
end
end Go.Proofs.Ytfohfljdgmlibaa
