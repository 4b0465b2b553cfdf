/-
  Plain laws on how a row of plain structs lies: of no program.
-/
import Derived.Test.YtfoheoidfcbopaaDoorMkRw
import Derived.Lib.SmallJoins
import Derived.Deep.SlicePairs
import Derived.WalkKit
import Derived.ProofKit
import Derived.OpenShut
import Derived.Below
namespace Go.Proofs.YtfoheoidfcbopaaDoor
open Go.ChangeShapes Go.WideShapes Go.RowKit Go.Deep Go.WideElems
set_option linter.unusedVariables false
structure MkD where
  G : Bool
  DC : Int
  VL : ByteArray
  NL : Bool
  GV : Bool
instance : Inhabited MkD := ⟨⟨false, 0, ⟨#[]⟩, false, false⟩⟩
section
variable {H : Type} {enc : TypeId × Value → H} {P : Program} {w : World} {base : Nat} {spare : Nat → Bool} {held : Bool}
theorem mkit_of {e : TypeId} {f0 f1 f2 f3 f4 : Field} {fuel : Nat} {cs : List Value} {x : DataW H × List MemPlace} (he : P.underlying e = some (.struct #[f0, f1, f2, f3, f4])) (hone : oneCellFields P #[f0, f1, f2, f3, f4] = true)
    (u0 : P.underlying f0.type = some .bool) (u1 : P.underlying f1.type = some (.int .i64)) (u2 : P.underlying f2.type = some .string) (u3 : P.underlying f3.type = some .bool) (u4 : P.underlying f4.type = some .bool)
    (hl : cs.length = 5) (h : DataW.trod enc P w 0 (fun _ => true) held fuel e cs = some x) :
    ∃ (q : MkD), cs = [.bool q.G, .int .i64 q.DC, .string q.VL, .bool q.NL, .bool q.GV] ∧ q.VL.size ≤ maxLen := by
  match cs, hl with
  | [c0, c1, c2, c3, c4], _ =>
    obtain ⟨xs, n, _, -, -, hlen, hf⟩ := DataW.trod_struct he h
    match xs, hlen with
    | [y0, y1, y2, y3, y4], _ =>
      have h0 := hf 0 f0 rfl
      obtain ⟨p0, q0⟩ := hone_of hone 0 f0 rfl
      have h1 := hf 1 f1 rfl
      obtain ⟨p1, q1⟩ := hone_of hone 1 f1 rfl
      have h2 := hf 2 f2 rfl
      obtain ⟨p2, q2⟩ := hone_of hone 2 f2 rfl
      have h3 := hf 3 f3 rfl
      obtain ⟨p3, q3⟩ := hone_of hone 3 f3 rfl
      have h4 := hf 4 f4 rfl
      obtain ⟨p4, q4⟩ := hone_of hone 4 f4 rfl
      simp only [p0, q0, p1, q1, p2, q2, p3, q3, p4, q4, List.drop_zero, List.drop_succ_cons, List.take_succ_cons, List.take_zero] at h0 h1 h2 h3 h4
      obtain ⟨m0, e0, -⟩ := DataW.trod_bool u0 h0
      obtain ⟨m1, e1, -, -⟩ := DataW.trod_int u1 h1
      obtain ⟨m2, e2, -, w2⟩ := DataW.trod_string u2 h2
      obtain ⟨m3, e3, -⟩ := DataW.trod_bool u3 h3
      obtain ⟨m4, e4, -⟩ := DataW.trod_bool u4 h4
      simp only [List.cons.injEq, and_true] at e0 e1 e2 e3 e4
      exact ⟨⟨m0, m1, m2, m3, m4⟩, by rw [e0, e1, e2, e3, e4], w2⟩
theorem mk_of {t e : TypeId} {f0 f1 f2 f3 f4 : Field} {fuel : Nat} {v : Value} {x : DataW H × List MemPlace} (ht : P.underlying t = some (.slice e)) (he : P.underlying e = some (.struct #[f0, f1, f2, f3, f4])) (ce : P.cellsOf e = 5) (hone : oneCellFields P #[f0, f1, f2, f3, f4] = true)
    (u0 : P.underlying f0.type = some .bool) (u1 : P.underlying f1.type = some (.int .i64)) (u2 : P.underlying f2.type = some .string) (u3 : P.underlying f3.type = some .bool) (u4 : P.underlying f4.type = some .bool)
    (h : DataW.trod enc P w 0 (fun _ => true) held fuel t [v] = some x) :
    ∃ (a : Option Addr) (n c : Nat) (M : Mk), v = .slice a n c ∧ M.n = n ∧ MkSz M ∧ MkAt w a M w.heap.size := by
  rcases open_slice ht h with ⟨hc, -⟩ | ⟨a, len, cap, m, n, D, Pl, hc, -, hl, hm, hmm, -, hx⟩
  · simp only [List.cons.injEq, and_true] at hc
    exact ⟨none, 0, 0, ⟨0, fun _ => false, fun _ => 0, fun _ => ⟨#[]⟩, fun _ => false, fun _ => false⟩, hc, rfl, ⟨Nat.zero_le _, fun j hj => absurd hj (Nat.not_lt_zero j)⟩, fun h0 => absurd h0 (Nat.lt_irrefl _)⟩
  · simp only [List.cons.injEq, and_true] at hc
    simp only [if_true] at hmm
    subst hmm
    have each : ∀ i, i < m → ∃ q : MkD, (w.cell? (a.add (i * 5)) = some (.bool q.G) ∧ w.cell? (a.add (i * 5 + 1)) = some (.int .i64 q.DC) ∧ w.cell? (a.add (i * 5 + 2)) = some (.string q.VL) ∧ w.cell? (a.add (i * 5 + 3)) = some (.bool q.NL) ∧ w.cell? (a.add (i * 5 + 4)) = some (.bool q.GV)) ∧ q.VL.size ≤ maxLen := by
      intro i hi
      obtain ⟨cs', h1, h2⟩ := hx i hi
      rw [ce] at h1
      obtain ⟨_, hlen, hcell⟩ := World.cells?_some h1
      obtain ⟨q, rfl, r0⟩ := mkit_of he hone u0 u1 u2 u3 u4 hlen h2
      refine ⟨q, ⟨?_, ?_, ?_, ?_, ?_⟩, r0⟩
      · have := hcell 0 (by omega); rw [add_add] at this; simpa using this
      · have := hcell 1 (by omega); rw [add_add] at this; simpa using this
      · have := hcell 2 (by omega); rw [add_add] at this; simpa using this
      · have := hcell 3 (by omega); rw [add_add] at this; simpa using this
      · have := hcell 4 (by omega); rw [add_add] at this; simpa using this
    obtain ⟨q, hq⟩ := choose_lt each
    refine ⟨some a, len, m, ⟨len, fun i => (q i).G, fun i => (q i).DC, fun i => (q i).VL, fun i => (q i).NL, fun i => (q i).GV⟩, hc, rfl, ⟨by show len ≤ maxLen; omega, fun j hj => ?_⟩, fun h0 => ?_⟩
    · have hj' : j < len := hj
      exact (hq j (by omega)).2
    · obtain ⟨sb, so, spot⟩ := a
      have h0' : 0 < len := h0
      have hz := (hq 0 (by omega)).1.1
      have hspot : spot = none := by simpa [Addr.add] using World.cell?_spot hz
      subst hspot
      refine ⟨sb, so, rfl, World.block_lt_of_cell? w _ hz, fun j hj => ?_⟩
      obtain ⟨z0, z1, z2, z3, z4⟩ := (hq j (by have hj' : j < len := hj; omega)).1
      rw [add_plain] at z0 z1 z2 z3 z4
      exact ⟨z0, z1, z2, z3, z4⟩
end
end Go.Proofs.YtfoheoidfcbopaaDoor
