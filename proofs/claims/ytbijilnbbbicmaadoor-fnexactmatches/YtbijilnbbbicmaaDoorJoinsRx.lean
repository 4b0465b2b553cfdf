/-
  Plain laws on how a row of nodes lies: of no program.
-/
import Derived.Test.YtbijilnbbbicmaaDoorJoins7
import Derived.Test.YtbijilnbbbicmaaDoorRxRow
namespace Go.Proofs.YtbijilnbbbicmaaDoor
open Go.ChangeShapes Go.WideShapes Go.RowKit Go.Deep Go.WideElems
set_option linter.unusedVariables false
structure Nd where
  K : Int
  NT : Bool
  NR : Nat
  A : Int
  B : Int
  MN : Int
  MX : Int
  L : Nat → Int
  H : Nat → Int
instance : Inhabited Nd := ⟨⟨0, false, 0, 0, 0, 0, 0, fun _ => 0, fun _ => 0⟩⟩
section
variable {H : Type} {enc : TypeId × Value → H} {P : Program} {w : World} {held : Bool}
theorem nd_of {e er : TypeId} {f0 f1 f2 f3 f4 f5 f6 g0 g1 : Field} {fuel : Nat} {cs : List Value} {x : DataW H × List MemPlace} (he : P.underlying e = some (.struct #[f0, f1, f2, f3, f4, f5, f6])) (ce : P.cellsOf e = 7) (hone : oneCellFields P #[f0, f1, f2, f3, f4, f5, f6] = true)
    (u0 : P.underlying f0.type = some (.int .i64)) (u1 : P.underlying f1.type = some .bool) (u2 : P.underlying f2.type = some (.slice er)) (u3 : P.underlying f3.type = some (.int .i64)) (u4 : P.underlying f4.type = some (.int .i64)) (u5 : P.underlying f5.type = some (.int .i64)) (u6 : P.underlying f6.type = some (.int .i64))
    (er2 : P.underlying er = some (.struct #[g0, g1])) (cr : P.cellsOf er = 2) (o0 : g0.offset = 0) (o1 : g1.offset = 1) (k0 : P.cellsOf g0.type = 1) (k1 : P.cellsOf g1.type = 1) (v0 : P.underlying g0.type = some (.int .i64)) (v1 : P.underlying g1.type = some (.int .i64))
    (hl : cs.length = 7) (h : DataW.trod enc P w 0 (fun _ => true) held fuel e cs = some x) :
    ∃ (q : Nd) (ad : Option Addr) (cp : Nat), cs = [.int .i64 q.K, .bool q.NT, .slice ad q.NR cp, .int .i64 q.A, .int .i64 q.B, .int .i64 q.MN, .int .i64 q.MX] ∧ q.NR ≤ maxLen ∧ RngAt w ad q.NR q.L q.H w.heap.size := by
  match cs, hl with
  | [c0, c1, c2, c3, c4, c5, c6], _ =>
    obtain ⟨y0, y1, y2, y3, y4, y5, y6, n, -, -, h0, h1, h2, h3, h4, h5, h6⟩ := trod_struct7 he h
    obtain ⟨p0, q0⟩ := hone_of hone 0 f0 rfl
    obtain ⟨p1, q1⟩ := hone_of hone 1 f1 rfl
    obtain ⟨p2, q2⟩ := hone_of hone 2 f2 rfl
    obtain ⟨p3, q3⟩ := hone_of hone 3 f3 rfl
    obtain ⟨p4, q4⟩ := hone_of hone 4 f4 rfl
    obtain ⟨p5, q5⟩ := hone_of hone 5 f5 rfl
    obtain ⟨p6, q6⟩ := hone_of hone 6 f6 rfl
    simp only [p0, q0, p1, q1, p2, q2, p3, q3, p4, q4, p5, q5, p6, q6, List.drop_zero, List.drop_succ_cons, List.take_succ_cons, List.take_zero] at h0 h1 h2 h3 h4 h5 h6
    obtain ⟨m0, e0, -, -⟩ := DataW.trod_int u0 h0
    obtain ⟨m1, e1, -⟩ := DataW.trod_bool u1 h1
    obtain ⟨ad, nr, cp, L, H', e2, hn, hr⟩ := rng_of u2 er2 cr o0 o1 k0 k1 v0 v1 h2
    obtain ⟨m3, e3, -, -⟩ := DataW.trod_int u3 h3
    obtain ⟨m4, e4, -, -⟩ := DataW.trod_int u4 h4
    obtain ⟨m5, e5, -, -⟩ := DataW.trod_int u5 h5
    obtain ⟨m6, e6, -, -⟩ := DataW.trod_int u6 h6
    simp only [List.cons.injEq, and_true] at e0 e1 e3 e4 e5 e6
    exact ⟨⟨m0, m1, nr, m3, m4, m5, m6, L, H'⟩, ad, cp, by rw [e0, e1, e2, e3, e4, e5, e6], hn, hr⟩
theorem rx_of {t e er : TypeId} {f0 f1 f2 f3 f4 f5 f6 g0 g1 : Field} {fuel : Nat} {v : Value} {x : DataW H × List MemPlace} (ht : P.underlying t = some (.slice e)) (he : P.underlying e = some (.struct #[f0, f1, f2, f3, f4, f5, f6])) (ce : P.cellsOf e = 7) (hone : oneCellFields P #[f0, f1, f2, f3, f4, f5, f6] = true)
    (u0 : P.underlying f0.type = some (.int .i64)) (u1 : P.underlying f1.type = some .bool) (u2 : P.underlying f2.type = some (.slice er)) (u3 : P.underlying f3.type = some (.int .i64)) (u4 : P.underlying f4.type = some (.int .i64)) (u5 : P.underlying f5.type = some (.int .i64)) (u6 : P.underlying f6.type = some (.int .i64))
    (er2 : P.underlying er = some (.struct #[g0, g1])) (cr : P.cellsOf er = 2) (o0 : g0.offset = 0) (o1 : g1.offset = 1) (k0 : P.cellsOf g0.type = 1) (k1 : P.cellsOf g1.type = 1) (v0 : P.underlying g0.type = some (.int .i64)) (v1 : P.underlying g1.type = some (.int .i64))
    (h : DataW.trod enc P w 0 (fun _ => true) held fuel t [v] = some x) :
    ∃ (a : Option Addr) (n c : Nat) (X : Rx), v = .slice a n c ∧ n ≤ maxLen ∧ X.len = n ∧ (∀ j, j < n → X.NR j ≤ maxLen) ∧ RxAt w a X w.heap.size := by
  rcases open_slice ht h with ⟨hc, -⟩ | ⟨a, len, cap, m, n, D, Pl, hc, -, hl, hm, hmm, -, hx⟩
  · simp only [List.cons.injEq, and_true] at hc
    exact ⟨none, 0, 0, ⟨0, fun _ => 0, fun _ => 0, fun _ => 0, fun _ => 0, fun _ => 0, fun _ => false, fun _ => 0, fun _ _ => 0, fun _ _ => 0⟩, hc, Nat.zero_le _, rfl, fun j hj => by omega, fun h0 => absurd h0 (Nat.lt_irrefl _)⟩
  · simp only [List.cons.injEq, and_true] at hc
    simp only [if_true] at hmm
    subst hmm
    have each : ∀ i, i < m → ∃ q : Nd, ∃ (ad : Option Addr) (cp : Nat), (w.cell? (a.add (i * 7)) = some (.int .i64 q.K) ∧ w.cell? (a.add (i * 7 + 1)) = some (.bool q.NT) ∧ w.cell? (a.add (i * 7 + 2)) = some (.slice ad q.NR cp) ∧ w.cell? (a.add (i * 7 + 3)) = some (.int .i64 q.A) ∧ w.cell? (a.add (i * 7 + 4)) = some (.int .i64 q.B) ∧ w.cell? (a.add (i * 7 + 5)) = some (.int .i64 q.MN) ∧ w.cell? (a.add (i * 7 + 6)) = some (.int .i64 q.MX)) ∧ q.NR ≤ maxLen ∧ RngAt w ad q.NR q.L q.H w.heap.size := by
      intro i hi
      obtain ⟨cs', h1, h2⟩ := hx i hi
      rw [ce] at h1
      obtain ⟨_, hlen, hcell⟩ := World.cells?_some h1
      obtain ⟨q, ad, cp, rfl, hn, hr⟩ := nd_of he ce hone u0 u1 u2 u3 u4 u5 u6 er2 cr o0 o1 k0 k1 v0 v1 hlen h2
      refine ⟨q, ad, cp, ⟨?_, ?_, ?_, ?_, ?_, ?_, ?_⟩, hn, hr⟩
      · have := hcell 0 (by omega); rw [add_add] at this; simpa using this
      · have := hcell 1 (by omega); rw [add_add] at this; simpa using this
      · have := hcell 2 (by omega); rw [add_add] at this; simpa using this
      · have := hcell 3 (by omega); rw [add_add] at this; simpa using this
      · have := hcell 4 (by omega); rw [add_add] at this; simpa using this
      · have := hcell 5 (by omega); rw [add_add] at this; simpa using this
      · have := hcell 6 (by omega); rw [add_add] at this; simpa using this
    obtain ⟨q, hq⟩ := choose_lt each
    refine ⟨some a, len, m, ⟨len, fun i => (q i).K, fun i => (q i).A, fun i => (q i).B, fun i => (q i).MN, fun i => (q i).MX, fun i => (q i).NT, fun i => (q i).NR, fun i => (q i).L, fun i => (q i).H⟩, hc, by omega, rfl, fun j hj => ?_, fun h0 => ?_⟩
    · obtain ⟨ad, cp, -, hn, -⟩ := hq j (by omega)
      exact hn
    · obtain ⟨sb, so, spot⟩ := a
      have h0' : 0 < len := h0
      obtain ⟨_, _, ⟨hz, _⟩, _⟩ := hq 0 (by omega)
      have hspot : spot = none := by simpa [Addr.add] using World.cell?_spot hz
      subst hspot
      refine ⟨sb, so, rfl, World.block_lt_of_cell? w _ hz, fun j hj => ?_⟩
      obtain ⟨ad, cp, ⟨z0, z1, z2, z3, z4, z5, z6⟩, hn, hr⟩ := hq j (by have hj' : j < len := hj; omega)
      rw [add_plain] at z0 z1 z2 z3 z4 z5 z6
      exact ⟨ad, cp, ⟨z0, z1, z2, z3, z4, z5, z6⟩, hr⟩
end
end Go.Proofs.YtbijilnbbbicmaaDoor
