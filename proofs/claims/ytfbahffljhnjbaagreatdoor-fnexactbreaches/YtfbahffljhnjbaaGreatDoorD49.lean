/-
  Texts put together: JoinsDc, JoinsKy.
-/
import Derived.Test.YtfbahffljhnjbaaGreatDoorD2
import Derived.Lib.SmallJoins
import Derived.Deep.SlicePairs
import Derived.WalkKit
import Derived.ProofKit
import Derived.Below
import Derived.Test.YtfbahffljhnjbaaGreatDoorD3
import Derived.SliceStrings
import Derived.OpenShut
/-
  Plain laws on how a row of items lies: of no program.
-/
namespace Go.Proofs.YtfbahffljhnjbaaGreatDoor
open Go.ChangeShapes Go.WideShapes Go.RowKit Go.Deep Go.WideElems
set_option linter.unusedVariables false
def strOf : Value → ByteArray | .string s => s | _ => ⟨#[]⟩
structure ItD where
  U : Int
  NM : ByteArray
  TX : ByteArray
  AC : Nat
  AN : Nat → ByteArray
  AV : Nat → ByteArray
instance : Inhabited ItD := ⟨⟨0, ⟨#[]⟩, ⟨#[]⟩, 0, fun _ => ⟨#[]⟩, fun _ => ⟨#[]⟩⟩⟩
section
variable {H : Type} {enc : TypeId × Value → H} {P : Program} {w : World} {base : Nat} {spare : Nat → Bool} {held : Bool}
theorem trod_struct4 {t : TypeId} {f0 f1 f2 f3 : Field} {fuel : Nat} {cs : List Value} {x : DataW H × List MemPlace} (ht : P.underlying t = some (.struct #[f0, f1, f2, f3])) (h : DataW.trod enc P w base spare held fuel t cs = some x) :
    ∃ y0 y1 y2 y3 n, x.1 = .agg [y0.1, y1.1, y2.1, y3.1] ∧ cs.length = P.cellsOf t ∧ DataW.trod enc P w base spare held n f0.type ((cs.drop f0.offset).take (P.cellsOf f0.type)) = some y0 ∧
      DataW.trod enc P w base spare held n f1.type ((cs.drop f1.offset).take (P.cellsOf f1.type)) = some y1 ∧
      DataW.trod enc P w base spare held n f2.type ((cs.drop f2.offset).take (P.cellsOf f2.type)) = some y2 ∧
      DataW.trod enc P w base spare held n f3.type ((cs.drop f3.offset).take (P.cellsOf f3.type)) = some y3 := by
  obtain ⟨xs, n, _, rfl, hl, hlen, hf⟩ := DataW.trod_struct ht h
  match xs, hlen with
  | [y0, y1, y2, y3], _ => exact ⟨y0, y1, y2, y3, n, by simp, hl, by simpa using hf 0 f0 rfl, by simpa using hf 1 f1 rfl, by simpa using hf 2 f2 rfl, by simpa using hf 3 f3 rfl⟩
theorem at_of {t e : TypeId} {f0 f1 : Field} {fuel : Nat} {v : Value} {x : DataW H × List MemPlace} (ht : P.underlying t = some (.slice e)) (he : P.underlying e = some (.struct #[f0, f1]))
    (ce : P.cellsOf e = 2) (o0 : f0.offset = 0) (o1 : f1.offset = 1) (c0 : P.cellsOf f0.type = 1) (c1 : P.cellsOf f1.type = 1) (u0 : P.underlying f0.type = some .string) (u1 : P.underlying f1.type = some .string)
    (h : DataW.trod enc P w 0 (fun _ => true) held fuel t [v] = some x) : ∃ a n c N V, v = .slice a n c ∧ n ≤ maxLen ∧ n ≤ c ∧ (∀ j, j < n → (N j).size ≤ maxLen ∧ (V j).size ≤ maxLen) ∧ AtAt w a n N V w.heap.size := by
  rcases open_slice_pairs ht he ce o0 o1 c0 c1 h with ⟨hc, _⟩ | ⟨a, len, cap, m, n, V0, V1, D0, D1, P0, P1, hc, _, hl, hm, hmm, _, hall⟩
  · simp only [List.cons.injEq, and_true] at hc
    exact ⟨none, 0, 0, fun _ => ⟨#[]⟩, fun _ => ⟨#[]⟩, hc, Nat.zero_le _, Nat.le_refl _, fun j hj => by omega, fun h0 => absurd h0 (Nat.lt_irrefl _)⟩
  · simp only [List.cons.injEq, and_true] at hc
    simp only [if_true] at hmm
    subst hmm
    refine ⟨some a, len, m, fun i => strOf (V0 i), fun i => strOf (V1 i), hc, by omega, hl, fun j hj => ?_, fun h0 => ?_⟩
    · obtain ⟨g0, g1, g2, g3⟩ := hall j (by omega)
      obtain ⟨N0, e0, _, w0⟩ := DataW.trod_string u0 g2
      obtain ⟨N1, e1, _, w1⟩ := DataW.trod_string u1 g3
      simp only [List.cons.injEq, and_true] at e0 e1
      simp only [e0, e1, strOf]
      exact ⟨w0, w1⟩
    · obtain ⟨sb, so, spot⟩ := a
      have hspot : spot = none := by simpa [Addr.add] using World.cell?_spot (hall 0 (by omega)).1
      subst hspot
      refine ⟨sb, so, rfl, World.block_lt_of_cell? w _ (hall 0 (by omega)).1, fun j hj => ?_⟩
      obtain ⟨g0, g1, g2, g3⟩ := hall j (by omega)
      obtain ⟨N0, e0, _, _⟩ := DataW.trod_string u0 g2
      obtain ⟨N1, e1, _, _⟩ := DataW.trod_string u1 g3
      simp only [List.cons.injEq, and_true] at e0 e1
      rw [e0] at g0
      rw [e1] at g1
      simp only [e0, e1, strOf]
      rw [add_plain] at g0 g1
      exact ⟨g0, g1⟩
theorem it_of {e er : TypeId} {f0 f1 f2 f3 g0 g1 : Field} {fuel : Nat} {cs : List Value} {x : DataW H × List MemPlace} (he : P.underlying e = some (.struct #[f0, f1, f2, f3])) (hone : oneCellFields P #[f0, f1, f2, f3] = true)
    (u0 : P.underlying f0.type = some (.int .i64)) (u1 : P.underlying f1.type = some .string) (u2 : P.underlying f2.type = some .string) (u3 : P.underlying f3.type = some (.slice er))
    (er2 : P.underlying er = some (.struct #[g0, g1])) (cr : P.cellsOf er = 2) (o0 : g0.offset = 0) (o1 : g1.offset = 1) (k0 : P.cellsOf g0.type = 1) (k1 : P.cellsOf g1.type = 1) (v0 : P.underlying g0.type = some .string) (v1 : P.underlying g1.type = some .string)
    (hl : cs.length = 4) (h : DataW.trod enc P w 0 (fun _ => true) held fuel e cs = some x) :
    ∃ (q : ItD) (ad : Option Addr) (cp : Nat), cs = [.int .i64 q.U, .string q.NM, .string q.TX, .slice ad q.AC cp] ∧ q.NM.size ≤ maxLen ∧ q.TX.size ≤ maxLen ∧ q.AC ≤ maxLen ∧ q.AC ≤ cp ∧ (∀ j, j < q.AC → (q.AN j).size ≤ maxLen ∧ (q.AV j).size ≤ maxLen) ∧ AtAt w ad q.AC q.AN q.AV w.heap.size := by
  match cs, hl with
  | [c0, c1, c2, c3], _ =>
    obtain ⟨y0, y1, y2, y3, n, -, -, h0, h1, h2, h3⟩ := trod_struct4 he h
    obtain ⟨p0, q0⟩ := hone_of hone 0 f0 rfl
    obtain ⟨p1, q1⟩ := hone_of hone 1 f1 rfl
    obtain ⟨p2, q2⟩ := hone_of hone 2 f2 rfl
    obtain ⟨p3, q3⟩ := hone_of hone 3 f3 rfl
    simp only [p0, q0, p1, q1, p2, q2, p3, q3, List.drop_zero, List.drop_succ_cons, List.take_succ_cons, List.take_zero] at h0 h1 h2 h3
    obtain ⟨m0, e0, -, -⟩ := DataW.trod_int u0 h0
    obtain ⟨m1, e1, -, w1⟩ := DataW.trod_string u1 h1
    obtain ⟨m2, e2, -, w2⟩ := DataW.trod_string u2 h2
    obtain ⟨ad, nr, cp, N, V, e3, hn, hcp, hs, hr⟩ := at_of u3 er2 cr o0 o1 k0 k1 v0 v1 h3
    simp only [List.cons.injEq, and_true] at e0 e1 e2
    exact ⟨⟨m0, m1, m2, nr, N, V⟩, ad, cp, by rw [e0, e1, e2, e3], w1, w2, hn, hcp, hs, hr⟩
theorem dc_of {t e er : TypeId} {f0 f1 f2 f3 g0 g1 : Field} {fuel : Nat} {v : Value} {x : DataW H × List MemPlace} (ht : P.underlying t = some (.slice e)) (he : P.underlying e = some (.struct #[f0, f1, f2, f3])) (ce : P.cellsOf e = 4) (hone : oneCellFields P #[f0, f1, f2, f3] = true)
    (u0 : P.underlying f0.type = some (.int .i64)) (u1 : P.underlying f1.type = some .string) (u2 : P.underlying f2.type = some .string) (u3 : P.underlying f3.type = some (.slice er))
    (er2 : P.underlying er = some (.struct #[g0, g1])) (cr : P.cellsOf er = 2) (o0 : g0.offset = 0) (o1 : g1.offset = 1) (k0 : P.cellsOf g0.type = 1) (k1 : P.cellsOf g1.type = 1) (v0 : P.underlying g0.type = some .string) (v1 : P.underlying g1.type = some .string)
    (h : DataW.trod enc P w 0 (fun _ => true) held fuel t [v] = some x) :
    ∃ (a : Option Addr) (n c : Nat) (D : Dc), v = .slice a n c ∧ D.n = n ∧ DcSz D ∧ DcAt w a D w.heap.size := by
  rcases open_slice ht h with ⟨hc, -⟩ | ⟨a, len, cap, m, n, D, Pl, hc, -, hl, hm, hmm, -, hx⟩
  · simp only [List.cons.injEq, and_true] at hc
    exact ⟨none, 0, 0, ⟨0, fun _ => 0, fun _ => ⟨#[]⟩, fun _ => ⟨#[]⟩, fun _ => 0, fun _ _ => ⟨#[]⟩, fun _ _ => ⟨#[]⟩⟩, hc, rfl, ⟨Nat.zero_le _, fun j hj => absurd hj (Nat.not_lt_zero j)⟩, fun h0 => absurd h0 (Nat.lt_irrefl _)⟩
  · simp only [List.cons.injEq, and_true] at hc
    simp only [if_true] at hmm
    subst hmm
    have each : ∀ i, i < m → ∃ q : ItD, ∃ (ad : Option Addr) (cp : Nat), (w.cell? (a.add (i * 4)) = some (.int .i64 q.U) ∧ w.cell? (a.add (i * 4 + 1)) = some (.string q.NM) ∧ w.cell? (a.add (i * 4 + 2)) = some (.string q.TX) ∧ w.cell? (a.add (i * 4 + 3)) = some (.slice ad q.AC cp)) ∧ q.NM.size ≤ maxLen ∧ q.TX.size ≤ maxLen ∧ q.AC ≤ maxLen ∧ q.AC ≤ cp ∧ (∀ j, j < q.AC → (q.AN j).size ≤ maxLen ∧ (q.AV j).size ≤ maxLen) ∧ AtAt w ad q.AC q.AN q.AV w.heap.size := by
      intro i hi
      obtain ⟨cs', h1, h2⟩ := hx i hi
      rw [ce] at h1
      obtain ⟨_, hlen, hcell⟩ := World.cells?_some h1
      obtain ⟨q, ad, cp, rfl, r1, r2, r3, r4, r5, r6⟩ := it_of he hone u0 u1 u2 u3 er2 cr o0 o1 k0 k1 v0 v1 hlen h2
      refine ⟨q, ad, cp, ⟨?_, ?_, ?_, ?_⟩, r1, r2, r3, r4, r5, r6⟩
      · have := hcell 0 (by omega); rw [add_add] at this; simpa using this
      · have := hcell 1 (by omega); rw [add_add] at this; simpa using this
      · have := hcell 2 (by omega); rw [add_add] at this; simpa using this
      · have := hcell 3 (by omega); rw [add_add] at this; simpa using this
    obtain ⟨q, hq⟩ := choose_lt each
    refine ⟨some a, len, m, ⟨len, fun i => (q i).U, fun i => (q i).NM, fun i => (q i).TX, fun i => (q i).AC, fun i => (q i).AN, fun i => (q i).AV⟩, hc, rfl, ⟨by show len ≤ maxLen; omega, fun j hj => ?_⟩, fun h0 => ?_⟩
    · have hj' : j < len := hj
      obtain ⟨ad, cp, -, r1, r2, r3, -, r5, -⟩ := hq j (by omega)
      exact ⟨r1, r2, r3, r5⟩
    · obtain ⟨sb, so, spot⟩ := a
      have h0' : 0 < len := h0
      obtain ⟨_, _, ⟨hz, _⟩, _⟩ := hq 0 (by omega)
      have hspot : spot = none := by simpa [Addr.add] using World.cell?_spot hz
      subst hspot
      refine ⟨sb, so, rfl, World.block_lt_of_cell? w _ hz, fun j hj => ?_⟩
      obtain ⟨ad, cp, ⟨z0, z1, z2, z3⟩, -, -, -, r4, -, r6⟩ := hq j (by have hj' : j < len := hj; omega)
      rw [add_plain] at z0 z1 z2 z3
      exact ⟨ad, cp, ⟨z0, z1, z2, z3⟩, r6, r4⟩
end
end Go.Proofs.YtfbahffljhnjbaaGreatDoor

/-
  Plain laws on how a row of keys lies: of no program.
-/
namespace Go.Proofs.YtfbahffljhnjbaaGreatDoor
open Go.ChangeShapes Go.WideShapes Go.RowKit Go.Deep Go.WideElems
set_option linter.unusedVariables false
instance : Inhabited Ky := ⟨ky0⟩
section
variable {H : Type} {enc : TypeId × Value → H} {P : Program} {w : World} {base : Nat} {spare : Nat → Bool} {held : Bool}
theorem trod_struct6 {t : TypeId} {f0 f1 f2 f3 f4 f5 : Field} {fuel : Nat} {cs : List Value} {x : DataW H × List MemPlace} (ht : P.underlying t = some (.struct #[f0, f1, f2, f3, f4, f5])) (h : DataW.trod enc P w base spare held fuel t cs = some x) :
    ∃ y0 y1 y2 y3 y4 y5 n, x.1 = .agg [y0.1, y1.1, y2.1, y3.1, y4.1, y5.1] ∧ cs.length = P.cellsOf t ∧ DataW.trod enc P w base spare held n f0.type ((cs.drop f0.offset).take (P.cellsOf f0.type)) = some y0 ∧
      DataW.trod enc P w base spare held n f1.type ((cs.drop f1.offset).take (P.cellsOf f1.type)) = some y1 ∧
      DataW.trod enc P w base spare held n f2.type ((cs.drop f2.offset).take (P.cellsOf f2.type)) = some y2 ∧
      DataW.trod enc P w base spare held n f3.type ((cs.drop f3.offset).take (P.cellsOf f3.type)) = some y3 ∧
      DataW.trod enc P w base spare held n f4.type ((cs.drop f4.offset).take (P.cellsOf f4.type)) = some y4 ∧
      DataW.trod enc P w base spare held n f5.type ((cs.drop f5.offset).take (P.cellsOf f5.type)) = some y5 := by
  obtain ⟨xs, n, _, rfl, hl, hlen, hf⟩ := DataW.trod_struct ht h
  match xs, hlen with
  | [y0, y1, y2, y3, y4, y5], _ => exact ⟨y0, y1, y2, y3, y4, y5, n, by simp, hl, by simpa using hf 0 f0 rfl, by simpa using hf 1 f1 rfl, by simpa using hf 2 f2 rfl, by simpa using hf 3 f3 rfl, by simpa using hf 4 f4 rfl, by simpa using hf 5 f5 rfl⟩
theorem texts_of9 {t e : TypeId} {fuel : Nat} {v : Value} {x : DataW H × List MemPlace} (ht : P.underlying t = some (.slice e)) (he : P.underlying e = some .string) (ce : P.cellsOf e = 1)
    (h : DataW.trod enc P w 0 (fun _ => true) held fuel t [v] = some x) : ∃ a n c Q, v = .slice a n c ∧ Q.length = n ∧ n ≤ c ∧ TxSz Q ∧ TxAt w a Q w.heap.size := by
  rcases open_strings ht he ce h with ⟨hc, _⟩ | ⟨a, len, cap, zs, hc, _, hl, hm, hz, _, hcell, hwz⟩
  · simp only [List.cons.injEq, and_true] at hc
    exact ⟨none, 0, 0, [], hc, rfl, Nat.le_refl _, ⟨Nat.zero_le _, fun s hs => absurd hs (List.not_mem_nil)⟩, fun h0 => absurd rfl h0⟩
  · simp only [List.cons.injEq, and_true] at hc
    have hz' : zs.length = cap := by simpa using hz
    refine ⟨some a, len, cap, zs.take len, hc, by rw [List.length_take]; omega, hl, ⟨by rw [List.length_take]; omega, fun s hs => hwz s (List.mem_of_mem_take hs)⟩, fun h0 => ?_⟩
    have hlen : 0 < len := by
      rcases Nat.eq_zero_or_pos len with h | h
      · subst h; exact absurd rfl h0
      · exact h
    obtain ⟨sb, so, spot⟩ := a
    have hspot : spot = none := by simpa [Addr.add] using World.cell?_spot (hcell 0 (by omega))
    subst hspot
    refine ⟨sb, so, rfl, World.block_lt_of_cell? w _ (hcell 0 (by omega)), fun j hj => ?_⟩
    have hj' : j < len := by rw [List.length_take] at hj; omega
    have := hcell j (by omega)
    rw [add_plain] at this
    rw [this, List.getElem?_take, if_pos hj', List.getD_eq_getElem?_getD, List.getElem?_eq_getElem (by omega)]
    rfl
theorem kyit_of {e er es : TypeId} {f0 f1 f2 f3 f4 f5 : Field} {fuel : Nat} {cs : List Value} {x : DataW H × List MemPlace} (he : P.underlying e = some (.struct #[f0, f1, f2, f3, f4, f5])) (hone : oneCellFields P #[f0, f1, f2, f3, f4, f5] = true)
    (u0 : P.underlying f0.type = some .string) (u1 : P.underlying f1.type = some (.int .i64)) (u2 : P.underlying f2.type = some .string) (u3 : P.underlying f3.type = some .string) (u4 : P.underlying f4.type = some (.slice er)) (u5 : P.underlying f5.type = some .string)
    (er2 : P.underlying er = some .string) (cr : P.cellsOf er = 1)
    (hl : cs.length = 6) (h : DataW.trod enc P w 0 (fun _ => true) held fuel e cs = some x) :
    ∃ (q : Ky) (ad : Option Addr) (cp : Nat), cs = [.string q.nm, .int .i64 q.kd, .string q.on, .string q.pa, .slice ad q.fl.length cp, .string q.re] ∧ KyZ q ∧ q.fl.length ≤ cp ∧ TxAt w ad q.fl w.heap.size := by
  match cs, hl with
  | [c0, c1, c2, c3, c4, c5], _ =>
    obtain ⟨y0, y1, y2, y3, y4, y5, n, -, -, h0, h1, h2, h3, h4, h5⟩ := trod_struct6 he h
    obtain ⟨p0, q0⟩ := hone_of hone 0 f0 rfl
    obtain ⟨p1, q1⟩ := hone_of hone 1 f1 rfl
    obtain ⟨p2, q2⟩ := hone_of hone 2 f2 rfl
    obtain ⟨p3, q3⟩ := hone_of hone 3 f3 rfl
    obtain ⟨p4, q4⟩ := hone_of hone 4 f4 rfl
    obtain ⟨p5, q5⟩ := hone_of hone 5 f5 rfl
    simp only [p0, q0, p1, q1, p2, q2, p3, q3, p4, q4, p5, q5, List.drop_zero, List.drop_succ_cons, List.take_succ_cons, List.take_zero] at h0 h1 h2 h3 h4 h5
    obtain ⟨m0, e0, -, w0⟩ := DataW.trod_string u0 h0
    obtain ⟨m1, e1, -, -⟩ := DataW.trod_int u1 h1
    obtain ⟨m2, e2, -, w2⟩ := DataW.trod_string u2 h2
    obtain ⟨m3, e3, -, w3⟩ := DataW.trod_string u3 h3
    obtain ⟨ad, nr, cp, xs, e4, hxs, hcp, hz, hr⟩ := texts_of9 u4 er2 cr h4
    obtain ⟨m5, e5, -, w5⟩ := DataW.trod_string u5 h5
    simp only [List.cons.injEq, and_true] at e0 e1 e2 e3 e5
    subst hxs
    exact ⟨⟨m0, m1, m2, m3, xs, m5⟩, ad, cp, by rw [e0, e1, e2, e3, e4, e5], ⟨w0, w2, w3, hz, w5⟩, hcp, hr⟩
theorem ky_of {t e er : TypeId} {f0 f1 f2 f3 f4 f5 : Field} {fuel : Nat} {v : Value} {x : DataW H × List MemPlace} (ht : P.underlying t = some (.slice e)) (he : P.underlying e = some (.struct #[f0, f1, f2, f3, f4, f5])) (ce : P.cellsOf e = 6) (hone : oneCellFields P #[f0, f1, f2, f3, f4, f5] = true)
    (u0 : P.underlying f0.type = some .string) (u1 : P.underlying f1.type = some (.int .i64)) (u2 : P.underlying f2.type = some .string) (u3 : P.underlying f3.type = some .string) (u4 : P.underlying f4.type = some (.slice er)) (u5 : P.underlying f5.type = some .string)
    (er2 : P.underlying er = some .string) (cr : P.cellsOf er = 1)
    (h : DataW.trod enc P w 0 (fun _ => true) held fuel t [v] = some x) :
    ∃ (a : Option Addr) (n c : Nat) (L : List Ky), v = .slice a n c ∧ L.length = n ∧ KySz L ∧ KyAt w a L w.heap.size := by
  rcases open_slice ht h with ⟨hc, -⟩ | ⟨a, len, cap, m, n, D, Pl, hc, -, hl, hm, hmm, -, hx⟩
  · simp only [List.cons.injEq, and_true] at hc
    exact ⟨none, 0, 0, [], hc, rfl, ⟨Nat.zero_le _, fun j hj => absurd hj (Nat.not_lt_zero j)⟩, fun h0 => absurd rfl h0⟩
  · simp only [List.cons.injEq, and_true] at hc
    simp only [if_true] at hmm
    subst hmm
    have each : ∀ i, i < m → ∃ q : Ky, ∃ (ad : Option Addr) (cp : Nat), (w.cell? (a.add (i * 6)) = some (.string q.nm) ∧ w.cell? (a.add (i * 6 + 1)) = some (.int .i64 q.kd) ∧ w.cell? (a.add (i * 6 + 2)) = some (.string q.on) ∧ w.cell? (a.add (i * 6 + 3)) = some (.string q.pa) ∧ w.cell? (a.add (i * 6 + 4)) = some (.slice ad q.fl.length cp) ∧ w.cell? (a.add (i * 6 + 5)) = some (.string q.re)) ∧ KyZ q ∧ q.fl.length ≤ cp ∧ TxAt w ad q.fl w.heap.size := by
      intro i hi
      obtain ⟨cs', h1, h2⟩ := hx i hi
      rw [ce] at h1
      obtain ⟨_, hlen, hcell⟩ := World.cells?_some h1
      obtain ⟨q, ad, cp, rfl, r1, r2, r3⟩ := kyit_of (es := e) he hone u0 u1 u2 u3 u4 u5 er2 cr hlen h2
      refine ⟨q, ad, cp, ⟨?_, ?_, ?_, ?_, ?_, ?_⟩, r1, r2, r3⟩
      · have := hcell 0 (by omega); rw [add_add] at this; simpa using this
      · have := hcell 1 (by omega); rw [add_add] at this; simpa using this
      · have := hcell 2 (by omega); rw [add_add] at this; simpa using this
      · have := hcell 3 (by omega); rw [add_add] at this; simpa using this
      · have := hcell 4 (by omega); rw [add_add] at this; simpa using this
      · have := hcell 5 (by omega); rw [add_add] at this; simpa using this
    obtain ⟨q, hq⟩ := choose_lt each
    have hget : ∀ j, j < len → kyA ((List.range len).map q) j = q j := fun j hj => by
      unfold kyA
      rw [List.getElem?_map, List.getElem?_range hj]
      rfl
    refine ⟨some a, len, m, (List.range len).map q, hc, by simp, ⟨by simp; omega, fun j hj => ?_⟩, fun h0 => ?_⟩
    · have hj' : j < len := by simpa using hj
      obtain ⟨ad, cp, -, r1, -, -⟩ := hq j (by omega)
      rw [hget j hj']
      exact r1
    · obtain ⟨sb, so, spot⟩ := a
      have h0' : 0 < len := by
        rcases Nat.eq_zero_or_pos len with h | h
        · subst h; exact absurd rfl h0
        · exact h
      obtain ⟨_, _, ⟨hz, _⟩, _⟩ := hq 0 (by omega)
      have hspot : spot = none := by simpa [Addr.add] using World.cell?_spot hz
      subst hspot
      refine ⟨sb, so, rfl, World.block_lt_of_cell? w _ hz, fun j hj => ?_⟩
      have hj' : j < len := by simpa using hj
      obtain ⟨ad, cp, ⟨z0, z1, z2, z3, z4, z5⟩, -, r3, r4⟩ := hq j (by omega)
      rw [add_plain] at z0 z1 z2 z3 z4 z5
      rw [hget j hj']
      exact ⟨ad, cp, ⟨z0, z1, z2, z3, z4, z5⟩, r4, r3⟩
end
end Go.Proofs.YtfbahffljhnjbaaGreatDoor
