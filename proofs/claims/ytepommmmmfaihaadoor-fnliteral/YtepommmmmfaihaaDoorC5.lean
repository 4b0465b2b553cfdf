/-
  Plain facts: rows of expression nodes of the call's own, as a list of nodes; a cell of a node that is put anew, a node that is put behind.
-/
import Derived.Test.YtepommmmmfaihaaDoorC4
namespace Go.Proofs.YtepommmmmfaihaaDoor
open Go.RowKit Go.Joins
set_option linter.unusedVariables false
set_option linter.unusedSimpArgs false
/-- A node of an expression. -/
structure Nd where
  k : Int
  nt : Bool
  L : List (Int × Int)
  a : Int
  b : Int
  mn : Int
  mx : Int
def ndV (n : Nd) (ad : Option Addr) (cp : Nat) : List Value := [.int .i64 n.k, .bool n.nt, .slice ad n.L.length cp, .int .i64 n.a, .int .i64 n.b, .int .i64 n.mn, .int .i64 n.mx]
def prV : List (Int × Int) → List Value
  | [] => []
  | p :: l => .int .i64 p.1 :: .int .i64 p.2 :: prV l
theorem prV_len : ∀ l, (prV l).length = l.length * 2
  | [] => rfl
  | p :: l => by rw [prV, List.length_cons, List.length_cons, prV_len l, List.length_cons]; omega
theorem prV_at : ∀ (l : List (Int × Int)) (i : Nat) (p : Int × Int), l[i]? = some p → (prV l)[i * 2]? = some (.int .i64 p.1) ∧ (prV l)[i * 2 + 1]? = some (.int .i64 p.2)
  | [], i, p, h => by simp at h
  | q :: l, 0, p, h => by simp at h; subst h; exact ⟨rfl, rfl⟩
  | q :: l, i + 1, p, h => by
    have := prV_at l i p (by simpa using h)
    rw [prV, show (i + 1) * 2 = i * 2 + 1 + 1 by omega]
    simpa using this
theorem prV_set : ∀ (l : List (Int × Int)) (i : Nat) (a b : Int), ((prV l).set (i * 2) (.int .i64 a)).set (i * 2 + 1) (.int .i64 b) = prV (l.set i (a, b))
  | [], i, a, b => by simp [prV]
  | q :: l, 0, a, b => by simp [prV]
  | q :: l, i + 1, a, b => by
    have := prV_set l i a b
    show ((Value.int .i64 q.1 :: Value.int .i64 q.2 :: prV l).set ((i + 1) * 2) (.int .i64 a)).set ((i + 1) * 2 + 1) (.int .i64 b) = Value.int .i64 q.1 :: Value.int .i64 q.2 :: prV (l.set i (a, b))
    rw [← this, show (i + 1) * 2 + 1 = (i * 2 + 1) + 1 + 1 by omega, show (i + 1) * 2 = i * 2 + 1 + 1 by omega]
    simp only [List.set_cons_succ]
def XItsZ (Z : Nat) (S : Nat → Prop) (w : World) (xs : List Value) (X : List Nd) : Prop := ∀ j nd, X[j]? = some nd → ∃ ad cp, (∀ o, o < 7 → xs[j * 7 + o]? = (ndV nd ad cp)[o]?) ∧ w.ownsRow 0 46 2 (.slice ad nd.L.length cp) nd.L.length (prV nd.L) ∧ (∀ k, (Value.slice ad nd.L.length cp).ownBlock = some k → S k) ∧ nd.L.length ≤ Z
abbrev XIts := XItsZ 100
def kb7 (xs : List Value) (j : Nat) : Option Nat := match xs[j * 7 + 2]? with
  | some v => v.ownBlock
  | none => none
def Dj7 (xs : List Value) (m : Nat) : Prop := ∀ i j k, i < m → j < m → i ≠ j → kb7 xs i = some k → kb7 xs j ≠ some k
def XOZ (Z : Nat) (B : Nat) (S : Nat → Prop) (w : World) (ad : Option Addr) (c : Nat) (X : List Nd) : Prop := ∃ xs, w.ownsRow B 43 7 (.slice ad X.length c) X.length xs ∧ XItsZ Z S w xs X ∧ Dj7 xs X.length
abbrev XO := XOZ 100
section
variable {Z : Nat}
theorem kb7_of {xs : List Value} {j : Nat} {v : Value} (h : xs[j * 7 + 2]? = some v) : kb7 xs j = v.ownBlock := by unfold kb7; rw [h]
theorem xits_kp {S T : Nat → Prop} {w w' : World} {xs : List Value} {X : List Nd} (h : XItsZ Z S w xs X) (k : Kp T w w') (hT : ∀ B' z n v ys j, w.ownsRow B' 46 z v n ys → v.ownBlock = some j → S j → ¬ T j) : XItsZ Z S w' xs X := fun j nd hj => by
  obtain ⟨ad, cp, h1, h2, h3, h4⟩ := h j nd hj
  exact ⟨ad, cp, h1, own_kp h2 k (fun i hi => hT _ _ _ _ _ i h2 hi (h3 i hi)), h3, h4⟩
theorem xits_imp {S T : Nat → Prop} {w : World} {xs : List Value} {X : List Nd} (h : XItsZ Z S w xs X) (hT : ∀ k, k < w.heap.size → S k → T k) : XItsZ Z T w xs X := fun j nd hj => by
  obtain ⟨ad, cp, h1, h2, h3, h4⟩ := h j nd hj
  exact ⟨ad, cp, h1, h2, fun k hk => hT k (h2.lt k hk).2 (h3 k hk), h4⟩
theorem xits_push {S : Nat → Prop} {w : World} {xs : List Value} {X : List Nd} (h : XItsZ Z S w xs X) (hl : xs.length = X.length * 7) {nd : Nd} {ad : Option Addr} {cp : Nat} (h2 : w.ownsRow 0 46 2 (.slice ad nd.L.length cp) nd.L.length (prV nd.L)) (h3 : ∀ k, (Value.slice ad nd.L.length cp).ownBlock = some k → S k) (h4 : nd.L.length ≤ Z) : XItsZ Z S w (xs ++ ndV nd ad cp) (X ++ [nd]) := by
  intro j n hj
  by_cases e : j < X.length
  · rw [List.getElem?_append_left e] at hj
    obtain ⟨a', c', b1, b2, b3, b4⟩ := h j n hj
    refine ⟨a', c', fun o ho => ?_, b2, b3, b4⟩
    rw [List.getElem?_append_left (by omega)]
    exact b1 o ho
  · have ej : j = X.length := by
      have := (List.getElem?_eq_some_iff.1 hj).1
      simp at this
      omega
    subst ej
    simp at hj
    subst hj
    refine ⟨ad, cp, fun o ho => ?_, h2, h3, h4⟩
    rw [List.getElem?_append_right (by omega), hl]
    congr 1
    omega
theorem dj7_push {xs : List Value} {m : Nat} (h : Dj7 xs m) (hl : xs.length = m * 7) {nd : Nd} {ad : Option Addr} {cp : Nat} (hv : ∀ j k, j < m → kb7 xs j = some k → (Value.slice ad nd.L.length cp).ownBlock ≠ some k) : Dj7 (xs ++ ndV nd ad cp) (m + 1) := by
  have e1 : ∀ j, j < m → kb7 (xs ++ ndV nd ad cp) j = kb7 xs j := fun j hj => by unfold kb7; rw [List.getElem?_append_left (by omega)]
  have e2 : kb7 (xs ++ ndV nd ad cp) m = (Value.slice ad nd.L.length cp).ownBlock := kb7_of (by rw [List.getElem?_append_right (by omega), hl]; simp [ndV])
  intro i j k hi hj hne hk
  by_cases c1 : i < m
  · rw [e1 i c1] at hk
    by_cases c2 : j < m
    · rw [e1 j c2]; exact h i j k c1 c2 hne hk
    · have : j = m := by omega
      subst this
      rw [e2]; exact hv i k c1 hk
  · have : i = m := by omega
    subst this
    rw [e2] at hk
    rw [e1 j (by omega)]
    intro e
    exact hv j k (by omega) e hk
/-- Where the ranges of a node lie. -/
theorem xits_kb {S : Nat → Prop} {w : World} {xs : List Value} {X : List Nd} (h : XItsZ Z S w xs X) {j k : Nat} (hj : j < X.length) (hk : kb7 xs j = some k) : S k ∧ k < w.heap.size := by
  obtain ⟨ad, cp, h1, h2, h3, h4⟩ := h j X[j] (List.getElem?_eq_getElem hj)
  rw [kb7_of (h1 2 (by omega))] at hk
  exact ⟨h3 k hk, (h2.lt k hk).2⟩
section
variable {B : Nat} {S T : Nat → Prop} {w w' : World} {ad : Option Addr} {c g : Nat} {X : List Nd}
theorem xo_kp (h : XOZ Z B S w ad c X) (k : Kp T w w') (h1 : ∀ j, (Value.slice ad X.length c).ownBlock = some j → ¬ T j) (hT : ∀ B' z n v ys j, w.ownsRow B' 46 z v n ys → v.ownBlock = some j → S j → ¬ T j) : XOZ Z B S w' ad c X := by
  obtain ⟨xs, h2, h3, h4⟩ := h
  exact ⟨xs, own_kp h2 k h1, xits_kp h3 k hT, h4⟩
theorem xo_imp (h : XOZ Z B S w ad c X) (hT : ∀ k, k < w.heap.size → S k → T k) : XOZ Z B T w ad c X := by
  obtain ⟨xs, h1, h2, h3⟩ := h
  exact ⟨xs, h1, xits_imp h2 hT, h3⟩
theorem xo_nil (B : Nat) (S : Nat → Prop) (w : World) : XOZ Z B S w none 0 [] := ⟨[], World.ownsRow_nil _ _ _ _, fun j nd hj => (by simp at hj), fun i _ _ hi => absurd hi (Nat.not_lt_zero _)⟩
theorem xo_below (h : XOZ Z B S w ad c X) (hb : Below w.heap.size w w') : XOZ Z B S w' ad c X := xo_kp (T := fun _ => False) h ⟨hb.os, hb.tape, hb.output, hb.size, fun k hk _ => hb.block k hk⟩ (fun _ _ x => x) (fun _ _ _ _ _ _ _ _ _ x => x)
theorem xo_alloc (h : XOZ Z B S w ad c X) (o : Obj) : XOZ Z B S (w.alloc o) ad c X := xo_kp (T := fun _ => False) h (kp_alloc w o) (fun _ _ x => x) (fun _ _ _ _ _ _ _ _ _ x => x)
theorem xo_form (h : XOZ Z B S w ad c X) (h0 : 0 < X.length) : ∃ g, ad = some ⟨g, 0, none⟩ ∧ B ≤ g ∧ g < w.heap.size := by
  obtain ⟨xs, h1, -⟩ := h
  obtain ⟨g, cap, hv, hB, hg⟩ := h1.form h0
  simp only [Value.slice.injEq] at hv
  exact ⟨g, hv.1, hB, hg⟩
theorem xo_cell (h : XOZ Z B S w (some ⟨g, 0, none⟩) c X) (o : Nat) (ho : o < X.length * 7) : (∃ v, w.cell? ⟨g, o, none⟩ = some v) ∧ w.frozen? ⟨g, o, none⟩ = false := by
  obtain ⟨xs, h1, h2⟩ := h
  refine ⟨?_, h1.frozenAt o⟩
  rw [h1.cellAt o (by omega)]
  exact ⟨_, List.getElem?_eq_getElem (by rw [h1.1]; omega)⟩
theorem xo_at7 (h : XOZ Z B S w (some ⟨g, 0, none⟩) c X) {i : Nat} {nd : Nd} (hi : X[i]? = some nd) : ∃ ad cp, (∀ o, o < 7 → w.cell? ⟨g, i * 7 + o, none⟩ = (ndV nd ad cp)[o]?) ∧ w.ownsRow 0 46 2 (.slice ad nd.L.length cp) nd.L.length (prV nd.L) ∧ (∀ k, (Value.slice ad nd.L.length cp).ownBlock = some k → S k) ∧ nd.L.length ≤ Z := by
  obtain ⟨xs, h1, h2, h3⟩ := h
  obtain ⟨ad, cp, b1, b2, b3, b4⟩ := h2 i nd hi
  have hlt := (List.getElem?_eq_some_iff.1 hi).1
  exact ⟨ad, cp, fun o ho => (h1.cellAt _ (by omega)).trans (b1 o ho), b2, b3, b4⟩
/-- A cell of a node is put anew. -/
theorem xo_set (h : XOZ Z B S w (some ⟨g, 0, none⟩) c X) {i o : Nat} {nd nd' : Nd} {v : Value} (hi : X[i]? = some nd) (ho : o < 7) (ho2 : o ≠ 2) (hL : nd'.L = nd.L) (hv : ∀ ad cp, ndV nd' ad cp = (ndV nd ad cp).set o v) : XOZ Z B S (w.setCell ⟨g, i * 7 + o, none⟩ v) (some ⟨g, 0, none⟩) c (X.set i nd') := by
  obtain ⟨xs, h1, h2, h3⟩ := h
  have hlt := (List.getElem?_eq_some_iff.1 hi).1
  have hne : ∀ j, j * 7 + 2 ≠ i * 7 + o := fun j => by omega
  refine ⟨xs.set (i * 7 + o) v, ?_, ?_, ?_⟩
  · rw [List.length_set]; exact (h1.stored (i * 7 + o) v).1
  · refine xits_kp (w := w) (T := fun k => k = g) ?_ (kp_set (S := fun k => k = g) _ _ _ rfl) (fun B' z n v ys j hv hj _ => own_ne hv hj h1 rfl (by decide))
    intro j n hj
    by_cases e : j = i
    · subst e
      rw [List.getElem?_set_self hlt] at hj
      simp only [Option.some.injEq] at hj
      subst hj
      obtain ⟨ad, cp, b1, b2, b3, b4⟩ := h2 j nd hi
      refine ⟨ad, cp, fun q hq => ?_, by rw [hL]; exact b2, by rw [hL]; exact b3, by rw [hL]; exact b4⟩
      rw [hv]
      by_cases eq : q = o
      · subst eq
        rw [List.getElem?_set_self (by have := h1.1; omega), List.getElem?_set_self (by simp [ndV]; omega)]
      · rw [List.getElem?_set_ne (by omega), List.getElem?_set_ne (by omega)]
        exact b1 q hq
    · rw [List.getElem?_set_ne (fun e2 => e e2.symm)] at hj
      obtain ⟨ad, cp, b1, b2, b3, b4⟩ := h2 j n hj
      refine ⟨ad, cp, fun q hq => ?_, b2, b3, b4⟩
      rw [List.getElem?_set_ne (by omega)]
      exact b1 q hq
  · rw [List.length_set]
    have e : ∀ j, kb7 (xs.set (i * 7 + o) v) j = kb7 xs j := fun j => by unfold kb7; rw [List.getElem?_set_ne (fun e => hne j e.symm)]
    intro a b k ha hb hab hk
    rw [e] at hk ⊢
    exact h3 a b k ha hb hab hk
/-- The ranges of a node are written anew where they lie. -/
theorem xo_L {kad : Option Addr} {kc : Nat} (h : XOZ Z B S w (some ⟨g, 0, none⟩) c X) {i : Nat} {nd : Nd} (hi : X[i]? = some nd) (L : List (Int × Int)) (hl : L.length = nd.L.length) (hc : w.cell? ⟨g, i * 7 + 2, none⟩ = some (.slice kad nd.L.length kc)) (hk : Kp (fun j => (Value.slice kad nd.L.length kc).ownBlock = some j) w w') (ho : w'.ownsRow 0 46 2 (.slice kad nd.L.length kc) nd.L.length (prV L)) : XOZ Z B S w' (some ⟨g, 0, none⟩) c (X.set i { nd with L := L }) := by
  obtain ⟨xs, h1, h2, h3⟩ := h
  have hlt := (List.getElem?_eq_some_iff.1 hi).1
  obtain ⟨adi, cpi, d1, e2, e3, e4⟩ := h2 i nd hi
  have hsl : Value.slice adi nd.L.length cpi = Value.slice kad nd.L.length kc := by
    have := (h1.cellAt (i * 7 + 2) (by omega)).symm.trans hc
    rw [d1 2 (by omega)] at this
    simpa [ndV] using this
  simp only [Value.slice.injEq] at hsl
  obtain ⟨rfl, -, rfl⟩ := hsl
  refine ⟨xs, ?_, fun j n hj => ?_, by rw [List.length_set]; exact h3⟩
  · rw [List.length_set]
    exact own_kp h1 hk (fun j hj e => own_ne e2 e h1 hj (by decide) rfl)
  by_cases e : j = i
  · subst e
    rw [List.getElem?_set_self hlt] at hj
    simp only [Option.some.injEq] at hj
    subst hj
    refine ⟨adi, cpi, fun q hq => ?_, ?_, ?_, ?_⟩
    · rw [d1 q hq]
      show (ndV nd adi cpi)[q]? = (ndV { nd with L := L } adi cpi)[q]?
      unfold ndV
      rw [hl]
    · show w'.ownsRow 0 _ 2 (.slice adi L.length cpi) L.length (prV L); rw [hl]; exact ho
    · show ∀ k, (Value.slice adi L.length cpi).ownBlock = some k → S k; rw [hl]; exact e3
    · show L.length ≤ Z; omega
  · rw [List.getElem?_set_ne (fun e2 => e e2.symm)] at hj
    obtain ⟨ad', cp', b1, b2, b3, b4⟩ := h2 j n hj
    refine ⟨ad', cp', b1, own_kp b2 hk (fun k hk9 e9 => ?_), b3, b4⟩
    have hjl := (List.getElem?_eq_some_iff.1 hj).1
    exact h3 i j k hlt hjl (fun e9 => e e9.symm) ((kb7_of (d1 2 (by omega))).trans e9) ((kb7_of (b1 2 (by omega))).trans hk9)
/-- What was put behind. -/
theorem xo_fin {wA : World} {xs : List Value} {X' : List Nd} {ad' : Option Addr} {c' : Nat} {v : Value} {n : Nat} {ys : List Value} (hp : XItsZ Z S wA xs X') (hdj : Dj7 xs X'.length) (hold : wA.ownsRow B 43 7 v n ys) (hown : w'.ownsRow B 43 7 (.slice ad' X'.length c') X'.length xs) (hg : wA.grownBy w' v.ownBlock) : XOZ Z B S w' ad' c' X' :=
  ⟨xs, hown, xits_kp hp (kp_grown (S := fun j => v.ownBlock = some j) hg (fun k hk => hk)) (fun B' z n' v' ys' j hv hj _ e => own_ne hv hj hold e (by decide) rfl), hdj⟩
end
/-- As numbers. -/
def nd0 : Nd := ⟨0, false, [], 0, 0, 0, 0⟩
def ndAt (X : List Nd) (j : Nat) : Nd := X[j]?.getD nd0
def rxOf (X : List Nd) : Rx := ⟨X.length, fun j => (ndAt X j).k, fun j => (ndAt X j).a, fun j => (ndAt X j).b, fun j => (ndAt X j).mn, fun j => (ndAt X j).mx, fun j => (ndAt X j).nt, fun j => (ndAt X j).L.length, fun j i => ((ndAt X j).L[i]?.getD (0, 0)).1, fun j i => ((ndAt X j).L[i]?.getD (0, 0)).2⟩
theorem ndAt_of {X : List Nd} {j : Nat} {nd : Nd} (h : X[j]? = some nd) : ndAt X j = nd := by unfold ndAt; rw [h]; rfl
theorem rng_own {w : World} {ad : Option Addr} {cp : Nat} {L : List (Int × Int)} (h : w.ownsRow 0 46 2 (.slice ad L.length cp) L.length (prV L)) : RngAt w ad L.length (fun i => (L[i]?.getD (0, 0)).1) (fun i => (L[i]?.getD (0, 0)).2) w.heap.size := fun h0 => by
  obtain ⟨g, cap, hv, hB, hg⟩ := h.form h0
  simp only [Value.slice.injEq] at hv
  obtain ⟨rfl, -, rfl⟩ := hv
  refine ⟨g, 0, rfl, hg, fun j hj => ?_⟩
  have hp : L[j]? = some L[j] := List.getElem?_eq_getElem hj
  obtain ⟨p1, p2⟩ := prV_at L j _ hp
  have e : L[j]?.getD (0, 0) = L[j] := by rw [hp]; rfl
  rw [Nat.zero_add]
  simp only [e]
  exact ⟨(h.cellAt _ (by omega)).trans p1, (h.cellAt _ (by omega)).trans p2⟩
theorem xo_rx {B : Nat} {S : Nat → Prop} {w : World} {ad : Option Addr} {c : Nat} {X : List Nd} (h : XOZ Z B S w ad c X) : RxAt w ad (rxOf X) w.heap.size := fun h0 => by
  have h0' : 0 < X.length := h0
  obtain ⟨g, rfl, -, hg⟩ := xo_form h h0'
  refine ⟨g, 0, rfl, hg, fun j hj => ?_⟩
  have hj' : j < X.length := hj
  obtain ⟨ad, cp, b1, b2, b3, b4⟩ := xo_at7 h (List.getElem?_eq_getElem hj')
  have e := ndAt_of (List.getElem?_eq_getElem hj')
  refine ⟨ad, cp, ?_, ?_⟩
  · unfold RxCells
    simp only [rxOf, e, Nat.zero_add]
    exact ⟨b1 0 (by omega), b1 1 (by omega), b1 2 (by omega), b1 3 (by omega), b1 4 (by omega), b1 5 (by omega), b1 6 (by omega)⟩
  · simp only [rxOf, e]
    exact rng_own b2
end
end Go.Proofs.YtepommmmmfaihaaDoor
