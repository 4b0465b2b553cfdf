/-
  Texts put together: LiO, RxMath.
-/
import Derived.Test.YtibagghpimadfaaDoorK4
import Derived.Test.YtibagghpimadfaaDoorK1
/-
  Plain facts: rows of expression nodes of the call's own, as a list of nodes; a cell of a node that is put anew, a node that is put behind.
-/
namespace Go.Proofs.YtibagghpimadfaaDoor
open Go.RowKit Go.Joins
set_option linter.unusedVariables false
set_option linter.unusedSimpArgs false
/-- A node of an expression. -/
structure Nd where
  k : Int
  nt : Bool
  L : List (Int × Int)
  a : Int
  b : Int
  mn : Int
  mx : Int
def ndV (n : Nd) (ad : Option Addr) (cp : Nat) : List Value := [.int .i64 n.k, .bool n.nt, .slice ad n.L.length cp, .int .i64 n.a, .int .i64 n.b, .int .i64 n.mn, .int .i64 n.mx]
def prV : List (Int × Int) → List Value
  | [] => []
  | p :: l => .int .i64 p.1 :: .int .i64 p.2 :: prV l
theorem prV_len : ∀ l, (prV l).length = l.length * 2
  | [] => rfl
  | p :: l => by rw [prV, List.length_cons, List.length_cons, prV_len l, List.length_cons]; omega
theorem prV_at : ∀ (l : List (Int × Int)) (i : Nat) (p : Int × Int), l[i]? = some p → (prV l)[i * 2]? = some (.int .i64 p.1) ∧ (prV l)[i * 2 + 1]? = some (.int .i64 p.2)
  | [], i, p, h => by simp at h
  | q :: l, 0, p, h => by simp at h; subst h; exact ⟨rfl, rfl⟩
  | q :: l, i + 1, p, h => by
    have := prV_at l i p (by simpa using h)
    rw [prV, show (i + 1) * 2 = i * 2 + 1 + 1 by omega]
    simpa using this
theorem prV_set : ∀ (l : List (Int × Int)) (i : Nat) (a b : Int), ((prV l).set (i * 2) (.int .i64 a)).set (i * 2 + 1) (.int .i64 b) = prV (l.set i (a, b))
  | [], i, a, b => by simp [prV]
  | q :: l, 0, a, b => by simp [prV]
  | q :: l, i + 1, a, b => by
    have := prV_set l i a b
    show ((Value.int .i64 q.1 :: Value.int .i64 q.2 :: prV l).set ((i + 1) * 2) (.int .i64 a)).set ((i + 1) * 2 + 1) (.int .i64 b) = Value.int .i64 q.1 :: Value.int .i64 q.2 :: prV (l.set i (a, b))
    rw [← this, show (i + 1) * 2 + 1 = (i * 2 + 1) + 1 + 1 by omega, show (i + 1) * 2 = i * 2 + 1 + 1 by omega]
    simp only [List.set_cons_succ]
def XItsZ (Z : Nat) (S : Nat → Prop) (w : World) (xs : List Value) (X : List Nd) : Prop := ∀ j nd, X[j]? = some nd → ∃ ad cp, (∀ o, o < 7 → xs[j * 7 + o]? = (ndV nd ad cp)[o]?) ∧ w.ownsRow 0 55 2 (.slice ad nd.L.length cp) nd.L.length (prV nd.L) ∧ (∀ k, (Value.slice ad nd.L.length cp).ownBlock = some k → S k) ∧ nd.L.length ≤ Z
abbrev XIts := XItsZ 100
def kb7 (xs : List Value) (j : Nat) : Option Nat := match xs[j * 7 + 2]? with
  | some v => v.ownBlock
  | none => none
def Dj7 (xs : List Value) (m : Nat) : Prop := ∀ i j k, i < m → j < m → i ≠ j → kb7 xs i = some k → kb7 xs j ≠ some k
def XOZ (Z : Nat) (B : Nat) (S : Nat → Prop) (w : World) (ad : Option Addr) (c : Nat) (X : List Nd) : Prop := ∃ xs, w.ownsRow B 53 7 (.slice ad X.length c) X.length xs ∧ XItsZ Z S w xs X ∧ Dj7 xs X.length
abbrev XO := XOZ 100
section
variable {Z : Nat}
theorem kb7_of {xs : List Value} {j : Nat} {v : Value} (h : xs[j * 7 + 2]? = some v) : kb7 xs j = v.ownBlock := by unfold kb7; rw [h]
theorem xits_kp {S T : Nat → Prop} {w w' : World} {xs : List Value} {X : List Nd} (h : XItsZ Z S w xs X) (k : Kp T w w') (hT : ∀ B' z n v ys j, w.ownsRow B' 55 z v n ys → v.ownBlock = some j → S j → ¬ T j) : XItsZ Z S w' xs X := fun j nd hj => by
  obtain ⟨ad, cp, h1, h2, h3, h4⟩ := h j nd hj
  exact ⟨ad, cp, h1, own_kp h2 k (fun i hi => hT _ _ _ _ _ i h2 hi (h3 i hi)), h3, h4⟩
theorem xits_imp {S T : Nat → Prop} {w : World} {xs : List Value} {X : List Nd} (h : XItsZ Z S w xs X) (hT : ∀ k, k < w.heap.size → S k → T k) : XItsZ Z T w xs X := fun j nd hj => by
  obtain ⟨ad, cp, h1, h2, h3, h4⟩ := h j nd hj
  exact ⟨ad, cp, h1, h2, fun k hk => hT k (h2.lt k hk).2 (h3 k hk), h4⟩
theorem xits_push {S : Nat → Prop} {w : World} {xs : List Value} {X : List Nd} (h : XItsZ Z S w xs X) (hl : xs.length = X.length * 7) {nd : Nd} {ad : Option Addr} {cp : Nat} (h2 : w.ownsRow 0 55 2 (.slice ad nd.L.length cp) nd.L.length (prV nd.L)) (h3 : ∀ k, (Value.slice ad nd.L.length cp).ownBlock = some k → S k) (h4 : nd.L.length ≤ Z) : XItsZ Z S w (xs ++ ndV nd ad cp) (X ++ [nd]) := by
  intro j n hj
  by_cases e : j < X.length
  · rw [List.getElem?_append_left e] at hj
    obtain ⟨a', c', b1, b2, b3, b4⟩ := h j n hj
    refine ⟨a', c', fun o ho => ?_, b2, b3, b4⟩
    rw [List.getElem?_append_left (by omega)]
    exact b1 o ho
  · have ej : j = X.length := by
      have := (List.getElem?_eq_some_iff.1 hj).1
      simp at this
      omega
    subst ej
    simp at hj
    subst hj
    refine ⟨ad, cp, fun o ho => ?_, h2, h3, h4⟩
    rw [List.getElem?_append_right (by omega), hl]
    congr 1
    omega
theorem dj7_push {xs : List Value} {m : Nat} (h : Dj7 xs m) (hl : xs.length = m * 7) {nd : Nd} {ad : Option Addr} {cp : Nat} (hv : ∀ j k, j < m → kb7 xs j = some k → (Value.slice ad nd.L.length cp).ownBlock ≠ some k) : Dj7 (xs ++ ndV nd ad cp) (m + 1) := by
  have e1 : ∀ j, j < m → kb7 (xs ++ ndV nd ad cp) j = kb7 xs j := fun j hj => by unfold kb7; rw [List.getElem?_append_left (by omega)]
  have e2 : kb7 (xs ++ ndV nd ad cp) m = (Value.slice ad nd.L.length cp).ownBlock := kb7_of (by rw [List.getElem?_append_right (by omega), hl]; simp [ndV])
  intro i j k hi hj hne hk
  by_cases c1 : i < m
  · rw [e1 i c1] at hk
    by_cases c2 : j < m
    · rw [e1 j c2]; exact h i j k c1 c2 hne hk
    · have : j = m := by omega
      subst this
      rw [e2]; exact hv i k c1 hk
  · have : i = m := by omega
    subst this
    rw [e2] at hk
    rw [e1 j (by omega)]
    intro e
    exact hv j k (by omega) e hk
/-- Where the ranges of a node lie. -/
theorem xits_kb {S : Nat → Prop} {w : World} {xs : List Value} {X : List Nd} (h : XItsZ Z S w xs X) {j k : Nat} (hj : j < X.length) (hk : kb7 xs j = some k) : S k ∧ k < w.heap.size := by
  obtain ⟨ad, cp, h1, h2, h3, h4⟩ := h j X[j] (List.getElem?_eq_getElem hj)
  rw [kb7_of (h1 2 (by omega))] at hk
  exact ⟨h3 k hk, (h2.lt k hk).2⟩
section
variable {B : Nat} {S T : Nat → Prop} {w w' : World} {ad : Option Addr} {c g : Nat} {X : List Nd}
theorem xo_kp (h : XOZ Z B S w ad c X) (k : Kp T w w') (h1 : ∀ j, (Value.slice ad X.length c).ownBlock = some j → ¬ T j) (hT : ∀ B' z n v ys j, w.ownsRow B' 55 z v n ys → v.ownBlock = some j → S j → ¬ T j) : XOZ Z B S w' ad c X := by
  obtain ⟨xs, h2, h3, h4⟩ := h
  exact ⟨xs, own_kp h2 k h1, xits_kp h3 k hT, h4⟩
theorem xo_imp (h : XOZ Z B S w ad c X) (hT : ∀ k, k < w.heap.size → S k → T k) : XOZ Z B T w ad c X := by
  obtain ⟨xs, h1, h2, h3⟩ := h
  exact ⟨xs, h1, xits_imp h2 hT, h3⟩
theorem xo_nil (B : Nat) (S : Nat → Prop) (w : World) : XOZ Z B S w none 0 [] := ⟨[], World.ownsRow_nil _ _ _ _, fun j nd hj => (by simp at hj), fun i _ _ hi => absurd hi (Nat.not_lt_zero _)⟩
theorem xo_below (h : XOZ Z B S w ad c X) (hb : Below w.heap.size w w') : XOZ Z B S w' ad c X := xo_kp (T := fun _ => False) h ⟨hb.os, hb.tape, hb.output, hb.size, fun k hk _ => hb.block k hk⟩ (fun _ _ x => x) (fun _ _ _ _ _ _ _ _ _ x => x)
theorem xo_alloc (h : XOZ Z B S w ad c X) (o : Obj) : XOZ Z B S (w.alloc o) ad c X := xo_kp (T := fun _ => False) h (kp_alloc w o) (fun _ _ x => x) (fun _ _ _ _ _ _ _ _ _ x => x)
theorem xo_form (h : XOZ Z B S w ad c X) (h0 : 0 < X.length) : ∃ g, ad = some ⟨g, 0, none⟩ ∧ B ≤ g ∧ g < w.heap.size := by
  obtain ⟨xs, h1, -⟩ := h
  obtain ⟨g, cap, hv, hB, hg⟩ := h1.form h0
  simp only [Value.slice.injEq] at hv
  exact ⟨g, hv.1, hB, hg⟩
theorem xo_cell (h : XOZ Z B S w (some ⟨g, 0, none⟩) c X) (o : Nat) (ho : o < X.length * 7) : (∃ v, w.cell? ⟨g, o, none⟩ = some v) ∧ w.frozen? ⟨g, o, none⟩ = false := by
  obtain ⟨xs, h1, h2⟩ := h
  refine ⟨?_, h1.frozenAt o⟩
  rw [h1.cellAt o (by omega)]
  exact ⟨_, List.getElem?_eq_getElem (by rw [h1.1]; omega)⟩
theorem xo_at7 (h : XOZ Z B S w (some ⟨g, 0, none⟩) c X) {i : Nat} {nd : Nd} (hi : X[i]? = some nd) : ∃ ad cp, (∀ o, o < 7 → w.cell? ⟨g, i * 7 + o, none⟩ = (ndV nd ad cp)[o]?) ∧ w.ownsRow 0 55 2 (.slice ad nd.L.length cp) nd.L.length (prV nd.L) ∧ (∀ k, (Value.slice ad nd.L.length cp).ownBlock = some k → S k) ∧ nd.L.length ≤ Z := by
  obtain ⟨xs, h1, h2, h3⟩ := h
  obtain ⟨ad, cp, b1, b2, b3, b4⟩ := h2 i nd hi
  have hlt := (List.getElem?_eq_some_iff.1 hi).1
  exact ⟨ad, cp, fun o ho => (h1.cellAt _ (by omega)).trans (b1 o ho), b2, b3, b4⟩
/-- A cell of a node is put anew. -/
theorem xo_set (h : XOZ Z B S w (some ⟨g, 0, none⟩) c X) {i o : Nat} {nd nd' : Nd} {v : Value} (hi : X[i]? = some nd) (ho : o < 7) (ho2 : o ≠ 2) (hL : nd'.L = nd.L) (hv : ∀ ad cp, ndV nd' ad cp = (ndV nd ad cp).set o v) : XOZ Z B S (w.setCell ⟨g, i * 7 + o, none⟩ v) (some ⟨g, 0, none⟩) c (X.set i nd') := by
  obtain ⟨xs, h1, h2, h3⟩ := h
  have hlt := (List.getElem?_eq_some_iff.1 hi).1
  have hne : ∀ j, j * 7 + 2 ≠ i * 7 + o := fun j => by omega
  refine ⟨xs.set (i * 7 + o) v, ?_, ?_, ?_⟩
  · rw [List.length_set]; exact (h1.stored (i * 7 + o) v).1
  · refine xits_kp (w := w) (T := fun k => k = g) ?_ (kp_set (S := fun k => k = g) _ _ _ rfl) (fun B' z n v ys j hv hj _ => own_ne hv hj h1 rfl (by decide))
    intro j n hj
    by_cases e : j = i
    · subst e
      rw [List.getElem?_set_self hlt] at hj
      simp only [Option.some.injEq] at hj
      subst hj
      obtain ⟨ad, cp, b1, b2, b3, b4⟩ := h2 j nd hi
      refine ⟨ad, cp, fun q hq => ?_, by rw [hL]; exact b2, by rw [hL]; exact b3, by rw [hL]; exact b4⟩
      rw [hv]
      by_cases eq : q = o
      · subst eq
        rw [List.getElem?_set_self (by have := h1.1; omega), List.getElem?_set_self (by simp [ndV]; omega)]
      · rw [List.getElem?_set_ne (by omega), List.getElem?_set_ne (by omega)]
        exact b1 q hq
    · rw [List.getElem?_set_ne (fun e2 => e e2.symm)] at hj
      obtain ⟨ad, cp, b1, b2, b3, b4⟩ := h2 j n hj
      refine ⟨ad, cp, fun q hq => ?_, b2, b3, b4⟩
      rw [List.getElem?_set_ne (by omega)]
      exact b1 q hq
  · rw [List.length_set]
    have e : ∀ j, kb7 (xs.set (i * 7 + o) v) j = kb7 xs j := fun j => by unfold kb7; rw [List.getElem?_set_ne (fun e => hne j e.symm)]
    intro a b k ha hb hab hk
    rw [e] at hk ⊢
    exact h3 a b k ha hb hab hk
/-- The ranges of a node are written anew where they lie. -/
theorem xo_L {kad : Option Addr} {kc : Nat} (h : XOZ Z B S w (some ⟨g, 0, none⟩) c X) {i : Nat} {nd : Nd} (hi : X[i]? = some nd) (L : List (Int × Int)) (hl : L.length = nd.L.length) (hc : w.cell? ⟨g, i * 7 + 2, none⟩ = some (.slice kad nd.L.length kc)) (hk : Kp (fun j => (Value.slice kad nd.L.length kc).ownBlock = some j) w w') (ho : w'.ownsRow 0 55 2 (.slice kad nd.L.length kc) nd.L.length (prV L)) : XOZ Z B S w' (some ⟨g, 0, none⟩) c (X.set i { nd with L := L }) := by
  obtain ⟨xs, h1, h2, h3⟩ := h
  have hlt := (List.getElem?_eq_some_iff.1 hi).1
  obtain ⟨adi, cpi, d1, e2, e3, e4⟩ := h2 i nd hi
  have hsl : Value.slice adi nd.L.length cpi = Value.slice kad nd.L.length kc := by
    have := (h1.cellAt (i * 7 + 2) (by omega)).symm.trans hc
    rw [d1 2 (by omega)] at this
    simpa [ndV] using this
  simp only [Value.slice.injEq] at hsl
  obtain ⟨rfl, -, rfl⟩ := hsl
  refine ⟨xs, ?_, fun j n hj => ?_, by rw [List.length_set]; exact h3⟩
  · rw [List.length_set]
    exact own_kp h1 hk (fun j hj e => own_ne e2 e h1 hj (by decide) rfl)
  by_cases e : j = i
  · subst e
    rw [List.getElem?_set_self hlt] at hj
    simp only [Option.some.injEq] at hj
    subst hj
    refine ⟨adi, cpi, fun q hq => ?_, ?_, ?_, ?_⟩
    · rw [d1 q hq]
      show (ndV nd adi cpi)[q]? = (ndV { nd with L := L } adi cpi)[q]?
      unfold ndV
      rw [hl]
    · show w'.ownsRow 0 _ 2 (.slice adi L.length cpi) L.length (prV L); rw [hl]; exact ho
    · show ∀ k, (Value.slice adi L.length cpi).ownBlock = some k → S k; rw [hl]; exact e3
    · show L.length ≤ Z; omega
  · rw [List.getElem?_set_ne (fun e2 => e e2.symm)] at hj
    obtain ⟨ad', cp', b1, b2, b3, b4⟩ := h2 j n hj
    refine ⟨ad', cp', b1, own_kp b2 hk (fun k hk9 e9 => ?_), b3, b4⟩
    have hjl := (List.getElem?_eq_some_iff.1 hj).1
    exact h3 i j k hlt hjl (fun e9 => e e9.symm) ((kb7_of (d1 2 (by omega))).trans e9) ((kb7_of (b1 2 (by omega))).trans hk9)
/-- What was put behind. -/
theorem xo_fin {wA : World} {xs : List Value} {X' : List Nd} {ad' : Option Addr} {c' : Nat} {v : Value} {n : Nat} {ys : List Value} (hp : XItsZ Z S wA xs X') (hdj : Dj7 xs X'.length) (hold : wA.ownsRow B 53 7 v n ys) (hown : w'.ownsRow B 53 7 (.slice ad' X'.length c') X'.length xs) (hg : wA.grownBy w' v.ownBlock) : XOZ Z B S w' ad' c' X' :=
  ⟨xs, hown, xits_kp hp (kp_grown (S := fun j => v.ownBlock = some j) hg (fun k hk => hk)) (fun B' z n' v' ys' j hv hj _ e => own_ne hv hj hold e (by decide) rfl), hdj⟩
end
/-- As numbers. -/
def nd0 : Nd := ⟨0, false, [], 0, 0, 0, 0⟩
def ndAt (X : List Nd) (j : Nat) : Nd := X[j]?.getD nd0
def rxOf (X : List Nd) : Rx := ⟨X.length, fun j => (ndAt X j).k, fun j => (ndAt X j).a, fun j => (ndAt X j).b, fun j => (ndAt X j).mn, fun j => (ndAt X j).mx, fun j => (ndAt X j).nt, fun j => (ndAt X j).L.length, fun j i => ((ndAt X j).L[i]?.getD (0, 0)).1, fun j i => ((ndAt X j).L[i]?.getD (0, 0)).2⟩
theorem ndAt_of {X : List Nd} {j : Nat} {nd : Nd} (h : X[j]? = some nd) : ndAt X j = nd := by unfold ndAt; rw [h]; rfl
theorem rng_own {w : World} {ad : Option Addr} {cp : Nat} {L : List (Int × Int)} (h : w.ownsRow 0 55 2 (.slice ad L.length cp) L.length (prV L)) : RngAt w ad L.length (fun i => (L[i]?.getD (0, 0)).1) (fun i => (L[i]?.getD (0, 0)).2) w.heap.size := fun h0 => by
  obtain ⟨g, cap, hv, hB, hg⟩ := h.form h0
  simp only [Value.slice.injEq] at hv
  obtain ⟨rfl, -, rfl⟩ := hv
  refine ⟨g, 0, rfl, hg, fun j hj => ?_⟩
  have hp : L[j]? = some L[j] := List.getElem?_eq_getElem hj
  obtain ⟨p1, p2⟩ := prV_at L j _ hp
  have e : L[j]?.getD (0, 0) = L[j] := by rw [hp]; rfl
  rw [Nat.zero_add]
  simp only [e]
  exact ⟨(h.cellAt _ (by omega)).trans p1, (h.cellAt _ (by omega)).trans p2⟩
theorem xo_rx {B : Nat} {S : Nat → Prop} {w : World} {ad : Option Addr} {c : Nat} {X : List Nd} (h : XOZ Z B S w ad c X) : RxAt w ad (rxOf X) w.heap.size := fun h0 => by
  have h0' : 0 < X.length := h0
  obtain ⟨g, rfl, -, hg⟩ := xo_form h h0'
  refine ⟨g, 0, rfl, hg, fun j hj => ?_⟩
  have hj' : j < X.length := hj
  obtain ⟨ad, cp, b1, b2, b3, b4⟩ := xo_at7 h (List.getElem?_eq_getElem hj')
  have e := ndAt_of (List.getElem?_eq_getElem hj')
  refine ⟨ad, cp, ?_, ?_⟩
  · unfold RxCells
    simp only [rxOf, e, Nat.zero_add]
    exact ⟨b1 0 (by omega), b1 1 (by omega), b1 2 (by omega), b1 3 (by omega), b1 4 (by omega), b1 5 (by omega), b1 6 (by omega)⟩
  · simp only [rxOf, e]
    exact rng_own b2
end
end Go.Proofs.YtibagghpimadfaaDoor

/-
  Plain facts on expressions as lists of nodes, of no program: where a node's piece begins, by the node's own fields, and by the pieces ahead of it.
-/
namespace Go.Proofs.YtibagghpimadfaaDoor
set_option linter.unusedVariables false
section
variable (two cnt : Nat → Bool) (A B : Nat → Int)
/-- Where the piece of node 'n' begins, if it is a right one ('f' bounds the depth). -/
def trF : Nat → Nat → Option Nat
  | 0, _ => none
  | f + 1, n =>
    if two n = true then
      (if n = 0 ∨ B n ≠ (n : Int) - 1 then none else
        match trF f (n - 1) with
        | none => none
        | some b => if b = 0 ∨ A n ≠ (b : Int) - 1 then none else trF f (b - 1))
    else if cnt n = true then (if n = 0 ∨ A n ≠ (n : Int) - 1 then none else trF f (n - 1))
    else some n
theorem trF_le : ∀ (f n b : Nat), trF two cnt A B f n = some b → b ≤ n
  | 0, n, b, h => by simp [trF] at h
  | f + 1, n, b, h => by
    rw [trF] at h
    split at h
    · split at h
      · cases h
      · rename_i hn
        cases hr : trF two cnt A B f (n - 1) with
        | none => rw [hr] at h; cases h
        | some c =>
          rw [hr] at h
          dsimp only at h
          have h1 := trF_le f (n - 1) c hr
          split at h
          · cases h
          · have h2 := trF_le f (c - 1) b h
            omega
    · split at h
      · split at h
        · cases h
        · have := trF_le f (n - 1) b h
          omega
      · cases h; exact Nat.le_refl _
theorem trF_more : ∀ (f g n : Nat), n < f → n < g → trF two cnt A B f n = trF two cnt A B g n
  | 0, g, n, hf, hg => by omega
  | f + 1, 0, n, hf, hg => by omega
  | f + 1, g + 1, n, hf, hg => by
    rw [trF, trF]
    by_cases h2 : two n = true
    · rw [if_pos h2, if_pos h2]
      by_cases h0 : n = 0 ∨ B n ≠ (n : Int) - 1
      · rw [if_pos h0, if_pos h0]
      · rw [if_neg h0, if_neg h0, trF_more f g (n - 1) (by omega) (by omega)]
        cases hr : trF two cnt A B g (n - 1) with
        | none => rfl
        | some c =>
          dsimp only
          have hc := trF_le two cnt A B g (n - 1) c hr
          by_cases h1 : c = 0 ∨ A n ≠ (c : Int) - 1
          · rw [if_pos h1, if_pos h1]
          · rw [if_neg h1, if_neg h1, trF_more f g (c - 1) (by omega) (by omega)]
    · rw [if_neg h2, if_neg h2]
      by_cases h3 : cnt n = true
      · rw [if_pos h3, if_pos h3]
        by_cases h0 : n = 0 ∨ A n ≠ (n : Int) - 1
        · rw [if_pos h0, if_pos h0]
        · rw [if_neg h0, if_neg h0, trF_more f g (n - 1) (by omega) (by omega)]
      · rw [if_neg h3, if_neg h3]
def tr (n : Nat) : Option Nat := trF two cnt A B (n + 1) n
theorem tr_two {n : Nat} (h : two n = true) : tr two cnt A B n = if n = 0 ∨ B n ≠ (n : Int) - 1 then none else match tr two cnt A B (n - 1) with | none => none | some b => if b = 0 ∨ A n ≠ (b : Int) - 1 then none else tr two cnt A B (b - 1) := by
  unfold tr
  rw [trF, if_pos h]
  by_cases h0 : n = 0 ∨ B n ≠ (n : Int) - 1
  · rw [if_pos h0, if_pos h0]
  · rw [if_neg h0, if_neg h0, trF_more two cnt A B n (n - 1 + 1) (n - 1) (by omega) (by omega)]
    cases hr : trF two cnt A B (n - 1 + 1) (n - 1) with
    | none => rfl
    | some c =>
      dsimp only
      have hc := trF_le two cnt A B _ _ c hr
      by_cases h1 : c = 0 ∨ A n ≠ (c : Int) - 1
      · rw [if_pos h1, if_pos h1]
      · rw [if_neg h1, if_neg h1, trF_more two cnt A B n (c - 1 + 1) (c - 1) (by omega) (by omega)]
theorem tr_cnt {n : Nat} (h : ¬ two n = true) (h3 : cnt n = true) : tr two cnt A B n = if n = 0 ∨ A n ≠ (n : Int) - 1 then none else tr two cnt A B (n - 1) := by
  unfold tr
  rw [trF, if_neg h, if_pos h3]
  by_cases h0 : n = 0 ∨ A n ≠ (n : Int) - 1
  · rw [if_pos h0, if_pos h0]
  · rw [if_neg h0, if_neg h0, trF_more two cnt A B n (n - 1 + 1) (n - 1) (by omega) (by omega)]
theorem tr_leaf {n : Nat} (h : ¬ two n = true) (h3 : ¬ cnt n = true) : tr two cnt A B n = some n := by
  unfold tr
  rw [trF, if_neg h, if_neg h3]
theorem tr_le {n b : Nat} (h : tr two cnt A B n = some b) : b ≤ n := trF_le two cnt A B _ _ _ h
/-- Every node of a right piece has a right piece of its own. -/
theorem tr_all : ∀ (m n b : Nat), n < m → tr two cnt A B n = some b → ∀ j, b ≤ j → j ≤ n → (tr two cnt A B j).isSome = true
  | 0, n, b, hm, h, j, hj, hn => by omega
  | m + 1, n, b, hm, h, j, hj, hn => by
    by_cases e : j = n
    · subst e; rw [h]; rfl
    · by_cases h2 : two n = true
      · have hh := h
        rw [tr_two two cnt A B h2] at hh
        split at hh
        · cases hh
        · cases hr : tr two cnt A B (n - 1) with
          | none => rw [hr] at hh; cases hh
          | some c =>
            rw [hr] at hh
            dsimp only at hh
            split at hh
            · cases hh
            · have hc := tr_le two cnt A B hr
              by_cases hjc : c ≤ j
              · exact tr_all m (n - 1) c (by omega) hr j hjc (by omega)
              · exact tr_all m (c - 1) b (by omega) hh j hj (by omega)
      · by_cases h3 : cnt n = true
        · have hh := h
          rw [tr_cnt two cnt A B h2 h3] at hh
          split at hh
          · cases hh
          · exact tr_all m (n - 1) b (by omega) hh j hj (by omega)
        · rw [tr_leaf two cnt A B h2 h3] at h
          cases h
          omega
variable (mu : Nat → Int)
/-- How much a node weighs, at most 2001 ('f' bounds the depth). -/
def wtF : Nat → Nat → Int
  | 0, _ => 0
  | f + 1, n => min (if two n = true then wtF f (A n).toNat + wtF f (B n).toNat else if cnt n = true then wtF f (A n).toNat * mu n else 1) 2001
theorem wtF_more : ∀ (f g n b : Nat), n < f → n < g → tr two cnt A B n = some b → wtF two cnt A B mu f n = wtF two cnt A B mu g n
  | 0, g, n, b, hf, hg, h => by omega
  | f + 1, 0, n, b, hf, hg, h => by omega
  | f + 1, g + 1, n, b, hf, hg, h => by
    rw [wtF, wtF]
    by_cases h2 : two n = true
    · rw [if_pos h2, if_pos h2]
      rw [tr_two two cnt A B h2] at h
      split at h
      · cases h
      · rename_i h0
        cases hr : tr two cnt A B (n - 1) with
        | none => rw [hr] at h; cases h
        | some c =>
          rw [hr] at h
          dsimp only at h
          split at h
          · cases h
          · rename_i h1
            have hc := tr_le two cnt A B hr
            have eB : (B n).toNat = n - 1 := by omega
            have eA : (A n).toNat = c - 1 := by omega
            rw [eA, eB, wtF_more f g (n - 1) c (by omega) (by omega) hr, wtF_more f g (c - 1) b (by omega) (by omega) h]
    · rw [if_neg h2, if_neg h2]
      by_cases h3 : cnt n = true
      · rw [if_pos h3, if_pos h3]
        rw [tr_cnt two cnt A B h2 h3] at h
        split at h
        · cases h
        · rename_i h0
          have eA : (A n).toNat = n - 1 := by omega
          rw [eA, wtF_more f g (n - 1) b (by omega) (by omega) h]
      · rw [if_neg h3, if_neg h3]
def wt (n : Nat) : Int := wtF two cnt A B mu (n + 1) n
theorem wt_le (n : Nat) : wt two cnt A B mu n ≤ 2001 := by
  unfold wt
  rw [wtF]
  exact Int.min_le_right _ _
theorem wt_two {n b c : Nat} (h : two n = true) (hn : ¬ (n = 0 ∨ B n ≠ (n : Int) - 1)) (hr : tr two cnt A B (n - 1) = some c) (hc : ¬ (c = 0 ∨ A n ≠ (c : Int) - 1)) (hb : tr two cnt A B (c - 1) = some b) :
    wt two cnt A B mu n = min (wt two cnt A B mu (c - 1) + wt two cnt A B mu (n - 1)) 2001 := by
  have hcl := tr_le two cnt A B hr
  unfold wt
  rw [wtF, if_pos h, show (B n).toNat = n - 1 by omega, show (A n).toNat = c - 1 by omega, wtF_more two cnt A B mu n (n - 1 + 1) (n - 1) c (by omega) (by omega) hr, wtF_more two cnt A B mu n (c - 1 + 1) (c - 1) b (by omega) (by omega) hb]
theorem wt_cnt {n b : Nat} (h : ¬ two n = true) (h3 : cnt n = true) (hn : ¬ (n = 0 ∨ A n ≠ (n : Int) - 1)) (hr : tr two cnt A B (n - 1) = some b) :
    wt two cnt A B mu n = min (wt two cnt A B mu (n - 1) * mu n) 2001 := by
  unfold wt
  rw [wtF, if_neg h, if_pos h3, show (A n).toNat = n - 1 by omega, wtF_more two cnt A B mu n (n - 1 + 1) (n - 1) b (by omega) (by omega) hr]
theorem wt_leaf {n : Nat} (h : ¬ two n = true) (h3 : ¬ cnt n = true) : wt two cnt A B mu n = 1 := by
  unfold wt
  rw [wtF, if_neg h, if_neg h3]
  decide
end
end Go.Proofs.YtibagghpimadfaaDoor
