/-
  Reading expressions: what stands at the beginning of a row of characters, and the nodes that it comes to. No step of the program in this text.
-/
import Derived.Test.YtepommmmmfaihaaDoorC5
import Derived.Test.YtepommmmmfaihaaDoorC9
namespace Go.Proofs.YtepommmmmfaihaaDoor
open Go.RowKit Go.Joins
set_option linter.unusedVariables false
set_option linter.unusedSimpArgs false
def sgE : List UInt8 := [46, 92, 63, 42, 43, 123, 125, 40, 41, 124, 91, 93, 45, 94]
def clsN (c : Int) : Nd := ⟨2, false, [(c, c)], 0, 0, 0, 0⟩
def emN : Nd := ⟨1, false, [], 0, 0, 0, 0⟩
def dotN : Nd := ⟨2, true, [(10, 10), (13, 13)], 0, 0, 0, 0⟩
def sqN (a b : Int) : Nd := ⟨3, false, [], a, b, 0, 0⟩
def orN (a b : Int) : Nd := ⟨4, false, [], a, b, 0, 0⟩
def cnN (a mn mx : Int) : Nd := ⟨5, false, [], a, 0, mn, mx⟩
def clN (nt : Bool) (L : List (Int × Int)) : Nd := ⟨2, nt, L, 0, 0, 0, 0⟩
/-- What stands behind a backslash, alone. -/
def esP : List Int → Option (Int × List Int)
  | [] => none
  | c :: r => if c = 110 then some (10, r) else if c = 114 then some (13, r) else if c = 116 then some (9, r) else if isS sgE c = true then some (c, r) else none
/-- A character within brackets. -/
def inP : List Int → Option (Int × List Int)
  | [] => none
  | c :: r => if c = 92 then esP r else if isS sgI c = true then none else some (c, r)
/-- The ranges of a letter behind a backslash. -/
def ltR (c : Int) : List (Int × Int) :=
  if c = 100 ∨ c = 68 then [(48, 57)] else if c = 119 ∨ c = 87 then [(48, 57), (65, 90), (95, 95), (97, 122)] else if c = 115 ∨ c = 83 then [(9, 10), (13, 13), (32, 32)] else []
def capB (c : Int) : Bool := decide (65 ≤ c ∧ c ≤ 90)
/-- What stands behind a backslash, outside brackets. -/
def bsP : List Int → List Nd → Option (List Int × List Nd)
  | [], X => none
  | c :: r, X => if 0 < (ltR c).length then some (r, X ++ [clN (capB c) (ltR c)]) else match esP (c :: r) with
    | none => none
    | some (d, r') => some (r', X ++ [clsN d])
/-- The ranges up to the end of the brackets. -/
def brF : Nat → List Int → List (Int × Int) → Option (List Int × List (Int × Int))
  | 0, _, _ => none
  | f + 1, u, L => if u.head? = some 93 then some (u.tail, L) else match inP u with
    | none => none
    | some (a, u1) => if u1.head? = some 45 then (match inP u1.tail with
        | none => none
        | some (b, u2) => brF f u2 (L ++ [(a, b)]))
      else brF f u1 (L ++ [(a, a)])
def brP (u : List Int) (X : List Nd) : Option (List Int × List Nd) := match brF (u.length + 1) (if u.head? = some 94 then u.tail else u) [] with
  | none => none
  | some (r, L) => some (r, X ++ [clN (decide (u.head? = some 94)) L])
def dgB (c : Int) : Bool := decide (48 ≤ c ∧ c ≤ 57)
def nm2 (n : Int) : List Int → Int × List Int
  | [] => (n, [])
  | d :: r => if dgB d = true then (n * 10 + (d - 48), r) else (n, d :: r)
theorem nm2_len (n : Int) (r : List Int) : (nm2 n r).2.length ≤ r.length := by
  cases r with
  | nil => exact Nat.le_refl _
  | cons d r =>
    rw [nm2]
    split
    · simp
    · exact Nat.le_refl _
/-- A number. -/
def nmP : List Int → Option (Int × List Int)
  | [] => none
  | c :: r => if dgB c = true then (if c = 48 then some (0, r) else some (nm2 (c - 48) r)) else none
/-- The limits of a count, behind the brace. -/
def lmP (u : List Int) : Option ((Int × Int) × List Int) := match nmP u with
  | none => none
  | some (n, r) => if r.head? = some 125 then some ((n, n), r.tail) else if r.head? = some 44 then (if r.tail.head? = some 125 then some ((n, -1), r.tail.tail) else match nmP r.tail with
      | none => none
      | some (m, r2) => if r2.head? = some 125 then some ((n, m), r2.tail) else none)
    else none
/-- What stands behind an atom. -/
def ctP (u : List Int) : Option (Option (Int × Int) × List Int) :=
  if u.head? = some 63 then some (some (0, 1), u.tail) else if u.head? = some 42 then some (some (0, -1), u.tail) else if u.head? = some 43 then some (some (1, -1), u.tail) else
  if u.head? = some 123 then (match lmP u.tail with
    | none => none
    | some (m, r) => some (some m, r))
  else some (none, u)
def rwE (u : List Int) : Bool := decide (u = [] ∨ u.head? = some 124 ∨ u.head? = some 41)
mutual
def rdC : Nat → List Int → List Nd → Option (List Int × List Nd)
  | 0, _, _ => none
  | f + 1, u, X => match rdR f u X with
    | none => none
    | some (u1, X1) => rdCl f u1 X1
def rdCl : Nat → List Int → List Nd → Option (List Int × List Nd)
  | 0, _, _ => none
  | f + 1, u, X => if u.head? = some 124 then (match rdR f u.tail X with
    | none => none
    | some (u1, X1) => rdCl f u1 (X1 ++ [orN ((X.length : Int) - 1) ((X1.length : Int) - 1)])) else some (u, X)
def rdR : Nat → List Int → List Nd → Option (List Int × List Nd)
  | 0, _, _ => none
  | f + 1, u, X => if rwE u = true then some (u, X ++ [emN]) else match rdP f u X with
    | none => none
    | some (u1, X1) => rdRl f u1 X1
def rdRl : Nat → List Int → List Nd → Option (List Int × List Nd)
  | 0, _, _ => none
  | f + 1, u, X => if rwE u = true then some (u, X) else match rdP f u X with
    | none => none
    | some (u1, X1) => rdRl f u1 (X1 ++ [sqN ((X.length : Int) - 1) ((X1.length : Int) - 1)])
def rdP : Nat → List Int → List Nd → Option (List Int × List Nd)
  | 0, _, _ => none
  | f + 1, u, X => match rdA f u X with
    | none => none
    | some (u1, X1) => match ctP u1 with
      | none => none
      | some (none, u2) => some (u2, X1)
      | some (some m, u2) => some (u2, X1 ++ [cnN ((X1.length : Int) - 1) m.1 m.2])
def rdA : Nat → List Int → List Nd → Option (List Int × List Nd)
  | 0, _, _ => none
  | f + 1, [], X => none
  | f + 1, c :: r, X => if c = 40 then (match rdC f r X with
      | none => none
      | some (u1, X1) => if u1.head? = some 41 then some (u1.tail, X1) else none)
    else if c = 91 then brP r X else if c = 46 then some (r, X ++ [dotN]) else if c = 92 then bsP r X else if isS sgO c = true then none else some (r, X ++ [clsN c])
end
/-- How much was read, and how many nodes it came to. -/
def Sh (u : List Int) (X : List Nd) (u' : List Int) (X' : List Nd) (a b : Nat) : Prop := (∃ Y, X' = X ++ Y) ∧ u'.length ≤ u.length ∧ X'.length + 2 * u'.length + b ≤ X.length + 2 * u.length + a
theorem Sh.trans {u u1 u2 : List Int} {X X1 X2 : List Nd} {a b a' b' : Nat} (h : Sh u X u1 X1 a b) (k : Sh u1 X1 u2 X2 a' b') : Sh u X u2 X2 (a + a') (b + b') := by
  obtain ⟨⟨Y, h0⟩, h2, h3⟩ := h
  obtain ⟨⟨Z, h4⟩, h5, h6⟩ := k
  exact ⟨⟨Y ++ Z, by rw [h4, h0, List.append_assoc]⟩, by omega, by omega⟩
theorem Sh.le {u u1 : List Int} {X X1 : List Nd} {a b a' b' : Nat} (h : Sh u X u1 X1 a b) (k : a + b' ≤ a' + b) : Sh u X u1 X1 a' b' := ⟨h.1, h.2.1, by have := h.2.2; omega⟩
theorem sh_add {u u1 : List Int} {X X1 : List Nd} {a b : Nat} (h : Sh u X u1 X1 a b) (n : Nd) : Sh u X u1 (X1 ++ [n]) (a + 1) b := by
  obtain ⟨⟨Y, h0⟩, h2, h3⟩ := h
  exact ⟨⟨Y ++ [n], by rw [h0, List.append_assoc]⟩, h2, by rw [List.length_append, List.length_singleton]; omega⟩
theorem sh_refl (u : List Int) (X : List Nd) : Sh u X u X 0 0 := ⟨⟨[], by simp⟩, Nat.le_refl _, Nat.le_refl _⟩
theorem sh_cut {u u' : List Int} (X : List Nd) {b : Nat} (h : u'.length + b ≤ u.length) : Sh u X u' X 0 (2 * b) := ⟨⟨[], by simp⟩, by omega, by omega⟩
theorem es_len : ∀ {u : List Int} {c : Int} {r : List Int}, esP u = some (c, r) → r.length + 1 ≤ u.length
  | [], c, r, h => by cases h
  | d :: u, c, r, h => by
    rw [esP] at h
    split at h
    · cases h; simp
    · split at h
      · cases h; simp
      · split at h
        · cases h; simp
        · split at h
          · cases h; simp
          · cases h
theorem in_len : ∀ {u : List Int} {c : Int} {r : List Int}, inP u = some (c, r) → r.length + 1 ≤ u.length
  | [], c, r, h => by cases h
  | d :: u, c, r, h => by
    rw [inP] at h
    split at h
    · have := es_len h; simp; omega
    · split at h
      · cases h
      · cases h; simp
theorem tail_len (u : List Int) : u.tail.length ≤ u.length := by simp
theorem tail_cons {u : List Int} {c : Int} (h : u.head? = some c) : u = c :: u.tail := by
  cases u with
  | nil => cases h
  | cons d u => simp at h; subst h; rfl
theorem tail_lt {u : List Int} {c : Int} (h : u.head? = some c) : u.tail.length + 1 = u.length := by
  conv => rhs; rw [tail_cons h]
  simp
theorem br_len : ∀ (f : Nat) {u : List Int} {L : List (Int × Int)} {r : List Int} {L' : List (Int × Int)}, brF f u L = some (r, L') → r.length ≤ u.length ∧ L'.length + r.length ≤ L.length + u.length
  | 0, u, L, r, L', h => by cases h
  | f + 1, u, L, r, L', h => by
    rw [brF] at h
    split at h
    · cases h
      have := tail_len u
      omega
    · split at h
      · cases h
      · rename_i a u1 e1
        have h1 := in_len e1
        split at h
        · split at h
          · cases h
          · rename_i b u2 e2
            have h2 := in_len e2
            have h3 := tail_len u1
            have := br_len f h
            simp at this
            omega
        · have := br_len f h
          simp at this
          omega
theorem nm_len : ∀ {u : List Int} {n : Int} {r : List Int}, nmP u = some (n, r) → r.length + 1 ≤ u.length
  | [], n, r, h => by cases h
  | c :: u, n, r, h => by
    rw [nmP] at h
    split at h
    · split at h
      · cases h; simp
      · have h1 := nm2_len (c - 48) u
        have h2 : nm2 (c - 48) u = (n, r) := by simpa using h
        rw [h2] at h1
        simp at h1 ⊢
        omega
    · cases h
theorem lm_len {u : List Int} {m : Int × Int} {r : List Int} (h : lmP u = some (m, r)) : r.length + 1 ≤ u.length := by
  unfold lmP at h
  split at h
  · cases h
  · rename_i n r1 e1
    have h1 := nm_len e1
    have h2 := tail_len r1
    split at h
    · cases h; omega
    · split at h
      · split at h
        · cases h
          have h3 := tail_len r1.tail
          omega
        · split at h
          · cases h
          · rename_i m r2 e2
            have h3 := nm_len e2
            have h4 := tail_len r2
            split at h
            · cases h; omega
            · cases h
      · cases h
theorem ct_len {u : List Int} {m : Option (Int × Int)} {r : List Int} (h : ctP u = some (m, r)) : (m = none ∧ r = u) ∨ (m ≠ none ∧ r.length + 1 ≤ u.length) := by
  unfold ctP at h
  split at h
  · rename_i e; cases h; have := tail_lt e; exact .inr ⟨by simp, by omega⟩
  · split at h
    · rename_i e; cases h; have := tail_lt e; exact .inr ⟨by simp, by omega⟩
    · split at h
      · rename_i e; cases h; have := tail_lt e; exact .inr ⟨by simp, by omega⟩
      · split at h
        · rename_i e
          split at h
          · cases h
          · rename_i m r e2
            cases h
            have h1 := lm_len e2
            have := tail_lt e
            exact .inr ⟨by simp, by omega⟩
        · cases h; exact .inl ⟨rfl, rfl⟩
theorem bs_sh {u : List Int} {X : List Nd} {u' : List Int} {X' : List Nd} (h : bsP u X = some (u', X')) : Sh u X u' X' 1 2 := by
  cases u with
  | nil => cases h
  | cons c r =>
    rw [bsP] at h
    split at h
    · cases h
      exact (sh_add (sh_cut (u := c :: u') (u' := u') X (b := 1) (by simp)) _).le (by omega)
    · split at h
      · cases h
      · rename_i d r' e
        cases h
        exact (sh_add (sh_cut (u := c :: r) X (b := 1) (es_len e)) _).le (by omega)
theorem br_sh {u : List Int} {X : List Nd} {u' : List Int} {X' : List Nd} (h : brP u X = some (u', X')) : Sh u X u' X' 1 0 := by
  unfold brP at h
  split at h
  · cases h
  · rename_i r L e
    cases h
    have h1 := (br_len _ e).1
    have h2 := tail_len u
    have h3 : u'.length ≤ u.length := by split at h1 <;> omega
    exact (sh_add (sh_cut (u := u) X (b := 0) h3) _).le (by omega)
/-- What is read, and what it comes to, in every part. -/
theorem rd_sh : ∀ (f : Nat), (∀ {u X u' X'}, rdC f u X = some (u', X') → Sh u X u' X' 1 0) ∧ (∀ {u X u' X'}, rdCl f u X = some (u', X') → Sh u X u' X' 0 0) ∧ (∀ {u X u' X'}, rdR f u X = some (u', X') → Sh u X u' X' 1 0) ∧
    (∀ {u X u' X'}, rdRl f u X = some (u', X') → Sh u X u' X' 0 0) ∧ (∀ {u X u' X'}, rdP f u X = some (u', X') → Sh u X u' X' 0 1) ∧ (∀ {u X u' X'}, rdA f u X = some (u', X') → Sh u X u' X' 0 1)
  | 0 => by
    refine ⟨fun h => ?_, fun h => ?_, fun h => ?_, fun h => ?_, fun h => ?_, fun h => ?_⟩
    · rw [rdC] at h; cases h
    · rw [rdCl] at h; cases h
    · rw [rdR] at h; cases h
    · rw [rdRl] at h; cases h
    · rw [rdP] at h; cases h
    · rw [rdA] at h; cases h
  | f + 1 => by
    obtain ⟨iC, iCl, iR, iRl, iP, iA⟩ := rd_sh f
    refine ⟨fun {u X u' X'} h => ?_, fun {u X u' X'} h => ?_, fun {u X u' X'} h => ?_, fun {u X u' X'} h => ?_, fun {u X u' X'} h => ?_, fun {u X u' X'} h => ?_⟩
    · rw [rdC] at h
      split at h
      · cases h
      · rename_i u1 X1 e
        exact ((iR e).trans (iCl h)).le (by omega)
    · rw [rdCl] at h
      split at h
      · rename_i e0
        split at h
        · cases h
        · rename_i u1 X1 e
          have h1 := tail_lt e0
          have h2 := (sh_cut (u := u) (u' := u.tail) X (b := 1) (by omega)).trans (sh_add (iR e) (orN ((X.length : Int) - 1) ((X1.length : Int) - 1)))
          exact (h2.trans (iCl h)).le (by omega)
      · cases h; exact sh_refl _ _
    · rw [rdR] at h
      split at h
      · cases h; exact (sh_add (sh_refl _ _) _).le (by omega)
      · split at h
        · cases h
        · rename_i u1 X1 e
          exact ((iP e).trans (iRl h)).le (by omega)
    · rw [rdRl] at h
      split at h
      · cases h; exact sh_refl _ _
      · split at h
        · cases h
        · rename_i u1 X1 e
          exact ((sh_add (iP e) (sqN ((X.length : Int) - 1) ((X1.length : Int) - 1))).trans (iRl h)).le (by omega)
    · rw [rdP] at h
      split at h
      · cases h
      · rename_i u1 X1 e
        have h1 := iA e
        split at h
        · cases h
        · rename_i u2 e2
          cases h
          rcases ct_len e2 with ⟨-, rfl⟩ | ⟨h9, -⟩
          · exact h1
          · exact absurd rfl h9
        · rename_i m u2 e2
          cases h
          rcases ct_len e2 with ⟨h9, -⟩ | ⟨-, h9⟩
          · cases h9
          · exact (h1.trans (sh_add (sh_cut (u := u1) X1 (b := 1) h9) (cnN ((X1.length : Int) - 1) m.1 m.2))).le (by omega)
    · cases u with
      | nil => rw [rdA] at h; cases h
      | cons c r =>
        have hc : Sh (c :: r) X r X 0 2 := (sh_cut (u := c :: r) (u' := r) X (b := 1) (by simp)).le (by omega)
        rw [rdA] at h
        split at h
        · split at h
          · cases h
          · rename_i u1 X1 e
            split at h
            · rename_i e2
              cases h
              have h2 := tail_lt e2
              exact ((hc.trans (iC e)).trans (sh_cut (u := u1) (u' := u1.tail) _ (b := 1) (by omega))).le (by omega)
            · cases h
        · split at h
          · exact (hc.trans (br_sh h)).le (by omega)
          · split at h
            · cases h; exact (sh_add hc dotN).le (by omega)
            · split at h
              · exact (hc.trans (bs_sh h)).le (by omega)
              · split at h
                · cases h
                · cases h; exact (sh_add hc (clsN c)).le (by omega)
end Go.Proofs.YtepommmmmfaihaaDoor
