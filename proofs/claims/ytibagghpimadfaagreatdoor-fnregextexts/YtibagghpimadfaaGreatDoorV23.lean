/-
  Texts of expressions as rows of characters: the text of a right expression is read as that expression. No step of the program in this text.
-/
import Derived.Test.YtibagghpimadfaaGreatDoorV10
import Derived.Test.YtibagghpimadfaaGreatDoorV22
namespace Go.Proofs.YtibagghpimadfaaGreatDoor
open Go.RowKit Go.Joins
set_option linter.unusedVariables false
set_option linter.unusedSimpArgs false
/-- What a right node is. -/
theorem nd_form {X : List Nd} {j : Nat} {nd : Nd} (hj : X[j]? = some nd) (h : nodeX (rxOf X) j = true) : nd = emN ∨ (∃ nt L, nd = clN nt L ∧ 0 < L.length) ∨ (∃ a b, nd = sqN a b) ∨ (∃ a b, nd = orN a b) ∨ ∃ a mn mx, nd = cnN a mn mx ∧ 0 ≤ mn ∧ mn ≤ 20 ∧ (mx = -1 ∨ (mn ≤ mx ∧ mx ≤ 20)) := by
  unfold nodeX at h
  simp only [rxOf, ndAt_of hj] at h
  obtain ⟨k, nt, L, a, b, mn, mx⟩ := nd
  simp only at h
  unfold nodeB at h
  have hL : ((L.length : Int) == 0) = true → L = [] := fun h9 => by
    have : (L.length : Int) = 0 := by simpa using h9
    exact List.length_eq_zero_iff.1 (by omega)
  split at h
  · rename_i e
    simp only [Bool.and_eq_true, Bool.not_eq_true', beq_iff_eq] at h
    obtain ⟨h1, h2, h3, h4, h5, h6⟩ := h
    have := hL (by simpa using h2)
    subst e h1 this h3 h4 h5 h6
    exact .inl rfl
  · split at h
    · rename_i e
      simp only [Bool.and_eq_true, beq_iff_eq] at h
      obtain ⟨h1, h3, h4, h5, h6⟩ := h
      unfold rowB at h1
      simp only [Bool.and_eq_true, decide_eq_true_eq] at h1
      subst e h3 h4 h5 h6
      exact .inr (.inl ⟨nt, L, rfl, by omega⟩)
    · split at h
      · rename_i e
        simp only [Bool.and_eq_true, Bool.not_eq_true', beq_iff_eq] at h
        obtain ⟨h1, h2, h5, h6⟩ := h
        have := hL (by simpa using h2)
        subst h1 this h5 h6
        rcases e with rfl | rfl
        · exact .inr (.inr (.inl ⟨a, b, rfl⟩))
        · exact .inr (.inr (.inr (.inl ⟨a, b, rfl⟩)))
      · split at h
        · rename_i e
          simp only [Bool.and_eq_true, Bool.or_eq_true, Bool.not_eq_true', beq_iff_eq, decide_eq_true_eq] at h
          obtain ⟨h1, h2, h4, h5, h6⟩ := h
          have := hL (by simpa using h2)
          subst e h1 this h4
          exact .inr (.inr (.inr (.inr ⟨a, mn, mx, rfl, h5.1, h5.2, h6⟩)))
        · cases h
def wrL (ks : List Int) (k : Int) (t : List Int) : List Int := if ks.contains k = true then 40 :: (t ++ [41]) else t
/-- A node's text. -/
def ntL (X : List Nd) (n : Nat) : List Int :=
  if (ndAt X n).k = 2 then ctL (ndAt X n).nt (ndAt X n).L
  else if (ndAt X n).k = 3 then (if h : (ndAt X n).a.toNat < n ∧ (ndAt X n).b.toNat < n then wrL [4] (ndAt X (ndAt X n).a.toNat).k (ntL X (ndAt X n).a.toNat) ++ wrL [3, 4] (ndAt X (ndAt X n).b.toNat).k (ntL X (ndAt X n).b.toNat) else [])
  else if (ndAt X n).k = 4 then (if h : (ndAt X n).a.toNat < n ∧ (ndAt X n).b.toNat < n then wrL [] (ndAt X (ndAt X n).a.toNat).k (ntL X (ndAt X n).a.toNat) ++ 124 :: wrL [4] (ndAt X (ndAt X n).b.toNat).k (ntL X (ndAt X n).b.toNat) else [])
  else if (ndAt X n).k = 5 then (if h : (ndAt X n).a.toNat < n then wrL [3, 4, 5] (ndAt X (ndAt X n).a.toNat).k (ntL X (ndAt X n).a.toNat) ++ cnL (ndAt X n).mn (ndAt X n).mx else [])
  else [40, 41]
termination_by n
decreasing_by all_goals omega
theorem take_nd {X : List Nd} {n : Nat} {nd : Nd} (h : X[n]? = some nd) : X.take (n + 1) = X.take n ++ [nd] := by
  rw [List.take_add_one, h]; rfl
theorem take_len {X : List Nd} {n : Nat} (h : n ≤ X.length) : ((X.take n).length : Int) = n := by
  rw [List.length_take]; omega
/-- What is known of the text of a node, whose tree begins at f. -/
structure NtR (X : List Nd) (n f : Nat) : Prop where
  hd : hdG (ntL X n)
  ch : ∀ r, rwE r = true → cC (ntL X n ++ r) (X.take f) = cCl r (X.take (n + 1))
  ro : (ndAt X n).k ≠ 4 → ∀ r, ctP r = some (none, r) → cR (ntL X n ++ r) (X.take f) = cRl r (X.take (n + 1))
  pi : (ndAt X n).k ≠ 4 → (ndAt X n).k ≠ 3 → ∀ r, ctP r = some (none, r) → cP (ntL X n ++ r) (X.take f) = some (r, X.take (n + 1))
  at' : (ndAt X n).k = 1 ∨ (ndAt X n).k = 2 → ∀ r, cA (ntL X n ++ r) (X.take f) = some (r, X.take (n + 1))
section
variable {X : List Nd} {n f : Nat}
/-- In parentheses it is an atom. -/
theorem nr_par (h : NtR X n f) (r : List Int) : cA (40 :: (ntL X n ++ [41]) ++ r) (X.take f) = some (r, X.take (n + 1)) := by
  have e : 40 :: (ntL X n ++ [41]) ++ r = 40 :: (ntL X n ++ 41 :: r) := by simp
  rw [e]
  exact cA_par ((h.ch (41 :: r) rfl).trans (cCl_end (by simp)))
theorem wr_hd (h : NtR X n f) (ks : List Int) (k : Int) : hdG (wrL ks k (ntL X n)) := by
  unfold wrL
  split
  · exact hd_of (.inr (.inr rfl))
  · exact h.hd
/-- A row's right side, and what is counted, is a piece, an atom. -/
theorem wr_pi (h : NtR X n f) {r : List Int} (hr : ctP r = some (none, r)) : cP (wrL [3, 4] (ndAt X n).k (ntL X n) ++ r) (X.take f) = some (r, X.take (n + 1)) := by
  unfold wrL
  by_cases e : ([3, 4] : List Int).contains (ndAt X n).k = true
  · rw [if_pos e]; exact cP_none (nr_par h r) hr
  · rw [if_neg e]
    simp at e
    exact h.pi e.2 e.1 r hr
theorem wr_at (h : NtR X n f) (hk : (ndAt X n).k = 1 ∨ (ndAt X n).k = 2 ∨ (ndAt X n).k = 3 ∨ (ndAt X n).k = 4 ∨ (ndAt X n).k = 5) (r : List Int) : cA (wrL [3, 4, 5] (ndAt X n).k (ntL X n) ++ r) (X.take f) = some (r, X.take (n + 1)) := by
  unfold wrL
  by_cases e : ([3, 4, 5] : List Int).contains (ndAt X n).k = true
  · rw [if_pos e]; exact nr_par h r
  · rw [if_neg e]
    simp at e
    exact h.at' (by omega) r
theorem wr_ro (h : NtR X n f) {r : List Int} (hr : ctP r = some (none, r)) : cR (wrL [4] (ndAt X n).k (ntL X n) ++ r) (X.take f) = cRl r (X.take (n + 1)) := by
  unfold wrL
  by_cases e : ([4] : List Int).contains (ndAt X n).k = true
  · rw [if_pos e]; exact cR_of (hdG_row (hdG_app (hd_of (.inr (.inr rfl))) r)) (cP_none (nr_par h r) hr)
  · rw [if_neg e]
    simp at e
    exact h.ro e r hr
/-- From a piece to all the rest. -/
theorem nr_pi (hd : hdG (ntL X n)) (h4 : (ndAt X n).k ≠ 4) (h3 : (ndAt X n).k ≠ 3) (pi : ∀ r, ctP r = some (none, r) → cP (ntL X n ++ r) (X.take f) = some (r, X.take (n + 1))) (at' : (ndAt X n).k = 1 ∨ (ndAt X n).k = 2 → ∀ r, cA (ntL X n ++ r) (X.take f) = some (r, X.take (n + 1))) : NtR X n f := by
  have ro : ∀ r, ctP r = some (none, r) → cR (ntL X n ++ r) (X.take f) = cRl r (X.take (n + 1)) := fun r hr => cR_of (hdG_row (hdG_app hd r)) (pi r hr)
  exact ⟨hd, fun r hr => cC_of ((ro r (row_ct hr)).trans (cRl_end hr)), fun _ => ro, fun _ _ => pi, at'⟩
end
theorem kind_of {X : List Nd} {n : Nat} (hn : n < X.length) (h : nodeX (rxOf X) n = true) : (ndAt X n).k = 1 ∨ (ndAt X n).k = 2 ∨ (ndAt X n).k = 3 ∨ (ndAt X n).k = 4 ∨ (ndAt X n).k = 5 := by
  have hg := List.getElem?_eq_getElem hn
  rw [ndAt_of hg]
  rcases nd_form hg h with e | ⟨nt, L, e, -⟩ | ⟨a, b, e⟩ | ⟨a, b, e⟩ | ⟨a, mn, mx, e, -⟩ <;> (rw [e]; simp [emN, clN, sqN, orN, cnN])
/-- The text of every node of a right expression is read as its tree. -/
theorem nt_back (X : List Nd) (hok : ∀ j, j < X.length → nodeX (rxOf X) j = true) : ∀ (m n f : Nat), n < m → n < X.length → trX (rxOf X) n = some f → NtR X n f
  | 0, n, f, h, _, _ => by omega
  | m + 1, n, f, h, hn, ht => by
    have hg := List.getElem?_eq_getElem hn
    have hat := ndAt_of hg
    have htk := take_nd hg
    have leaf : (rxOf X).K n ≠ 3 → (rxOf X).K n ≠ 4 → (rxOf X).K n ≠ 5 → f = n := fun h3 h4 h5 => by
      have := tr_leaf (two := twoK (rxOf X).K) (cnt := cntK (rxOf X).K) (A := (rxOf X).A) (B := (rxOf X).B) (n := n) (by unfold twoK; simp; omega) (by unfold cntK; simp; omega)
      unfold trX at ht
      rw [this] at ht
      cases ht; rfl
    have hK : (rxOf X).K n = (ndAt X n).k := rfl
    have hA : (rxOf X).A n = (ndAt X n).a := rfl
    have hB : (rxOf X).B n = (ndAt X n).b := rfl
    rcases nd_form hg (hok n hn) with e | ⟨nt, L, e, hL⟩ | ⟨a, b, e⟩ | ⟨a, b, e⟩ | ⟨a, mn, mx, e, h0, h1, h2⟩
    · rw [e] at hat htk
      obtain rfl := leaf (by rw [hK, hat]; simp [emN, clN]) (by rw [hK, hat]; simp [emN, clN]) (by rw [hK, hat]; simp [emN, clN])
      have ht : ntL X f = [40, 41] := by rw [ntL, hat]; rfl
      have at' : ∀ r, cA (ntL X f ++ r) (X.take f) = some (r, X.take (f + 1)) := fun r => by
        rw [ht, htk]
        exact cA_par ((cC_of (cR_empty rfl)).trans (cCl_end (by simp)))
      exact nr_pi (by rw [ht]; exact hd_of (.inr (.inr rfl))) (by rw [hat]; simp [emN, clN, sqN, orN, cnN]) (by rw [hat]; simp [emN, clN, sqN, orN, cnN]) (fun r hr => cP_none (at' r) hr) (fun _ => at')
    · rw [e] at hat htk
      obtain rfl := leaf (by rw [hK, hat]; simp [emN, clN]) (by rw [hK, hat]; simp [emN, clN]) (by rw [hK, hat]; simp [emN, clN])
      have ht : ntL X f = ctL nt L := by rw [ntL, hat]; rfl
      have at' : ∀ r, cA (ntL X f ++ r) (X.take f) = some (r, X.take (f + 1)) := fun r => by
        rw [ht, htk]
        exact ct_atom nt L r _ hL
      exact nr_pi (by rw [ht]; exact ct_head nt L) (by rw [hat]; simp [emN, clN, sqN, orN, cnN]) (by rw [hat]; simp [emN, clN, sqN, orN, cnN]) (fun r hr => cP_none (at' r) hr) (fun _ => at')
    · rw [e] at hat htk
      obtain ⟨c, pA, pB, ha, hb, hc1, hc2, t1, t2⟩ := tr_parts ht (.inl (by rw [hK, hat]; rfl))
      have iB := nt_back X hok m (n - 1) c (by omega) (by omega) t1
      have iA := nt_back X hok m (c - 1) f (by omega) (by omega) t2
      rw [hA, hat] at pA
      rw [hB, hat] at pB
      have pA' : a = ((c - 1 : Nat) : Int) := pA
      have pB' : b = ((n - 1 : Nat) : Int) := pB
      have ht : ntL X n = wrL [4] (ndAt X (c - 1)).k (ntL X (c - 1)) ++ wrL [3, 4] (ndAt X (n - 1)).k (ntL X (n - 1)) := by
        rw [ntL, hat]
        show (if (3 : Int) = 2 then _ else if (3 : Int) = 3 then (if h : a.toNat < n ∧ b.toNat < n then wrL [4] (ndAt X a.toNat).k (ntL X a.toNat) ++ wrL [3, 4] (ndAt X b.toNat).k (ntL X b.toNat) else []) else _) = _
        rw [if_neg (by decide), if_pos rfl, pA', pB']
        simp only [Int.toNat_natCast]
        rw [dif_pos ⟨ha, hb⟩]
      have ec : c - 1 + 1 = c := by omega
      have en : n - 1 + 1 = n := by omega
      have ro : ∀ r, ctP r = some (none, r) → cR (ntL X n ++ r) (X.take f) = cRl r (X.take (n + 1)) := fun r hr => by
        have hw : hdG (wrL [3, 4] (ndAt X (n - 1)).k (ntL X (n - 1)) ++ r) := hdG_app (wr_hd iB _ _) r
        rw [ht, List.append_assoc, wr_ro iA (hdG_ct hw), ec, cRl_more (hdG_row hw) (wr_pi iB hr), en, htk, take_len (by omega), take_len (by omega)]
        congr 3
        unfold sqN
        rw [pA', pB']
        congr 1
        · omega
        · omega
      exact ⟨by rw [ht]; exact hdG_app (wr_hd iA _ _) _, fun r hr => cC_of ((ro r (row_ct hr)).trans (cRl_end hr)), fun _ => ro, fun _ h3 => absurd (by rw [hat]; rfl) h3, fun h9 => by rw [hat] at h9; simp [sqN, orN, cnN] at h9⟩
    · rw [e] at hat htk
      obtain ⟨c, pA, pB, ha, hb, hc1, hc2, t1, t2⟩ := tr_parts ht (.inr (by rw [hK, hat]; rfl))
      have iB := nt_back X hok m (n - 1) c (by omega) (by omega) t1
      have iA := nt_back X hok m (c - 1) f (by omega) (by omega) t2
      rw [hA, hat] at pA
      rw [hB, hat] at pB
      have pA' : a = ((c - 1 : Nat) : Int) := pA
      have pB' : b = ((n - 1 : Nat) : Int) := pB
      have ht : ntL X n = ntL X (c - 1) ++ 124 :: wrL [4] (ndAt X (n - 1)).k (ntL X (n - 1)) := by
        rw [ntL, hat]
        show (if (4 : Int) = 2 then _ else if (4 : Int) = 3 then _ else if (4 : Int) = 4 then (if h : a.toNat < n ∧ b.toNat < n then wrL [] (ndAt X a.toNat).k (ntL X a.toNat) ++ 124 :: wrL [4] (ndAt X b.toNat).k (ntL X b.toNat) else []) else _) = _
        rw [if_neg (by decide), if_neg (by decide), if_pos rfl, pA', pB']
        simp only [Int.toNat_natCast]
        rw [dif_pos ⟨ha, hb⟩]
        rfl
      have ec : c - 1 + 1 = c := by omega
      have en : n - 1 + 1 = n := by omega
      refine ⟨by rw [ht]; exact hdG_app iA.hd _, fun r hr => ?_, fun h4 => absurd (by rw [hat]; rfl) h4, fun h4 => absurd (by rw [hat]; rfl) h4, fun h9 => by rw [hat] at h9; simp [sqN, orN, cnN] at h9⟩
      have hcr : cR (wrL [4] (ndAt X (n - 1)).k (ntL X (n - 1)) ++ r) (X.take c) = some (r, X.take (n - 1 + 1)) := (wr_ro iB (row_ct hr)).trans (cRl_end hr)
      have ea : ntL X n ++ r = ntL X (c - 1) ++ 124 :: (wrL [4] (ndAt X (n - 1)).k (ntL X (n - 1)) ++ r) := by rw [ht]; simp
      rw [ea, iA.ch _ rfl, ec, cCl_more hcr rfl, en, htk, take_len (by omega), take_len (by omega)]
      congr 3
      unfold orN
      rw [pA', pB']
      congr 1
      · omega
      · omega
    · rw [e] at hat htk
      obtain ⟨pA, ha, t1⟩ := tr_part1 ht (by rw [hK, hat]; rfl)
      have iA := nt_back X hok m (n - 1) f (by omega) (by omega) t1
      rw [hA, hat] at pA
      have pA' : a = ((n - 1 : Nat) : Int) := pA
      have ht : ntL X n = wrL [3, 4, 5] (ndAt X (n - 1)).k (ntL X (n - 1)) ++ cnL mn mx := by
        rw [ntL, hat]
        show (if (5 : Int) = 2 then _ else if (5 : Int) = 3 then _ else if (5 : Int) = 4 then _ else if (5 : Int) = 5 then (if h : a.toNat < n then wrL [3, 4, 5] (ndAt X a.toNat).k (ntL X a.toNat) ++ cnL mn mx else []) else _) = _
        rw [if_neg (by decide), if_neg (by decide), if_neg (by decide), if_pos rfl, pA']
        simp only [Int.toNat_natCast]
        rw [dif_pos ha]
      have en : n - 1 + 1 = n := by omega
      have pi : ∀ r, ctP r = some (none, r) → cP (ntL X n ++ r) (X.take f) = some (r, X.take (n + 1)) := fun r hr => by
        rw [ht, List.append_assoc, cP_some (wr_at iA (kind_of (by omega) (hok (n - 1) (by omega))) _) (ct_back h0 h1 h2 r), en, htk, take_len (by omega)]
        show some (r, X.take n ++ [cnN ((n : Int) - 1) mn mx]) = _
        rw [show (n : Int) - 1 = a by omega]
      exact nr_pi (by rw [ht]; exact hdG_app (wr_hd iA _ _) _) (by rw [hat]; simp [emN, clN, sqN, orN, cnN]) (by rw [hat]; simp [emN, clN, sqN, orN, cnN]) pi (fun h9 => by rw [hat] at h9; simp [sqN, orN, cnN] at h9)
/-- The text of an expression, as characters. -/
def txL (X : List Nd) : List Int := if (ndAt X (X.length - 1)).k = 1 then [] else ntL X (X.length - 1)
/-- The text of a right expression is read as it. -/
theorem rd_back {X : List Nd} (h : rxB (rxOf X) = true) : rdW (txL X) = some X := by
  have hlen : 1 ≤ X.length ∧ X.length ≤ 120 := by
    by_cases h9 : 1 ≤ (rxOf X).len ∧ (rxOf X).len ≤ 120
    · exact h9
    · rw [rxB_size h9] at h; cases h
  have hok : ∀ j, j < X.length → nodeX (rxOf X) j = true := fun j hj => by
    cases hx : nodeX (rxOf X) j with
    | false => rw [rxB_node (X := rxOf X) hj hx] at h; cases h
    | true => rfl
  have ht : trX (rxOf X) (X.length - 1) = some 0 := by
    rw [rxB_all (X := rxOf X) hlen hok] at h
    simp only [Bool.and_eq_true, decide_eq_true_eq] at h
    exact h.1
  have hr := nt_back X hok X.length (X.length - 1) 0 (by omega) (by omega) ht
  have en : X.length - 1 + 1 = X.length := by omega
  apply rdW_some
  show cC (txL X) [] = some ([], X)
  unfold txL
  by_cases h1 : (ndAt X (X.length - 1)).k = 1
  · rw [if_pos h1]
    have hn : X.length - 1 < X.length := by omega
    have hg := List.getElem?_eq_getElem hn
    have e : X[X.length - 1] = emN := by
      rw [ndAt_of hg] at h1
      rcases nd_form hg (hok _ hn) with e | ⟨nt, L, e, -⟩ | ⟨a, b, e⟩ | ⟨a, b, e⟩ | ⟨a, mn, mx, e, -⟩
      · exact e
      all_goals (rw [e] at h1; exact absurd h1 (by simp [clN, sqN, orN, cnN]))
    have h0 : X.length - 1 = 0 := by
      have := tr_leaf (two := twoK (rxOf X).K) (cnt := cntK (rxOf X).K) (A := (rxOf X).A) (B := (rxOf X).B) (n := X.length - 1) (by unfold twoK; simp; show ¬ _ ∧ ¬ _; have hk : (rxOf X).K (X.length - 1) = 1 := h1; rw [hk]; decide) (by unfold cntK; simp; have hk : (rxOf X).K (X.length - 1) = 1 := h1; rw [hk]; decide)
      unfold trX at ht
      rw [this] at ht
      simpa using ht
    have hX : X = [emN] := by
      have hl1 : X.length = 1 := by omega
      obtain ⟨y, rfl⟩ := List.length_eq_one_iff.1 hl1
      simp at e
      rw [e]
    rw [(cC_of (cR_empty (X := []) (u := []) rfl)).trans (cCl_end (by simp)), hX]
    rfl
  · rw [if_neg h1]
    have h9 := (hr.ch [] rfl).trans (cCl_end (by simp))
    rw [List.append_nil, en, List.take_length, List.take_zero] at h9
    exact h9
end Go.Proofs.YtibagghpimadfaaGreatDoor
