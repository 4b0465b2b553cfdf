/-
  Plain facts on the shortest rows of a model, of no program's run.
-/
import Derived.Test.YtfohfljdgmlibaaDoorMtMath
namespace Go.Proofs.YtfohfljdgmlibaaDoor
set_option linter.unusedVariables false
set_option linter.unusedSimpArgs false
/-- The first of those that are shortest. -/
def lsL : List (List ByteArray) → List ByteArray
  | [] => []
  | r :: t => t.foldl (fun o x => if x.length < o.length then x else o) r
theorem lsL_cons (r : List ByteArray) (t : List (List ByteArray)) : lsL (r :: t) = t.foldl (fun o x => if x.length < o.length then x else o) r := rfl
theorem lsL_one (x : List ByteArray) : lsL [x] = x := rfl
theorem lsL_snoc (R : List (List ByteArray)) (x : List ByteArray) (h : R ≠ []) : lsL (R ++ [x]) = if x.length < (lsL R).length then x else lsL R := by
  match R, h with
  | r :: t, _ =>
    rw [List.cons_append, lsL_cons, lsL_cons, List.foldl_append]
    rfl
theorem ls_fold : ∀ (t : List (List ByteArray)) (r : List ByteArray), (t.foldl (fun o x => if x.length < o.length then x else o) r).length ≤ r.length
  | [], r => Nat.le_refl _
  | x :: t, r => by
    rw [List.foldl_cons]
    have := ls_fold t (if x.length < r.length then x else r)
    split at this <;> rename_i hh
    · rw [if_pos hh]; omega
    · rw [if_neg hh]; omega
theorem ls_len (R : List (List ByteArray)) : (lsL R).length ≤ R.flatten.length := by
  match R with
  | [] => exact Nat.le_refl _
  | r :: t =>
    have := ls_fold t r
    rw [lsL_cons, List.flatten_cons, List.length_append]
    omega
def anyT : ByteArray := ⟨#[97, 110, 121]⟩
def bdS (oc k : Int) (nm : ByteArray) (R : List (List ByteArray)) : List ByteArray := if oc = 1 ∨ oc = 2 then [] else if k = 1 then [nm] else if k = 4 then [anyT] else if k = 2 then R.flatten else lsL R
def smF (D : Pn) : Nat → Nat → List ByteArray
  | 0, _ => []
  | f + 1, i => bdS (D.OC i) (D.K i) (D.NM i) ((D.KL i).map fun k => smF D f k.toNat)
theorem smF_more {D : Pn} : ∀ (f g i : Nat), Lo D i → i < f → i < g → smF D f i = smF D g i
  | 0, g, i, hl, hf, hg => by omega
  | f + 1, 0, i, hl, hf, hg => by omega
  | f + 1, g + 1, i, hl, hf, hg => by
    have : ((D.KL i).map fun k => smF D f k.toNat) = (D.KL i).map fun k => smF D g k.toNat := List.map_congr_left (fun k hk => by
      have := hl i (Nat.le_refl _) k hk
      exact smF_more f g k.toNat (lo_less hl (by omega)) (by omega) (by omega))
    rw [smF, smF, this]
/-- The sample of a node. -/
def sm (D : Pn) (i : Nat) : List ByteArray := smF D (i + 1) i
theorem sm_eq {D : Pn} {i : Nat} (hl : Lo D i) : sm D i = bdS (D.OC i) (D.K i) (D.NM i) ((D.KL i).map fun k => sm D k.toNat) := by
  have : ((D.KL i).map fun k => smF D i k.toNat) = (D.KL i).map fun k => sm D k.toNat := List.map_congr_left (fun k hk => by
    have := hl i (Nat.le_refl _) k hk
    exact smF_more i (k.toNat + 1) k.toNat (lo_less hl (by omega)) (by omega) (by omega))
  show smF D (i + 1) i = _
  rw [smF, this]
theorem fl_rev : ∀ (R : List (List ByteArray)), R.reverse.flatten.length = R.flatten.length
  | [] => rfl
  | r :: t => by rw [List.reverse_cons, List.flatten_append, List.length_append, fl_rev t, List.flatten_cons, List.length_append]; simp; omega
theorem fd_sm {D : Pn} : ∀ (ks : List Int) (a f : Nat), (∀ j c, j < a → tr D j = some c → (sm D j).length ≤ j + 1 - c) → fd (tr D) ks a = some f → (ks.map fun k => sm D k.toNat).flatten.length ≤ a - f ∧ f ≤ a
  | [], a, f, ih, h => by
    simp [fd] at h
    subst h
    exact ⟨Nat.zero_le _, Nat.le_refl _⟩
  | k :: ks, a, f, ih, h => by
    by_cases hc : 0 < a ∧ k = (a : Int) - 1
    · cases hg : tr D (a - 1) with
      | none => rw [fd_none hc hg] at h; cases h
      | some c =>
        have hca := tr_le hg
        rw [fd_yes hc hg] at h
        obtain ⟨h1, h2⟩ := fd_sm ks c f (fun j d hj => ih j d (by omega)) h
        have h3 := ih (a - 1) c (by omega) hg
        rw [List.map_cons, List.flatten_cons, List.length_append, show k.toNat = a - 1 by omega]
        exact ⟨by omega, by omega⟩
    · rw [fd_no hc] at h; cases h
theorem sm_len {D : Pn} (hlo : ∀ j, j < D.n → ∀ k, k ∈ D.KL j → 0 ≤ k ∧ k < (j : Int)) : ∀ (m i c : Nat), i < m → i < D.n → tr D i = some c → (sm D i).length ≤ i + 1 - c ∧ ((D.KL i).map fun k => sm D k.toNat).flatten.length ≤ i
  | 0, i, c, hm, hi, h => by omega
  | m + 1, i, c, hm, hi, h => by
    have hc := tr_le h
    have ht := h
    rw [tr_eq] at ht
    obtain ⟨h2, h3⟩ := fd_sm _ i c (fun j d hj hd => (sm_len hlo m j d (by omega) (by omega) hd).1) ht
    rw [List.map_reverse, fl_rev] at h2
    refine ⟨?_, by omega⟩
    have h4 := ls_len ((D.KL i).map fun k => sm D k.toNat)
    rw [sm_eq (fun j hj => hlo j (by omega))]
    unfold bdS
    repeat' split
    · simp
    · simp; omega
    · simp; omega
    · omega
    · omega
theorem fl_take (R : List (List ByteArray)) (m : Nat) : (R.take m).flatten.length ≤ R.flatten.length := by
  have h : (R.take m).flatten ++ (R.drop m).flatten = R.flatten := by rw [← List.flatten_append, List.take_append_drop]
  have := congrArg List.length h
  rw [List.length_append] at this
  omega
theorem fl_next (R : List (List ByteArray)) (m : Nat) (h : m < R.length) : (R.take (m + 1)).flatten = (R.take m).flatten ++ R[m]?.getD [] := by
  rw [List.take_succ_eq_append_getElem h, List.flatten_append, List.getElem?_eq_getElem h]
  simp
theorem ls_next (R : List (List ByteArray)) (m : Nat) (h : m < R.length) (h0 : 0 < m) : lsL (R.take (m + 1)) = if (R[m]?.getD []).length < (lsL (R.take m)).length then R[m]?.getD [] else lsL (R.take m) := by
  rw [List.take_succ_eq_append_getElem h, lsL_snoc _ _ (by intro h9; rw [List.take_eq_nil_iff] at h9; rcases h9 with h9 | h9; omega; rw [h9] at h; simp at h), List.getElem?_eq_getElem h]
  rfl
theorem ls_first (R : List (List ByteArray)) (h : 0 < R.length) : lsL (R.take 1) = R[0]?.getD [] := by
  match R, h with
  | r :: t, _ => rfl
end Go.Proofs.YtfohfljdgmlibaaDoor
