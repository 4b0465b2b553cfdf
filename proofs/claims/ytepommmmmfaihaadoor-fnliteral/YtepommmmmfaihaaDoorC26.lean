/-
  A text's own expression: it is a right one, and takes the text and no other one. No step of the program in this text.
-/
import Derived.Test.YtepommmmmfaihaaDoorC6
import Derived.Test.YtepommmmmfaihaaDoorC25
namespace Go.Proofs.YtepommmmmfaihaaDoor
open Go.RowKit
set_option linter.unusedVariables false
set_option linter.unusedSimpArgs false
theorem snoc_ind {P : List Int → Prop} (h0 : P []) (h1 : ∀ C c, P C → P (C ++ [c])) (C : List Int) : P C := by
  have h : ∀ R : List Int, P R.reverse := by
    intro R
    induction R with
    | nil => exact h0
    | cons c R ih => rw [List.reverse_cons]; exact h1 _ _ ih
  have := h C.reverse
  rw [List.reverse_reverse] at this
  exact this
theorem lit_at (C : List Int) : (∀ k, k < C.length → (litL C)[2 * k - 1]? = C[k]?.map clsL) ∧ (∀ k, 1 ≤ k → k < C.length → (litL C)[2 * k]? = some (sqL (2 * (k : Int) - 2))) := by
  refine snoc_ind (P := fun C => (∀ k, k < C.length → (litL C)[2 * k - 1]? = C[k]?.map clsL) ∧ (∀ k, 1 ≤ k → k < C.length → (litL C)[2 * k]? = some (sqL (2 * (k : Int) - 2)))) ⟨fun k hk => by simp at hk, fun k _ hk => by simp at hk⟩ (fun C c ih => ?_) C
  obtain ⟨ih1, ih2⟩ := ih
  have hl := litL_len C
  rw [litL_snoc]
  by_cases h0 : C.length = 0
  · rw [litS_zero (by omega)]
    have hc : C = [] := List.length_eq_zero_iff.1 h0
    subst hc
    refine ⟨fun k hk => ?_, fun k h1 hk => by simp at hk; omega⟩
    have : k = 0 := by simp at hk; omega
    subst this
    rfl
  · rw [litS_more (by omega)]
    have hll : (litL C ++ [clsL c]).length = 2 * C.length := by rw [List.length_append, hl]; simp; omega
    refine ⟨fun k hk => ?_, fun k h1 hk => ?_⟩
    · rw [List.length_append] at hk
      simp at hk
      by_cases e : k < C.length
      · rw [List.append_assoc, List.getElem?_append_left (by omega), ih1 k e, List.getElem?_append_left e]
      · have : k = C.length := by omega
        subst this
        rw [List.getElem?_append_left (by omega), List.getElem?_append_right (by omega), List.getElem?_append_right (by omega)]
        rw [show 2 * C.length - 1 - (litL C).length = 0 by omega, Nat.sub_self]
        rfl
    · rw [List.length_append] at hk
      simp at hk
      by_cases e : k < C.length
      · rw [List.append_assoc, List.getElem?_append_left (by omega), ih2 k h1 e]
      · have : k = C.length := by omega
        subst this
        rw [List.getElem?_append_right (by omega), hll, Nat.sub_self, hl]
        simp
        congr 1
        omega
section
variable {C : List Int}
theorem lt_cls {k : Nat} (hk : k < C.length) : ndAt (litL C) (2 * k - 1) = clsL C[k] := by
  have h := (lit_at C).1 k hk
  rw [List.getElem?_eq_getElem hk] at h
  exact ndAt_of h
theorem lt_sq {k : Nat} (h1 : 1 ≤ k) (hk : k < C.length) : ndAt (litL C) (2 * k) = sqL (2 * (k : Int) - 2) := ndAt_of ((lit_at C).2 k h1 hk)
theorem lt_K2 {k : Nat} (hk : k < C.length) : (rxOf (litL C)).K (2 * k - 1) = 2 := by show (ndAt (litL C) (2 * k - 1)).k = 2; rw [lt_cls hk]; rfl
theorem lt_K3 {k : Nat} (h1 : 1 ≤ k) (hk : k < C.length) : (rxOf (litL C)).K (2 * k) = 3 ∧ (rxOf (litL C)).A (2 * k) = ((2 * k - 2 : Nat) : Int) ∧ (rxOf (litL C)).B (2 * k) = ((2 * k - 1 : Nat) : Int) := by
  have h := lt_sq h1 hk
  refine ⟨?_, ?_, ?_⟩
  · show (ndAt (litL C) (2 * k)).k = 3; rw [h]; rfl
  · show (ndAt (litL C) (2 * k)).a = _; rw [h]; show 2 * (k : Int) - 2 = _; omega
  · show (ndAt (litL C) (2 * k)).b = _; rw [h]; show 2 * (k : Int) - 2 + 1 = _; omega
theorem lt_tk (c : Nat → Nat → Bool) : ∀ k, k < C.length → ∀ i j, tkX (rxOf (litL C)) c (2 * k) i j ↔ j = i + k + 1 ∧ ∀ t, t ≤ k → c (2 * t - 1) (i + t) = true
  | 0, hk, i, j => by
    have h2 := lt_K2 hk
    rw [show 2 * 0 - 1 = 2 * 0 from rfl] at h2
    rw [tk_class h2]
    constructor
    · rintro ⟨e, h⟩
      refine ⟨e, fun t ht => ?_⟩
      have : t = 0 := by omega
      subst this; exact h
    · rintro ⟨e, h⟩
      exact ⟨e, h 0 (Nat.le_refl _)⟩
  | k + 1, hk, i, j => by
    obtain ⟨h3, hA, hB⟩ := lt_K3 (by omega) hk
    have h2 := lt_K2 hk
    rw [tk_seq h3 hA hB (by omega) (by omega)]
    have ih := lt_tk c k (by omega)
    constructor
    · rintro ⟨m, h4, h5⟩
      rw [show 2 * (k + 1) - 2 = 2 * k by omega, ih] at h4
      rw [tk_class h2] at h5
      obtain ⟨rfl, h4⟩ := h4
      obtain ⟨rfl, h5⟩ := h5
      refine ⟨by omega, fun t ht => ?_⟩
      by_cases e : t ≤ k
      · exact h4 t e
      · have : t = k + 1 := by omega
        subst this
        exact h5
    · rintro ⟨rfl, h⟩
      refine ⟨i + k + 1, ?_, ?_⟩
      · rw [show 2 * (k + 1) - 2 = 2 * k by omega, ih]
        exact ⟨rfl, fun t ht => h t (by omega)⟩
      · rw [tk_class h2]
        exact ⟨by omega, h (k + 1) (Nat.le_refl _)⟩
theorem lt_in {c x : Int} (hc : chB c = true) : inC false 1 (fun i => (([(c, c)] : List (Int × Int))[i]?.getD (0, 0)).1) (fun i => (([(c, c)] : List (Int × Int))[i]?.getD (0, 0)).2) x = true ↔ x = c := by
  rw [inC_pos]
  constructor
  · rintro ⟨-, i, hi, h1, h2⟩
    have : i = 0 := by omega
    subst this
    have h1' : c ≤ x := h1
    have h2' : x ≤ c := h2
    omega
  · rintro rfl
    exact ⟨hc, 0, by omega, Int.le_refl _, Int.le_refl _⟩
theorem lt_cl (hch : ∀ x ∈ C, chB x = true) {k a : Nat} (hk : k < C.length) (D : List Int) : clX (rxOf (litL C)) D (2 * k - 1) a = true ↔ D[a]? = some C[k] := by
  have h := lt_cls hk
  unfold clX
  have e : inC ((rxOf (litL C)).NT (2 * k - 1)) ((rxOf (litL C)).NR (2 * k - 1)) ((rxOf (litL C)).L (2 * k - 1)) ((rxOf (litL C)).H (2 * k - 1)) (D[a]?.getD 0) = inC false 1 (fun i => (([(C[k], C[k])] : List (Int × Int))[i]?.getD (0, 0)).1) (fun i => (([(C[k], C[k])] : List (Int × Int))[i]?.getD (0, 0)).2) (D[a]?.getD 0) := by
    show inC (ndAt (litL C) (2 * k - 1)).nt (ndAt (litL C) (2 * k - 1)).L.length (fun i => ((ndAt (litL C) (2 * k - 1)).L[i]?.getD (0, 0)).1) (fun i => ((ndAt (litL C) (2 * k - 1)).L[i]?.getD (0, 0)).2) _ = _
    rw [h]
    rfl
  rw [e, Bool.and_eq_true, decide_eq_true_iff, lt_in (hch _ (List.getElem_mem hk))]
  constructor
  · rintro ⟨h1, h2⟩
    rw [List.getElem?_eq_getElem h1] at h2 ⊢
    rw [← h2]; rfl
  · intro h1
    have hl : a < D.length := (List.getElem?_eq_some_iff.1 h1).1
    refine ⟨hl, ?_⟩
    rw [h1]; rfl
theorem lt_takes (hch : ∀ x ∈ C, chB x = true) (h0 : C.length ≠ 0) (D : List Int) : tkX (rxOf (litL C)) (clX (rxOf (litL C)) D) (2 * (C.length - 1)) 0 D.length ↔ D = C := by
  rw [lt_tk _ _ (by omega)]
  constructor
  · rintro ⟨h1, h2⟩
    refine List.ext_getElem? (fun t => ?_)
    by_cases ht : t < C.length
    · have := (lt_cl hch ht D).1 (h2 t (by omega))
      rw [Nat.zero_add] at this
      rw [this, List.getElem?_eq_getElem ht]
    · rw [List.getElem?_eq_none (by omega), List.getElem?_eq_none (by omega)]
  · rintro rfl
    refine ⟨by omega, fun t ht => ?_⟩
    have htl : t < D.length := by omega
    refine (lt_cl hch htl D).2 ?_
    rw [Nat.zero_add, List.getElem?_eq_getElem htl]
theorem lt_leaf {k : Nat} (hk : k < C.length) : trX (rxOf (litL C)) (2 * k - 1) = some (2 * k - 1) ∧ wtX (rxOf (litL C)) (2 * k - 1) = 1 := by
  have h2 := lt_K2 hk
  have g2 : ¬ twoK (rxOf (litL C)).K (2 * k - 1) = true := by unfold twoK; rw [decide_eq_true_iff]; omega
  have g5 : ¬ cntK (rxOf (litL C)).K (2 * k - 1) = true := by unfold cntK; rw [decide_eq_true_iff]; omega
  exact ⟨tr_leaf _ _ _ _ g2 g5, wt_leaf _ _ _ _ _ g2 g5⟩
theorem lt_tree : ∀ k, k < C.length → k ≤ 60 → trX (rxOf (litL C)) (2 * k) = some 0 ∧ wtX (rxOf (litL C)) (2 * k) = (k : Int) + 1
  | 0, hk, _ => by
    obtain ⟨h1, h2⟩ := lt_leaf hk
    exact ⟨h1, h2⟩
  | k + 1, hk, h60 => by
    obtain ⟨ih1, ih2⟩ := lt_tree k (by omega) (by omega)
    obtain ⟨h3, hA, hB⟩ := lt_K3 (by omega) hk
    obtain ⟨l1, l2⟩ := lt_leaf hk
    have g2 : twoK (rxOf (litL C)).K (2 * (k + 1)) = true := decide_eq_true (.inl h3)
    have n0 : ¬ (2 * (k + 1) = 0 ∨ (rxOf (litL C)).B (2 * (k + 1)) ≠ ((2 * (k + 1) : Nat) : Int) - 1) := by rw [hB]; omega
    have n1 : ¬ (2 * (k + 1) - 1 = 0 ∨ (rxOf (litL C)).A (2 * (k + 1)) ≠ ((2 * (k + 1) - 1 : Nat) : Int) - 1) := by rw [hA]; omega
    have e1 : 2 * (k + 1) - 1 - 1 = 2 * k := by omega
    constructor
    · unfold trX at l1 ih1 ⊢
      rw [tr_two _ _ _ _ g2, if_neg n0, l1]
      dsimp only
      rw [if_neg n1, e1]
      exact ih1
    · have hw := wt_two _ _ _ _ (muX (rxOf (litL C))) g2 n0 l1 n1 (b := 0) (by rw [e1]; exact ih1)
      have hw' : wtX (rxOf (litL C)) (2 * (k + 1)) = min (wtX (rxOf (litL C)) (2 * (k + 1) - 1 - 1) + wtX (rxOf (litL C)) (2 * (k + 1) - 1)) 2001 := hw
      rw [hw', e1, ih2, l2]
      omega
theorem lt_ok (hch : ∀ x ∈ C, chB x = true) (h0 : C.length ≠ 0) (h60 : C.length ≤ 60) : rxB (rxOf (litL C)) = true := by
  have hl : (rxOf (litL C)).len = 2 * C.length - 1 := litL_len C
  unfold rxB
  rw [Bool.and_eq_true, Bool.and_eq_true, Bool.and_eq_true, decide_eq_true_iff, decide_eq_true_iff, decide_eq_true_iff, List.all_eq_true, hl]
  obtain ⟨t1, t2⟩ := lt_tree (C := C) (C.length - 1) (by omega) (by omega)
  have e : 2 * C.length - 1 - 1 = 2 * (C.length - 1) := by omega
  refine ⟨by omega, fun j hj => ?_, by rw [e]; exact t1, by rw [e, t2]; omega⟩
  have hj2 : j < 2 * C.length - 1 := by simpa using hj
  by_cases hp : j = 0 ∨ j % 2 = 1
  · obtain ⟨k, hk, rfl⟩ : ∃ k, k < C.length ∧ j = 2 * k - 1 := ⟨(j + 1) / 2, by omega, by omega⟩
    have h := lt_cls hk
    have hc := hch _ (List.getElem_mem hk)
    show nodeB (ndAt (litL C) (2 * k - 1)).k (ndAt (litL C) (2 * k - 1)).nt (ndAt (litL C) (2 * k - 1)).L.length (fun i => ((ndAt (litL C) (2 * k - 1)).L[i]?.getD (0, 0)).1) (fun i => ((ndAt (litL C) (2 * k - 1)).L[i]?.getD (0, 0)).2) (ndAt (litL C) (2 * k - 1)).a (ndAt (litL C) (2 * k - 1)).b (ndAt (litL C) (2 * k - 1)).mn (ndAt (litL C) (2 * k - 1)).mx = true
    rw [h]
    show nodeB 2 false 1 (fun i => (([(C[k], C[k])] : List (Int × Int))[i]?.getD (0, 0)).1) (fun i => (([(C[k], C[k])] : List (Int × Int))[i]?.getD (0, 0)).2) 0 0 0 0 = true
    unfold nodeB rowB rgsB rgB
    simp [List.range_succ, hc]
  · obtain ⟨k, h1, hk, rfl⟩ : ∃ k, 1 ≤ k ∧ k < C.length ∧ j = 2 * k := ⟨j / 2, by omega, by omega, by omega⟩
    have h := lt_sq h1 hk
    show nodeB (ndAt (litL C) (2 * k)).k (ndAt (litL C) (2 * k)).nt (ndAt (litL C) (2 * k)).L.length (fun i => ((ndAt (litL C) (2 * k)).L[i]?.getD (0, 0)).1) (fun i => ((ndAt (litL C) (2 * k)).L[i]?.getD (0, 0)).2) (ndAt (litL C) (2 * k)).a (ndAt (litL C) (2 * k)).b (ndAt (litL C) (2 * k)).mn (ndAt (litL C) (2 * k)).mx = true
    rw [h]
    simp [nodeB, sqL]
end
/-- A text's own expression is right, and takes the text alone. -/
theorem lt_all {C : List Int} (hch : ∀ x ∈ C, chB x = true) (h60 : C.length ≤ 60) : rxB (rxOf (litV C true)) = true ∧ ∀ D bb, MtP (rxOf (litV C true)) D bb ↔ bb = true ∧ D = C := by
  unfold litV
  rw [if_pos ⟨rfl, h60⟩]
  by_cases h0 : C.length = 0
  · rw [if_pos h0]
    have hc : C = [] := List.length_eq_zero_iff.1 h0
    subst hc
    have k1 : (rxOf [emL]).K 0 = 1 := rfl
    have hx : rxB (rxOf [emL]) = true := by
      have g2 : ¬ twoK (rxOf [emL]).K 0 = true := by unfold twoK; rw [decide_eq_true_iff]; omega
      have g5 : ¬ cntK (rxOf [emL]).K 0 = true := by unfold cntK; rw [decide_eq_true_iff]; omega
      have l1 : trX (rxOf [emL]) 0 = some 0 := tr_leaf _ _ _ _ g2 g5
      have l2 : wtX (rxOf [emL]) 0 = 1 := wt_leaf _ _ _ _ _ g2 g5
      unfold rxB
      rw [Bool.and_eq_true, Bool.and_eq_true, Bool.and_eq_true, decide_eq_true_iff, decide_eq_true_iff, decide_eq_true_iff]
      exact ⟨⟨Nat.le_refl _, by show 1 ≤ 120; omega⟩, rfl, l1, by show wtX (rxOf [emL]) 0 ≤ 2000; rw [l2]; omega⟩
    refine ⟨hx, fun D bb => ?_⟩
    unfold MtP
    show _ ∧ _ ∧ _ ∧ tkX (rxOf [emL]) _ 0 0 D.length ↔ _
    rw [tk_empty k1]
    constructor
    · rintro ⟨-, h1, -, h2⟩
      exact ⟨h1, List.length_eq_zero_iff.1 h2.symm⟩
    · rintro ⟨h1, rfl⟩
      exact ⟨hx, h1, by simp, rfl⟩
  · rw [if_neg h0]
    have hx := lt_ok hch h0 h60
    refine ⟨hx, fun D bb => ?_⟩
    have hl : (rxOf (litL C)).len - 1 = 2 * (C.length - 1) := by show (litL C).length - 1 = _; rw [litL_len]; omega
    unfold MtP
    rw [hl, lt_takes hch h0]
    constructor
    · rintro ⟨-, h1, -, h2⟩; exact ⟨h1, h2⟩
    · rintro ⟨h1, rfl⟩; exact ⟨hx, h1, by omega, rfl⟩
end Go.Proofs.YtepommmmmfaihaaDoor
