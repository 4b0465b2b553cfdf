/-
  Texts put together: LiA, RxMath.
-/
import Derived.Test.YtepommmmmfaihaaDoorC5
import Derived.Test.YtepommmmmfaihaaDoorC1
/-
  Plain facts: the nodes of a text's own expression; nodes that are put behind a row.
-/
namespace Go.Proofs.YtepommmmmfaihaaDoor
open Go.RowKit Go.Joins
set_option linter.unusedVariables false
set_option linter.unusedSimpArgs false
def clsL (c : Int) : Nd := ⟨2, false, [(c, c)], 0, 0, 0, 0⟩
def sqL (a : Int) : Nd := ⟨3, false, [], a, a + 1, 0, 0⟩
def emL : Nd := ⟨1, false, [], 0, 0, 0, 0⟩
def litS (X : List Nd) (c : Int) : List Nd := if X.length = 0 then [clsL c] else X ++ [clsL c, sqL ((X.length : Int) - 1)]
/-- The nodes of a text's own expression. -/
def litL (C : List Int) : List Nd := C.foldl litS []
theorem litL_snoc (C : List Int) (c : Int) : litL (C ++ [c]) = litS (litL C) c := by unfold litL; rw [List.foldl_append]; rfl
theorem litS_len {X : List Nd} (h : X.length ≠ 0) (c : Int) : (litS X c).length = X.length + 2 := by unfold litS; rw [if_neg h]; simp
theorem fold_len : ∀ (C : List Int) (X : List Nd), X.length ≠ 0 → (C.foldl litS X).length = X.length + 2 * C.length
  | [], X, h => by simp
  | c :: C, X, h => by
    rw [List.foldl_cons, fold_len C (litS X c) (by rw [litS_len h]; omega), litS_len h, List.length_cons]
    omega
theorem litL_len : ∀ (C : List Int), (litL C).length = 2 * C.length - 1
  | [] => rfl
  | c :: C => by
    have e : litS [] c = [clsL c] := rfl
    unfold litL
    rw [List.foldl_cons, e, fold_len C [clsL c] (by simp), List.length_cons, List.length_cons, List.length_nil]
    omega
theorem litL_take {C : List Int} {i : Nat} (h : i < C.length) : litL (C.take (i + 1)) = litS (litL (C.take i)) C[i] := by
  rw [← litL_snoc, List.take_add_one, List.getElem?_eq_getElem h]
  rfl
theorem litS_zero {X : List Nd} {c : Int} (h : X.length = 0) : litS X c = X ++ [clsL c] := by
  unfold litS
  rw [if_pos h, List.length_eq_zero_iff.1 h]
  rfl
theorem litS_more {X : List Nd} {c : Int} (h : X.length ≠ 0) : litS X c = (X ++ [clsL c]) ++ [sqL ((X.length : Int) - 1)] := by
  unfold litS
  rw [if_neg h]
  simp
/-- What Literal is to answer. -/
def litV (C : List Int) (b : Bool) : List Nd := if b = true ∧ C.length ≤ 60 then (if C.length = 0 then [emL] else litL C) else []
def litB (C : List Int) (b : Bool) : Bool := b && decide (C.length ≤ 60)
theorem litV_len (C : List Int) (b : Bool) : (litV C b).length ≤ 119 := by
  unfold litV
  split
  · split
    · simp
    · rw [litL_len]; omega
  · simp
theorem own_pr (w : World) (B : Nat) (a : Int) (hB : B ≤ w.heap.size) : (w.alloc (.cells #[.int .i64 a, .int .i64 a] 46)).ownsRow 0 46 2 (.slice (some ⟨w.heap.size, 0, none⟩) [(a, a)].length 1) [(a, a)].length (prV [(a, a)]) :=
  ⟨rfl, .inr ⟨w.heap.size, 1, #[.int .i64 a, .int .i64 a], rfl, Nat.zero_le _, heap_alloc_new w _, Nat.le_refl _, by unfold maxLen; omega, rfl, rfl⟩⟩
section
variable {B : Nat} {w w9 : World} {oa : Option Addr} {oc gg cap' : Nat} {X : List Nd} {xs : List Value}
/-- A class behind the row. -/
theorem lt_app1 {a : Int} {o : Obj} (hB : B ≤ w.heap.size) (hown : w.ownsRow B 43 7 (.slice oa X.length oc) X.length xs) (hits : XIts (fun j => B ≤ j) w xs X) (hdj : Dj7 xs X.length)
    (hown9 : w9.ownsRow B 43 7 (.slice (some ⟨gg, 0, none⟩) (X.length + 1) cap') (X.length + 1) (xs ++ ndV (clsL a) (some ⟨w.heap.size, 0, none⟩) 1)) (hg : ((w.alloc (.cells #[.int .i64 a, .int .i64 a] 46)).alloc o).grownBy w9 (Value.slice oa X.length oc).ownBlock) :
    XO B (fun j => B ≤ j) w9 (some ⟨gg, 0, none⟩) cap' (X ++ [clsL a]) := by
  have k1 : Kp (fun _ => False) w ((w.alloc (.cells #[.int .i64 a, .int .i64 a] 46)).alloc o) := (kp_alloc w _).trans (kp_alloc (S := fun _ => False) _ _) (fun _ _ h => h)
  have i1 := xits_kp hits k1 (fun _ _ _ _ _ _ _ _ _ x => x)
  have o1 := own_kp (own_pr w B a hB) (kp_alloc (S := fun _ => False) _ o) (fun _ _ x => x)
  have i2 := xits_push i1 hown.1 (nd := clsL a) (ad := some ⟨w.heap.size, 0, none⟩) (cp := 1) o1 (fun k hk => by have h9 : w.heap.size = k := (by simpa [Value.ownBlock] using hk); omega) (by simp [clsL])
  have d2 := dj7_push hdj hown.1 (nd := clsL a) (ad := some ⟨w.heap.size, 0, none⟩) (cp := 1) (fun j k hj hk e => by
    have h1 := (xits_kb hits hj hk).2
    have : w.heap.size = k := by simpa [Value.ownBlock] using e
    omega)
  refine xo_fin (v := .slice oa X.length oc) i2 (by simpa using d2) (own_kp hown k1 (fun _ _ x => x)) ?_ hg
  simpa using hown9
/-- A row of two behind the row. -/
theorem lt_app2 {o : Obj} {nd : Nd} (hL : nd.L = []) (hown : w.ownsRow B 43 7 (.slice oa X.length oc) X.length xs) (hits : XIts (fun j => B ≤ j) w xs X) (hdj : Dj7 xs X.length)
    (hown9 : w9.ownsRow B 43 7 (.slice (some ⟨gg, 0, none⟩) (X.length + 1) cap') (X.length + 1) (xs ++ ndV nd none 0)) (hg : (w.alloc o).grownBy w9 (Value.slice oa X.length oc).ownBlock) :
    XO B (fun j => B ≤ j) w9 (some ⟨gg, 0, none⟩) cap' (X ++ [nd]) := by
  have k1 : Kp (fun _ => False) w (w.alloc o) := kp_alloc w _
  have i1 := xits_kp hits k1 (fun _ _ _ _ _ _ _ _ _ x => x)
  have i2 := xits_push i1 hown.1 (nd := nd) (ad := none) (cp := 0) (by rw [hL]; exact World.ownsRow_nil _ _ _ _) (fun k hk => by cases hk) (by simp [hL])
  have d2 := dj7_push hdj hown.1 (nd := nd) (ad := none) (cp := 0) (fun j k hj hk e => by cases e)
  refine xo_fin (v := .slice oa X.length oc) i2 (by simpa using d2) (own_kp hown k1 (fun _ _ x => x)) ?_ hg
  simpa using hown9
/-- A class that was made, and a row of two. -/
theorem lt_app3 {a : Int} {o : Obj} {q : Nat} {nd : Nd} (hL : nd.L = []) (hq : B ≤ q) (hr : w.ownsRow 0 46 2 (.slice (some ⟨q, 0, none⟩) 1 1) 1 (prV [(a, a)])) (hqn : ∀ j, j < X.length → kb7 xs j ≠ some q) (hown : w.ownsRow B 43 7 (.slice oa X.length oc) X.length xs) (hits : XIts (fun j => B ≤ j) w xs X) (hdj : Dj7 xs X.length)
    (hown9 : w9.ownsRow B 43 7 (.slice (some ⟨gg, 0, none⟩) (X.length + 2) cap') (X.length + 2) (xs ++ (ndV (clsL a) (some ⟨q, 0, none⟩) 1 ++ ndV nd none 0))) (hg : (w.alloc o).grownBy w9 (Value.slice oa X.length oc).ownBlock) :
    XO B (fun j => B ≤ j) w9 (some ⟨gg, 0, none⟩) cap' ((X ++ [clsL a]) ++ [nd]) := by
  have k1 : Kp (fun _ => False) w (w.alloc o) := kp_alloc w _
  have i1 := xits_kp hits k1 (fun _ _ _ _ _ _ _ _ _ x => x)
  have o1 := own_kp hr k1 (fun _ _ x => x)
  have i2 := xits_push i1 hown.1 (nd := clsL a) (ad := some ⟨q, 0, none⟩) (cp := 1) o1 (fun k hk => by have h9 : q = k := (by simpa [Value.ownBlock] using hk); omega) (by simp [clsL])
  have d2 := dj7_push hdj hown.1 (nd := clsL a) (ad := some ⟨q, 0, none⟩) (cp := 1) (fun j k hj hk e => by
    have : q = k := by simpa [Value.ownBlock] using e
    subst this
    exact hqn j hj hk)
  have hl2 : (xs ++ ndV (clsL a) (some ⟨q, 0, none⟩) 1).length = (X ++ [clsL a]).length * 7 := by
    rw [List.length_append, hown.1]
    simp [ndV]
    omega
  have i3 := xits_push i2 hl2 (nd := nd) (ad := none) (cp := 0) (by rw [hL]; exact World.ownsRow_nil _ _ _ _) (fun k hk => by cases hk) (by simp [hL])
  have d3 := dj7_push (m := (X ++ [clsL a]).length) (by simpa using d2) hl2 (nd := nd) (ad := none) (cp := 0) (fun j k hj hk e => by cases e)
  refine xo_fin (v := .slice oa X.length oc) i3 (by simpa using d3) (own_kp hown k1 (fun _ _ x => x)) ?_ hg
  rw [List.append_assoc]
  simpa using hown9
end
/-- One node of its own. -/
theorem xo_em {B : Nat} (w : World) (hB : B ≤ w.heap.size) : XO B (fun j => B ≤ j) (w.alloc (.cells #[.int .i64 1, .bool false, .slice none 0 0, .int .i64 0, .int .i64 0, .int .i64 0, .int .i64 0] 43)) (some ⟨w.heap.size, 0, none⟩) 1 [emL] := by
  have hn : (w.alloc (.cells #[.int .i64 1, .bool false, .slice none 0 0, .int .i64 0, .int .i64 0, .int .i64 0, .int .i64 0] 43)).ownsRow B 43 7 (.slice (some ⟨w.heap.size, 0, none⟩) 1 1) 1 (ndV emL none 0) := ⟨rfl, .inr ⟨w.heap.size, 1, _, rfl, hB, heap_alloc_new w _, Nat.le_refl _, by unfold maxLen; omega, rfl, rfl⟩⟩
  refine ⟨ndV emL none 0, hn, ?_, fun i j k hi hj hne => ?_⟩
  · have := xits_push (Z := 100) (S := fun j => B ≤ j) (w := w.alloc (.cells #[.int .i64 1, .bool false, .slice none 0 0, .int .i64 0, .int .i64 0, .int .i64 0, .int .i64 0] 43)) (xs := []) (X := []) (fun j nd hj => (by simp at hj)) rfl (nd := emL) (ad := none) (cp := 0) (World.ownsRow_nil _ _ _ _) (fun k hk => by cases hk) (by simp [emL])
    simpa using this
  · have h1 : i < 1 := hi
    have h2 : j < 1 := hj
    omega
theorem xo_cls {B : Nat} {w : World} {q : Nat} {a : Int} (hB : B ≤ w.heap.size) (hq : B ≤ q) (hr : w.ownsRow 0 46 2 (.slice (some ⟨q, 0, none⟩) 1 1) 1 (prV [(a, a)])) : XO B (fun j => B ≤ j) (w.alloc (.cells #[.int .i64 2, .bool false, .slice (some ⟨q, 0, none⟩) 1 1, .int .i64 0, .int .i64 0, .int .i64 0, .int .i64 0] 43)) (some ⟨w.heap.size, 0, none⟩) 1 [clsL a] := by
  have hn : (w.alloc (.cells #[.int .i64 2, .bool false, .slice (some ⟨q, 0, none⟩) 1 1, .int .i64 0, .int .i64 0, .int .i64 0, .int .i64 0] 43)).ownsRow B 43 7 (.slice (some ⟨w.heap.size, 0, none⟩) 1 1) 1 (ndV (clsL a) (some ⟨q, 0, none⟩) 1) := ⟨rfl, .inr ⟨w.heap.size, 1, _, rfl, hB, heap_alloc_new w _, Nat.le_refl _, by unfold maxLen; omega, rfl, rfl⟩⟩
  refine ⟨ndV (clsL a) (some ⟨q, 0, none⟩) 1, hn, ?_, fun i j k hi hj hne => ?_⟩
  · have := xits_push (Z := 100) (S := fun j => B ≤ j) (w := w.alloc (.cells #[.int .i64 2, .bool false, .slice (some ⟨q, 0, none⟩) 1 1, .int .i64 0, .int .i64 0, .int .i64 0, .int .i64 0] 43)) (xs := []) (X := []) (fun j nd hj => (by simp at hj)) rfl (nd := clsL a) (ad := some ⟨q, 0, none⟩) (cp := 1) (own_kp hr (kp_alloc (S := fun _ => False) _ _) (fun _ _ x => x)) (fun k hk => by have h9 : q = k := (by simpa [Value.ownBlock] using hk); omega) (by simp [clsL])
    simpa using this
  · have h1 : i < 1 := hi
    have h2 : j < 1 := hj
    omega
end Go.Proofs.YtepommmmmfaihaaDoor

/-
  Plain facts on expressions as lists of nodes, of no program: where a node's piece begins, by the node's own fields, and by the pieces ahead of it.
-/
namespace Go.Proofs.YtepommmmmfaihaaDoor
set_option linter.unusedVariables false
section
variable (two cnt : Nat → Bool) (A B : Nat → Int)
/-- Where the piece of node 'n' begins, if it is a right one ('f' bounds the depth). -/
def trF : Nat → Nat → Option Nat
  | 0, _ => none
  | f + 1, n =>
    if two n = true then
      (if n = 0 ∨ B n ≠ (n : Int) - 1 then none else
        match trF f (n - 1) with
        | none => none
        | some b => if b = 0 ∨ A n ≠ (b : Int) - 1 then none else trF f (b - 1))
    else if cnt n = true then (if n = 0 ∨ A n ≠ (n : Int) - 1 then none else trF f (n - 1))
    else some n
theorem trF_le : ∀ (f n b : Nat), trF two cnt A B f n = some b → b ≤ n
  | 0, n, b, h => by simp [trF] at h
  | f + 1, n, b, h => by
    rw [trF] at h
    split at h
    · split at h
      · cases h
      · rename_i hn
        cases hr : trF two cnt A B f (n - 1) with
        | none => rw [hr] at h; cases h
        | some c =>
          rw [hr] at h
          dsimp only at h
          have h1 := trF_le f (n - 1) c hr
          split at h
          · cases h
          · have h2 := trF_le f (c - 1) b h
            omega
    · split at h
      · split at h
        · cases h
        · have := trF_le f (n - 1) b h
          omega
      · cases h; exact Nat.le_refl _
theorem trF_more : ∀ (f g n : Nat), n < f → n < g → trF two cnt A B f n = trF two cnt A B g n
  | 0, g, n, hf, hg => by omega
  | f + 1, 0, n, hf, hg => by omega
  | f + 1, g + 1, n, hf, hg => by
    rw [trF, trF]
    by_cases h2 : two n = true
    · rw [if_pos h2, if_pos h2]
      by_cases h0 : n = 0 ∨ B n ≠ (n : Int) - 1
      · rw [if_pos h0, if_pos h0]
      · rw [if_neg h0, if_neg h0, trF_more f g (n - 1) (by omega) (by omega)]
        cases hr : trF two cnt A B g (n - 1) with
        | none => rfl
        | some c =>
          dsimp only
          have hc := trF_le two cnt A B g (n - 1) c hr
          by_cases h1 : c = 0 ∨ A n ≠ (c : Int) - 1
          · rw [if_pos h1, if_pos h1]
          · rw [if_neg h1, if_neg h1, trF_more f g (c - 1) (by omega) (by omega)]
    · rw [if_neg h2, if_neg h2]
      by_cases h3 : cnt n = true
      · rw [if_pos h3, if_pos h3]
        by_cases h0 : n = 0 ∨ A n ≠ (n : Int) - 1
        · rw [if_pos h0, if_pos h0]
        · rw [if_neg h0, if_neg h0, trF_more f g (n - 1) (by omega) (by omega)]
      · rw [if_neg h3, if_neg h3]
def tr (n : Nat) : Option Nat := trF two cnt A B (n + 1) n
theorem tr_two {n : Nat} (h : two n = true) : tr two cnt A B n = if n = 0 ∨ B n ≠ (n : Int) - 1 then none else match tr two cnt A B (n - 1) with | none => none | some b => if b = 0 ∨ A n ≠ (b : Int) - 1 then none else tr two cnt A B (b - 1) := by
  unfold tr
  rw [trF, if_pos h]
  by_cases h0 : n = 0 ∨ B n ≠ (n : Int) - 1
  · rw [if_pos h0, if_pos h0]
  · rw [if_neg h0, if_neg h0, trF_more two cnt A B n (n - 1 + 1) (n - 1) (by omega) (by omega)]
    cases hr : trF two cnt A B (n - 1 + 1) (n - 1) with
    | none => rfl
    | some c =>
      dsimp only
      have hc := trF_le two cnt A B _ _ c hr
      by_cases h1 : c = 0 ∨ A n ≠ (c : Int) - 1
      · rw [if_pos h1, if_pos h1]
      · rw [if_neg h1, if_neg h1, trF_more two cnt A B n (c - 1 + 1) (c - 1) (by omega) (by omega)]
theorem tr_cnt {n : Nat} (h : ¬ two n = true) (h3 : cnt n = true) : tr two cnt A B n = if n = 0 ∨ A n ≠ (n : Int) - 1 then none else tr two cnt A B (n - 1) := by
  unfold tr
  rw [trF, if_neg h, if_pos h3]
  by_cases h0 : n = 0 ∨ A n ≠ (n : Int) - 1
  · rw [if_pos h0, if_pos h0]
  · rw [if_neg h0, if_neg h0, trF_more two cnt A B n (n - 1 + 1) (n - 1) (by omega) (by omega)]
theorem tr_leaf {n : Nat} (h : ¬ two n = true) (h3 : ¬ cnt n = true) : tr two cnt A B n = some n := by
  unfold tr
  rw [trF, if_neg h, if_neg h3]
theorem tr_le {n b : Nat} (h : tr two cnt A B n = some b) : b ≤ n := trF_le two cnt A B _ _ _ h
/-- Every node of a right piece has a right piece of its own. -/
theorem tr_all : ∀ (m n b : Nat), n < m → tr two cnt A B n = some b → ∀ j, b ≤ j → j ≤ n → (tr two cnt A B j).isSome = true
  | 0, n, b, hm, h, j, hj, hn => by omega
  | m + 1, n, b, hm, h, j, hj, hn => by
    by_cases e : j = n
    · subst e; rw [h]; rfl
    · by_cases h2 : two n = true
      · have hh := h
        rw [tr_two two cnt A B h2] at hh
        split at hh
        · cases hh
        · cases hr : tr two cnt A B (n - 1) with
          | none => rw [hr] at hh; cases hh
          | some c =>
            rw [hr] at hh
            dsimp only at hh
            split at hh
            · cases hh
            · have hc := tr_le two cnt A B hr
              by_cases hjc : c ≤ j
              · exact tr_all m (n - 1) c (by omega) hr j hjc (by omega)
              · exact tr_all m (c - 1) b (by omega) hh j hj (by omega)
      · by_cases h3 : cnt n = true
        · have hh := h
          rw [tr_cnt two cnt A B h2 h3] at hh
          split at hh
          · cases hh
          · exact tr_all m (n - 1) b (by omega) hh j hj (by omega)
        · rw [tr_leaf two cnt A B h2 h3] at h
          cases h
          omega
variable (mu : Nat → Int)
/-- How much a node weighs, at most 2001 ('f' bounds the depth). -/
def wtF : Nat → Nat → Int
  | 0, _ => 0
  | f + 1, n => min (if two n = true then wtF f (A n).toNat + wtF f (B n).toNat else if cnt n = true then wtF f (A n).toNat * mu n else 1) 2001
theorem wtF_more : ∀ (f g n b : Nat), n < f → n < g → tr two cnt A B n = some b → wtF two cnt A B mu f n = wtF two cnt A B mu g n
  | 0, g, n, b, hf, hg, h => by omega
  | f + 1, 0, n, b, hf, hg, h => by omega
  | f + 1, g + 1, n, b, hf, hg, h => by
    rw [wtF, wtF]
    by_cases h2 : two n = true
    · rw [if_pos h2, if_pos h2]
      rw [tr_two two cnt A B h2] at h
      split at h
      · cases h
      · rename_i h0
        cases hr : tr two cnt A B (n - 1) with
        | none => rw [hr] at h; cases h
        | some c =>
          rw [hr] at h
          dsimp only at h
          split at h
          · cases h
          · rename_i h1
            have hc := tr_le two cnt A B hr
            have eB : (B n).toNat = n - 1 := by omega
            have eA : (A n).toNat = c - 1 := by omega
            rw [eA, eB, wtF_more f g (n - 1) c (by omega) (by omega) hr, wtF_more f g (c - 1) b (by omega) (by omega) h]
    · rw [if_neg h2, if_neg h2]
      by_cases h3 : cnt n = true
      · rw [if_pos h3, if_pos h3]
        rw [tr_cnt two cnt A B h2 h3] at h
        split at h
        · cases h
        · rename_i h0
          have eA : (A n).toNat = n - 1 := by omega
          rw [eA, wtF_more f g (n - 1) b (by omega) (by omega) h]
      · rw [if_neg h3, if_neg h3]
def wt (n : Nat) : Int := wtF two cnt A B mu (n + 1) n
theorem wt_le (n : Nat) : wt two cnt A B mu n ≤ 2001 := by
  unfold wt
  rw [wtF]
  exact Int.min_le_right _ _
theorem wt_two {n b c : Nat} (h : two n = true) (hn : ¬ (n = 0 ∨ B n ≠ (n : Int) - 1)) (hr : tr two cnt A B (n - 1) = some c) (hc : ¬ (c = 0 ∨ A n ≠ (c : Int) - 1)) (hb : tr two cnt A B (c - 1) = some b) :
    wt two cnt A B mu n = min (wt two cnt A B mu (c - 1) + wt two cnt A B mu (n - 1)) 2001 := by
  have hcl := tr_le two cnt A B hr
  unfold wt
  rw [wtF, if_pos h, show (B n).toNat = n - 1 by omega, show (A n).toNat = c - 1 by omega, wtF_more two cnt A B mu n (n - 1 + 1) (n - 1) c (by omega) (by omega) hr, wtF_more two cnt A B mu n (c - 1 + 1) (c - 1) b (by omega) (by omega) hb]
theorem wt_cnt {n b : Nat} (h : ¬ two n = true) (h3 : cnt n = true) (hn : ¬ (n = 0 ∨ A n ≠ (n : Int) - 1)) (hr : tr two cnt A B (n - 1) = some b) :
    wt two cnt A B mu n = min (wt two cnt A B mu (n - 1) * mu n) 2001 := by
  unfold wt
  rw [wtF, if_neg h, if_pos h3, show (A n).toNat = n - 1 by omega, wtF_more two cnt A B mu n (n - 1 + 1) (n - 1) b (by omega) (by omega) hr]
theorem wt_leaf {n : Nat} (h : ¬ two n = true) (h3 : ¬ cnt n = true) : wt two cnt A B mu n = 1 := by
  unfold wt
  rw [wtF, if_neg h, if_neg h3]
  decide
end
end Go.Proofs.YtepommmmmfaihaaDoor
