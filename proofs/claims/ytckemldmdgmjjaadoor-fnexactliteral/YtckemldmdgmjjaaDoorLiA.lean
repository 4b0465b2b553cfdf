/-
  Plain facts: the nodes of a text's own expression; nodes that are put behind a row.
-/
import Derived.Test.YtckemldmdgmjjaaDoorLiH
namespace Go.Proofs.YtckemldmdgmjjaaDoor
open Go.RowKit Go.Joins
set_option linter.unusedVariables false
set_option linter.unusedSimpArgs false
def clsN (c : Int) : Nd := ⟨2, false, [(c, c)], 0, 0, 0, 0⟩
def sqN (a : Int) : Nd := ⟨3, false, [], a, a + 1, 0, 0⟩
def emN : Nd := ⟨1, false, [], 0, 0, 0, 0⟩
def litS (X : List Nd) (c : Int) : List Nd := if X.length = 0 then [clsN c] else X ++ [clsN c, sqN ((X.length : Int) - 1)]
/-- The nodes of a text's own expression. -/
def litL (C : List Int) : List Nd := C.foldl litS []
theorem litL_snoc (C : List Int) (c : Int) : litL (C ++ [c]) = litS (litL C) c := by unfold litL; rw [List.foldl_append]; rfl
theorem litS_len {X : List Nd} (h : X.length ≠ 0) (c : Int) : (litS X c).length = X.length + 2 := by unfold litS; rw [if_neg h]; simp
theorem fold_len : ∀ (C : List Int) (X : List Nd), X.length ≠ 0 → (C.foldl litS X).length = X.length + 2 * C.length
  | [], X, h => by simp
  | c :: C, X, h => by
    rw [List.foldl_cons, fold_len C (litS X c) (by rw [litS_len h]; omega), litS_len h, List.length_cons]
    omega
theorem litL_len : ∀ (C : List Int), (litL C).length = 2 * C.length - 1
  | [] => rfl
  | c :: C => by
    have e : litS [] c = [clsN c] := rfl
    unfold litL
    rw [List.foldl_cons, e, fold_len C [clsN c] (by simp), List.length_cons, List.length_cons, List.length_nil]
    omega
theorem litL_take {C : List Int} {i : Nat} (h : i < C.length) : litL (C.take (i + 1)) = litS (litL (C.take i)) C[i] := by
  rw [← litL_snoc, List.take_add_one, List.getElem?_eq_getElem h]
  rfl
theorem litS_zero {X : List Nd} {c : Int} (h : X.length = 0) : litS X c = X ++ [clsN c] := by
  unfold litS
  rw [if_pos h, List.length_eq_zero_iff.1 h]
  rfl
theorem litS_more {X : List Nd} {c : Int} (h : X.length ≠ 0) : litS X c = (X ++ [clsN c]) ++ [sqN ((X.length : Int) - 1)] := by
  unfold litS
  rw [if_neg h]
  simp
/-- What Literal is to answer. -/
def litV (C : List Int) (b : Bool) : List Nd := if b = true ∧ C.length ≤ 60 then (if C.length = 0 then [emN] else litL C) else []
def litB (C : List Int) (b : Bool) : Bool := b && decide (C.length ≤ 60)
theorem litV_len (C : List Int) (b : Bool) : (litV C b).length ≤ 119 := by
  unfold litV
  split
  · split
    · simp
    · rw [litL_len]; omega
  · simp
theorem own_pr (w : World) (B : Nat) (a : Int) (hB : B ≤ w.heap.size) : (w.alloc (.cells #[.int .i64 a, .int .i64 a] 35)).ownsRow 0 35 2 (.slice (some ⟨w.heap.size, 0, none⟩) [(a, a)].length 1) [(a, a)].length (prV [(a, a)]) :=
  ⟨rfl, .inr ⟨w.heap.size, 1, #[.int .i64 a, .int .i64 a], rfl, Nat.zero_le _, heap_alloc_new w _, Nat.le_refl _, by unfold maxLen; omega, rfl, rfl⟩⟩
section
variable {B : Nat} {w w9 : World} {oa : Option Addr} {oc gg cap' : Nat} {X : List Nd} {xs : List Value}
/-- A class behind the row. -/
theorem lt_app1 {a : Int} {o : Obj} (hB : B ≤ w.heap.size) (hown : w.ownsRow B 33 7 (.slice oa X.length oc) X.length xs) (hits : XIts (fun j => B ≤ j) w xs X) (hdj : Dj7 xs X.length)
    (hown9 : w9.ownsRow B 33 7 (.slice (some ⟨gg, 0, none⟩) (X.length + 1) cap') (X.length + 1) (xs ++ ndV (clsN a) (some ⟨w.heap.size, 0, none⟩) 1)) (hg : ((w.alloc (.cells #[.int .i64 a, .int .i64 a] 35)).alloc o).grownBy w9 (Value.slice oa X.length oc).ownBlock) :
    XO B (fun j => B ≤ j) w9 (some ⟨gg, 0, none⟩) cap' (X ++ [clsN a]) := by
  have k1 : Kp (fun _ => False) w ((w.alloc (.cells #[.int .i64 a, .int .i64 a] 35)).alloc o) := (kp_alloc w _).trans (kp_alloc (S := fun _ => False) _ _) (fun _ _ h => h)
  have i1 := xits_kp hits k1 (fun _ _ _ _ _ _ _ _ _ x => x)
  have o1 := own_kp (own_pr w B a hB) (kp_alloc (S := fun _ => False) _ o) (fun _ _ x => x)
  have i2 := xits_push i1 hown.1 (nd := clsN a) (ad := some ⟨w.heap.size, 0, none⟩) (cp := 1) o1 (fun k hk => by have h9 : w.heap.size = k := (by simpa [Value.ownBlock] using hk); omega) (by simp [clsN])
  have d2 := dj7_push hdj hown.1 (nd := clsN a) (ad := some ⟨w.heap.size, 0, none⟩) (cp := 1) (fun j k hj hk e => by
    have h1 := (xits_kb hits hj hk).2
    have : w.heap.size = k := by simpa [Value.ownBlock] using e
    omega)
  refine xo_fin (v := .slice oa X.length oc) i2 (by simpa using d2) (own_kp hown k1 (fun _ _ x => x)) ?_ hg
  simpa using hown9
/-- A row of two behind the row. -/
theorem lt_app2 {o : Obj} {nd : Nd} (hL : nd.L = []) (hown : w.ownsRow B 33 7 (.slice oa X.length oc) X.length xs) (hits : XIts (fun j => B ≤ j) w xs X) (hdj : Dj7 xs X.length)
    (hown9 : w9.ownsRow B 33 7 (.slice (some ⟨gg, 0, none⟩) (X.length + 1) cap') (X.length + 1) (xs ++ ndV nd none 0)) (hg : (w.alloc o).grownBy w9 (Value.slice oa X.length oc).ownBlock) :
    XO B (fun j => B ≤ j) w9 (some ⟨gg, 0, none⟩) cap' (X ++ [nd]) := by
  have k1 : Kp (fun _ => False) w (w.alloc o) := kp_alloc w _
  have i1 := xits_kp hits k1 (fun _ _ _ _ _ _ _ _ _ x => x)
  have i2 := xits_push i1 hown.1 (nd := nd) (ad := none) (cp := 0) (by rw [hL]; exact World.ownsRow_nil _ _ _ _) (fun k hk => by cases hk) (by simp [hL])
  have d2 := dj7_push hdj hown.1 (nd := nd) (ad := none) (cp := 0) (fun j k hj hk e => by cases e)
  refine xo_fin (v := .slice oa X.length oc) i2 (by simpa using d2) (own_kp hown k1 (fun _ _ x => x)) ?_ hg
  simpa using hown9
/-- A class that was made, and a row of two. -/
theorem lt_app3 {a : Int} {o : Obj} {q : Nat} {nd : Nd} (hL : nd.L = []) (hq : B ≤ q) (hr : w.ownsRow 0 35 2 (.slice (some ⟨q, 0, none⟩) 1 1) 1 (prV [(a, a)])) (hqn : ∀ j, j < X.length → kb7 xs j ≠ some q) (hown : w.ownsRow B 33 7 (.slice oa X.length oc) X.length xs) (hits : XIts (fun j => B ≤ j) w xs X) (hdj : Dj7 xs X.length)
    (hown9 : w9.ownsRow B 33 7 (.slice (some ⟨gg, 0, none⟩) (X.length + 2) cap') (X.length + 2) (xs ++ (ndV (clsN a) (some ⟨q, 0, none⟩) 1 ++ ndV nd none 0))) (hg : (w.alloc o).grownBy w9 (Value.slice oa X.length oc).ownBlock) :
    XO B (fun j => B ≤ j) w9 (some ⟨gg, 0, none⟩) cap' ((X ++ [clsN a]) ++ [nd]) := by
  have k1 : Kp (fun _ => False) w (w.alloc o) := kp_alloc w _
  have i1 := xits_kp hits k1 (fun _ _ _ _ _ _ _ _ _ x => x)
  have o1 := own_kp hr k1 (fun _ _ x => x)
  have i2 := xits_push i1 hown.1 (nd := clsN a) (ad := some ⟨q, 0, none⟩) (cp := 1) o1 (fun k hk => by have h9 : q = k := (by simpa [Value.ownBlock] using hk); omega) (by simp [clsN])
  have d2 := dj7_push hdj hown.1 (nd := clsN a) (ad := some ⟨q, 0, none⟩) (cp := 1) (fun j k hj hk e => by
    have : q = k := by simpa [Value.ownBlock] using e
    subst this
    exact hqn j hj hk)
  have hl2 : (xs ++ ndV (clsN a) (some ⟨q, 0, none⟩) 1).length = (X ++ [clsN a]).length * 7 := by
    rw [List.length_append, hown.1]
    simp [ndV]
    omega
  have i3 := xits_push i2 hl2 (nd := nd) (ad := none) (cp := 0) (by rw [hL]; exact World.ownsRow_nil _ _ _ _) (fun k hk => by cases hk) (by simp [hL])
  have d3 := dj7_push (m := (X ++ [clsN a]).length) (by simpa using d2) hl2 (nd := nd) (ad := none) (cp := 0) (fun j k hj hk e => by cases e)
  refine xo_fin (v := .slice oa X.length oc) i3 (by simpa using d3) (own_kp hown k1 (fun _ _ x => x)) ?_ hg
  rw [List.append_assoc]
  simpa using hown9
end
/-- One node of its own. -/
theorem xo_em {B : Nat} (w : World) (hB : B ≤ w.heap.size) : XO B (fun j => B ≤ j) (w.alloc (.cells #[.int .i64 1, .bool false, .slice none 0 0, .int .i64 0, .int .i64 0, .int .i64 0, .int .i64 0] 33)) (some ⟨w.heap.size, 0, none⟩) 1 [emN] := by
  have hn : (w.alloc (.cells #[.int .i64 1, .bool false, .slice none 0 0, .int .i64 0, .int .i64 0, .int .i64 0, .int .i64 0] 33)).ownsRow B 33 7 (.slice (some ⟨w.heap.size, 0, none⟩) 1 1) 1 (ndV emN none 0) := ⟨rfl, .inr ⟨w.heap.size, 1, _, rfl, hB, heap_alloc_new w _, Nat.le_refl _, by unfold maxLen; omega, rfl, rfl⟩⟩
  refine ⟨ndV emN none 0, hn, ?_, fun i j k hi hj hne => ?_⟩
  · have := xits_push (S := fun j => B ≤ j) (w := w.alloc (.cells #[.int .i64 1, .bool false, .slice none 0 0, .int .i64 0, .int .i64 0, .int .i64 0, .int .i64 0] 33)) (xs := []) (X := []) (fun j nd hj => (by simp at hj)) rfl (nd := emN) (ad := none) (cp := 0) (World.ownsRow_nil _ _ _ _) (fun k hk => by cases hk) (by simp [emN])
    simpa using this
  · have h1 : i < 1 := hi
    have h2 : j < 1 := hj
    omega
theorem xo_cls {B : Nat} {w : World} {q : Nat} {a : Int} (hB : B ≤ w.heap.size) (hq : B ≤ q) (hr : w.ownsRow 0 35 2 (.slice (some ⟨q, 0, none⟩) 1 1) 1 (prV [(a, a)])) : XO B (fun j => B ≤ j) (w.alloc (.cells #[.int .i64 2, .bool false, .slice (some ⟨q, 0, none⟩) 1 1, .int .i64 0, .int .i64 0, .int .i64 0, .int .i64 0] 33)) (some ⟨w.heap.size, 0, none⟩) 1 [clsN a] := by
  have hn : (w.alloc (.cells #[.int .i64 2, .bool false, .slice (some ⟨q, 0, none⟩) 1 1, .int .i64 0, .int .i64 0, .int .i64 0, .int .i64 0] 33)).ownsRow B 33 7 (.slice (some ⟨w.heap.size, 0, none⟩) 1 1) 1 (ndV (clsN a) (some ⟨q, 0, none⟩) 1) := ⟨rfl, .inr ⟨w.heap.size, 1, _, rfl, hB, heap_alloc_new w _, Nat.le_refl _, by unfold maxLen; omega, rfl, rfl⟩⟩
  refine ⟨ndV (clsN a) (some ⟨q, 0, none⟩) 1, hn, ?_, fun i j k hi hj hne => ?_⟩
  · have := xits_push (S := fun j => B ≤ j) (w := w.alloc (.cells #[.int .i64 2, .bool false, .slice (some ⟨q, 0, none⟩) 1 1, .int .i64 0, .int .i64 0, .int .i64 0, .int .i64 0] 33)) (xs := []) (X := []) (fun j nd hj => (by simp at hj)) rfl (nd := clsN a) (ad := some ⟨q, 0, none⟩) (cp := 1) (own_kp hr (kp_alloc (S := fun _ => False) _ _) (fun _ _ x => x)) (fun k hk => by have h9 : q = k := (by simpa [Value.ownBlock] using hk); omega) (by simp [clsN])
    simpa using this
  · have h1 : i < 1 := hi
    have h2 : j < 1 := hj
    omega
end Go.Proofs.YtckemldmdgmjjaaDoor
