/-
  Texts put together: RxRow, RxMath, RxTree.
-/
import Derived.Test.YtepommmmmfaihaaGreatDoorB1
import Derived.Test.YtepommmmmfaihaaGreatDoorChecked
import Derived.WalkKit
import Derived.WalkLawsBesides
import Derived.Below
/-
  Contracts of the laws' helpers on rows of nodes: how much they hold, a copy in new memory.
-/
namespace Go.Proofs.YtepommmmmfaihaaGreatDoor
open Go.RowKit Go.Joins
set_option linter.unusedVariables false
set_option linter.unusedSimpArgs false
/-- A row of nodes, as numbers. -/
structure Rx where
  len : Nat
  K : Nat → Int
  A : Nat → Int
  B : Nat → Int
  MN : Nat → Int
  MX : Nat → Int
  NT : Nat → Bool
  NR : Nat → Nat
  L : Nat → Nat → Int
  H : Nat → Nat → Int
def RxCells (w : World) (b o : Nat) (X : Rx) (j : Nat) (ad : Option Addr) (cp : Nat) : Prop := w.cell? ⟨b, o, none⟩ = some (.int .i64 (X.K j)) ∧ w.cell? ⟨b, o + 1, none⟩ = some (.bool (X.NT j)) ∧ w.cell? ⟨b, o + 2, none⟩ = some (.slice ad (X.NR j) cp) ∧ w.cell? ⟨b, o + 3, none⟩ = some (.int .i64 (X.A j)) ∧ w.cell? ⟨b, o + 4, none⟩ = some (.int .i64 (X.B j)) ∧ w.cell? ⟨b, o + 5, none⟩ = some (.int .i64 (X.MN j)) ∧ w.cell? ⟨b, o + 6, none⟩ = some (.int .i64 (X.MX j))
def RxRow (w : World) (b off : Nat) (X : Rx) (B : Nat) : Prop := ∀ j, j < X.len → ∃ ad cp, RxCells w b (off + j * 7) X j ad cp ∧ RngAt w ad (X.NR j) (X.L j) (X.H j) B
def RxAt (w : World) (a : Option Addr) (X : Rx) (B : Nat) : Prop := 0 < X.len → ∃ b off, a = some ⟨b, off, none⟩ ∧ b < B ∧ RxRow w b off X B
theorem rxCells_go {w w' : World} {b o : Nat} {X : Rx} {j : Nat} {ad : Option Addr} {cp B : Nat} (h : RxCells w b o X j ad cp) (hb : b < B) (k : Below B w w') : RxCells w' b o X j ad cp := by
  obtain ⟨h0, h1, h2, h3, h4, h5, h6⟩ := h
  exact ⟨(k.cell (p := ⟨b, o, none⟩) hb).trans h0, (k.cell (p := ⟨b, o + 1, none⟩) hb).trans h1, (k.cell (p := ⟨b, o + 2, none⟩) hb).trans h2, (k.cell (p := ⟨b, o + 3, none⟩) hb).trans h3, (k.cell (p := ⟨b, o + 4, none⟩) hb).trans h4, (k.cell (p := ⟨b, o + 5, none⟩) hb).trans h5, (k.cell (p := ⟨b, o + 6, none⟩) hb).trans h6⟩
theorem rxRow_go {w w' : World} {b off : Nat} {X : Rx} {B : Nat} (h : RxRow w b off X B) (hb : b < B) (k : Below B w w') : RxRow w' b off X B := fun j hj => by
  obtain ⟨ad, cp, hc, hr⟩ := h j hj
  exact ⟨ad, cp, rxCells_go hc hb k, rngAt_go hr k⟩
theorem rxRow_up {w : World} {b off : Nat} {X : Rx} {B B' : Nat} (h : RxRow w b off X B) (k : B ≤ B') : RxRow w b off X B' := fun j hj => by
  obtain ⟨ad, cp, hc, hr⟩ := h j hj
  exact ⟨ad, cp, hc, rngAt_up hr k⟩
theorem rxAt_go {w w' : World} {a : Option Addr} {X : Rx} {B : Nat} (h : RxAt w a X B) (k : Below B w w') : RxAt w' a X B := fun h0 => by
  obtain ⟨b, off, e, hb, hr⟩ := h h0
  exact ⟨b, off, e, hb, rxRow_go hr hb k⟩
theorem rxAt_up {w : World} {a : Option Addr} {X : Rx} {B B' : Nat} (h : RxAt w a X B) (k : B ≤ B') : RxAt w a X B' := fun h0 => by
  obtain ⟨b, off, e, hb, hr⟩ := h h0
  exact ⟨b, off, e, Nat.lt_of_lt_of_le hb k, rxRow_up hr k⟩
theorem ret_iI {a b : Int} (h : a = b) : Ending.returned (.int .i64 a) = .returned (.int .i64 b) := by rw [h]
def sumN (f : Nat → Nat) : Nat → Nat
  | 0 => 0
  | k + 1 => sumN f k + f k
theorem sumN_le (f : Nat → Nat) {a b : Nat} (h : a ≤ b) : sumN f a ≤ sumN f b := by
  induction b with
  | zero => have : a = 0 := by omega
            subst this; exact Nat.le_refl _
  | succ b ih =>
    by_cases e : a = b + 1
    · subst e; exact Nat.le_refl _
    · have := ih (by omega)
      show sumN f a ≤ sumN f b + f b
      omega
theorem sumN_at (f : Nat → Nat) {a b : Nat} (h : a < b) : sumN f a + f a ≤ sumN f b := sumN_le f (a := a + 1) h
/-- Of a row of cells the first k nodes are those of X, each with its ranges in a block of its own above g. -/
def Sept (w : World) (g : Nat) (xs : List Value) (k : Nat) (X : Rx) : Prop := ∀ j, j < k → ∃ G, g < G ∧ (xs[j * 7]? = some (.int .i64 (X.K j)) ∧ xs[j * 7 + 1]? = some (.bool (X.NT j)) ∧ xs[j * 7 + 2]? = some (.slice (some ⟨G, 0, none⟩) (X.NR j) (X.NR j)) ∧ xs[j * 7 + 3]? = some (.int .i64 (X.A j)) ∧ xs[j * 7 + 4]? = some (.int .i64 (X.B j)) ∧ xs[j * 7 + 5]? = some (.int .i64 (X.MN j)) ∧ xs[j * 7 + 6]? = some (.int .i64 (X.MX j))) ∧ RngAt w (some ⟨G, 0, none⟩) (X.NR j) (X.L j) (X.H j) w.heap.size
theorem sept_go {w w' : World} {g k : Nat} {xs : List Value} {X : Rx} (h : Sept w g xs k X) (hb : Below w.heap.size w w') : Sept w' g xs k X := fun j hj => by
  obtain ⟨G, hG, hc, hr⟩ := h j hj
  exact ⟨G, hG, hc, rngAt_up (rngAt_go hr hb) hb.size⟩
theorem sept_set {w : World} {g k o : Nat} {xs : List Value} {X : Rx} (h : Sept w g xs k X) (v : Value) : Sept (w.setCell ⟨g, o, none⟩ v) g xs k X := fun j hj => by
  obtain ⟨G, hG, hc, hr⟩ := h j hj
  refine ⟨G, hG, hc, ?_⟩
  rw [heap_setCell_size]
  exact rngAt_set hr _ _ (by show g ≠ G; omega)
theorem sept_step {w : World} {g k n G : Nat} {xs : List Value} {X : Rx} (h : Sept w g xs k X) (hk : k < n) (hl : xs.length = n * 7) (hG : g < G) (hr : RngAt w (some ⟨G, 0, none⟩) (X.NR k) (X.L k) (X.H k) w.heap.size) :
    Sept w g (((((((xs.set (k * 7) (.int .i64 (X.K k))).set (k * 7 + 1) (.bool (X.NT k))).set (k * 7 + 2) (.slice (some ⟨G, 0, none⟩) (X.NR k) (X.NR k))).set (k * 7 + 3) (.int .i64 (X.A k))).set (k * 7 + 4) (.int .i64 (X.B k))).set (k * 7 + 5) (.int .i64 (X.MN k))).set (k * 7 + 6) (.int .i64 (X.MX k))) (k + 1) X := by
  intro j hj
  simp only [List.getElem?_set, List.length_set]
  by_cases e : j = k
  · subst e
    refine ⟨G, hG, ⟨?_, ?_, ?_, ?_, ?_, ?_, ?_⟩, hr⟩
    all_goals
      repeat (first | rw [if_pos rfl, if_pos (by omega)] | rw [if_neg (by omega)])
  · obtain ⟨G', hG', ⟨h0, h1, h2, h3, h4, h5, h6⟩, hr'⟩ := h j (by omega)
    refine ⟨G', hG', ⟨?_, ?_, ?_, ?_, ?_, ?_, ?_⟩, hr'⟩
    all_goals
      repeat rw [if_neg (by omega)]
      assumption
theorem own_rx {w : World} {B g n t : Nat} {xs : List Value} {X : Rx} (hn : X.len = n) (h : w.ownsRow B t 7 (.slice (some ⟨g, 0, none⟩) n n) n xs) (hp : Sept w g xs n X) : RxAt w (some ⟨g, 0, none⟩) X w.heap.size := fun h0 => by
  have hg : g < w.heap.size := (h.lt g rfl).2
  refine ⟨g, 0, rfl, hg, fun j hj => ?_⟩
  obtain ⟨G, hG, ⟨h0, h1, h2, h3, h4, h5, h6⟩, hr⟩ := hp j (by omega)
  refine ⟨some ⟨G, 0, none⟩, X.NR j, ⟨?_, ?_, ?_, ?_, ?_, ?_, ?_⟩, hr⟩
  · rw [Nat.zero_add, h.cellAt (j * 7) (by omega)]; exact h0
  · rw [Nat.zero_add, h.cellAt (j * 7 + 1) (by omega)]; exact h1
  · rw [Nat.zero_add, h.cellAt (j * 7 + 2) (by omega)]; exact h2
  · rw [Nat.zero_add, h.cellAt (j * 7 + 3) (by omega)]; exact h3
  · rw [Nat.zero_add, h.cellAt (j * 7 + 4) (by omega)]; exact h4
  · rw [Nat.zero_add, h.cellAt (j * 7 + 5) (by omega)]; exact h5
  · rw [Nat.zero_add, h.cellAt (j * 7 + 6) (by omega)]; exact h6
theorem own_some7 {w : World} {B g n t : Nat} {xs : List Value} (h : w.ownsRow B t 7 (.slice (some ⟨g, 0, none⟩) n n) n xs) (j : Nat) (hj : j < n * 7) : ∃ v, w.cell? ⟨g, j, none⟩ = some v := by
  rw [h.cellAt j hj]
  exact ⟨_, List.getElem?_eq_getElem (by rw [h.1]; exact hj)⟩
end Go.Proofs.YtepommmmmfaihaaGreatDoor

/-
  Plain facts on expressions as lists of nodes, of no program: where a node's piece begins, by the node's own fields, and by the pieces ahead of it.
-/
namespace Go.Proofs.YtepommmmmfaihaaGreatDoor
set_option linter.unusedVariables false
section
variable (two cnt : Nat → Bool) (A B : Nat → Int)
/-- Where the piece of node 'n' begins, if it is a right one ('f' bounds the depth). -/
def trF : Nat → Nat → Option Nat
  | 0, _ => none
  | f + 1, n =>
    if two n = true then
      (if n = 0 ∨ B n ≠ (n : Int) - 1 then none else
        match trF f (n - 1) with
        | none => none
        | some b => if b = 0 ∨ A n ≠ (b : Int) - 1 then none else trF f (b - 1))
    else if cnt n = true then (if n = 0 ∨ A n ≠ (n : Int) - 1 then none else trF f (n - 1))
    else some n
theorem trF_le : ∀ (f n b : Nat), trF two cnt A B f n = some b → b ≤ n
  | 0, n, b, h => by simp [trF] at h
  | f + 1, n, b, h => by
    rw [trF] at h
    split at h
    · split at h
      · cases h
      · rename_i hn
        cases hr : trF two cnt A B f (n - 1) with
        | none => rw [hr] at h; cases h
        | some c =>
          rw [hr] at h
          dsimp only at h
          have h1 := trF_le f (n - 1) c hr
          split at h
          · cases h
          · have h2 := trF_le f (c - 1) b h
            omega
    · split at h
      · split at h
        · cases h
        · have := trF_le f (n - 1) b h
          omega
      · cases h; exact Nat.le_refl _
theorem trF_more : ∀ (f g n : Nat), n < f → n < g → trF two cnt A B f n = trF two cnt A B g n
  | 0, g, n, hf, hg => by omega
  | f + 1, 0, n, hf, hg => by omega
  | f + 1, g + 1, n, hf, hg => by
    rw [trF, trF]
    by_cases h2 : two n = true
    · rw [if_pos h2, if_pos h2]
      by_cases h0 : n = 0 ∨ B n ≠ (n : Int) - 1
      · rw [if_pos h0, if_pos h0]
      · rw [if_neg h0, if_neg h0, trF_more f g (n - 1) (by omega) (by omega)]
        cases hr : trF two cnt A B g (n - 1) with
        | none => rfl
        | some c =>
          dsimp only
          have hc := trF_le two cnt A B g (n - 1) c hr
          by_cases h1 : c = 0 ∨ A n ≠ (c : Int) - 1
          · rw [if_pos h1, if_pos h1]
          · rw [if_neg h1, if_neg h1, trF_more f g (c - 1) (by omega) (by omega)]
    · rw [if_neg h2, if_neg h2]
      by_cases h3 : cnt n = true
      · rw [if_pos h3, if_pos h3]
        by_cases h0 : n = 0 ∨ A n ≠ (n : Int) - 1
        · rw [if_pos h0, if_pos h0]
        · rw [if_neg h0, if_neg h0, trF_more f g (n - 1) (by omega) (by omega)]
      · rw [if_neg h3, if_neg h3]
def tr (n : Nat) : Option Nat := trF two cnt A B (n + 1) n
theorem tr_two {n : Nat} (h : two n = true) : tr two cnt A B n = if n = 0 ∨ B n ≠ (n : Int) - 1 then none else match tr two cnt A B (n - 1) with | none => none | some b => if b = 0 ∨ A n ≠ (b : Int) - 1 then none else tr two cnt A B (b - 1) := by
  unfold tr
  rw [trF, if_pos h]
  by_cases h0 : n = 0 ∨ B n ≠ (n : Int) - 1
  · rw [if_pos h0, if_pos h0]
  · rw [if_neg h0, if_neg h0, trF_more two cnt A B n (n - 1 + 1) (n - 1) (by omega) (by omega)]
    cases hr : trF two cnt A B (n - 1 + 1) (n - 1) with
    | none => rfl
    | some c =>
      dsimp only
      have hc := trF_le two cnt A B _ _ c hr
      by_cases h1 : c = 0 ∨ A n ≠ (c : Int) - 1
      · rw [if_pos h1, if_pos h1]
      · rw [if_neg h1, if_neg h1, trF_more two cnt A B n (c - 1 + 1) (c - 1) (by omega) (by omega)]
theorem tr_cnt {n : Nat} (h : ¬ two n = true) (h3 : cnt n = true) : tr two cnt A B n = if n = 0 ∨ A n ≠ (n : Int) - 1 then none else tr two cnt A B (n - 1) := by
  unfold tr
  rw [trF, if_neg h, if_pos h3]
  by_cases h0 : n = 0 ∨ A n ≠ (n : Int) - 1
  · rw [if_pos h0, if_pos h0]
  · rw [if_neg h0, if_neg h0, trF_more two cnt A B n (n - 1 + 1) (n - 1) (by omega) (by omega)]
theorem tr_leaf {n : Nat} (h : ¬ two n = true) (h3 : ¬ cnt n = true) : tr two cnt A B n = some n := by
  unfold tr
  rw [trF, if_neg h, if_neg h3]
theorem tr_le {n b : Nat} (h : tr two cnt A B n = some b) : b ≤ n := trF_le two cnt A B _ _ _ h
/-- Every node of a right piece has a right piece of its own. -/
theorem tr_all : ∀ (m n b : Nat), n < m → tr two cnt A B n = some b → ∀ j, b ≤ j → j ≤ n → (tr two cnt A B j).isSome = true
  | 0, n, b, hm, h, j, hj, hn => by omega
  | m + 1, n, b, hm, h, j, hj, hn => by
    by_cases e : j = n
    · subst e; rw [h]; rfl
    · by_cases h2 : two n = true
      · have hh := h
        rw [tr_two two cnt A B h2] at hh
        split at hh
        · cases hh
        · cases hr : tr two cnt A B (n - 1) with
          | none => rw [hr] at hh; cases hh
          | some c =>
            rw [hr] at hh
            dsimp only at hh
            split at hh
            · cases hh
            · have hc := tr_le two cnt A B hr
              by_cases hjc : c ≤ j
              · exact tr_all m (n - 1) c (by omega) hr j hjc (by omega)
              · exact tr_all m (c - 1) b (by omega) hh j hj (by omega)
      · by_cases h3 : cnt n = true
        · have hh := h
          rw [tr_cnt two cnt A B h2 h3] at hh
          split at hh
          · cases hh
          · exact tr_all m (n - 1) b (by omega) hh j hj (by omega)
        · rw [tr_leaf two cnt A B h2 h3] at h
          cases h
          omega
variable (mu : Nat → Int)
/-- How much a node weighs, at most 2001 ('f' bounds the depth). -/
def wtF : Nat → Nat → Int
  | 0, _ => 0
  | f + 1, n => min (if two n = true then wtF f (A n).toNat + wtF f (B n).toNat else if cnt n = true then wtF f (A n).toNat * mu n else 1) 2001
theorem wtF_more : ∀ (f g n b : Nat), n < f → n < g → tr two cnt A B n = some b → wtF two cnt A B mu f n = wtF two cnt A B mu g n
  | 0, g, n, b, hf, hg, h => by omega
  | f + 1, 0, n, b, hf, hg, h => by omega
  | f + 1, g + 1, n, b, hf, hg, h => by
    rw [wtF, wtF]
    by_cases h2 : two n = true
    · rw [if_pos h2, if_pos h2]
      rw [tr_two two cnt A B h2] at h
      split at h
      · cases h
      · rename_i h0
        cases hr : tr two cnt A B (n - 1) with
        | none => rw [hr] at h; cases h
        | some c =>
          rw [hr] at h
          dsimp only at h
          split at h
          · cases h
          · rename_i h1
            have hc := tr_le two cnt A B hr
            have eB : (B n).toNat = n - 1 := by omega
            have eA : (A n).toNat = c - 1 := by omega
            rw [eA, eB, wtF_more f g (n - 1) c (by omega) (by omega) hr, wtF_more f g (c - 1) b (by omega) (by omega) h]
    · rw [if_neg h2, if_neg h2]
      by_cases h3 : cnt n = true
      · rw [if_pos h3, if_pos h3]
        rw [tr_cnt two cnt A B h2 h3] at h
        split at h
        · cases h
        · rename_i h0
          have eA : (A n).toNat = n - 1 := by omega
          rw [eA, wtF_more f g (n - 1) b (by omega) (by omega) h]
      · rw [if_neg h3, if_neg h3]
def wt (n : Nat) : Int := wtF two cnt A B mu (n + 1) n
theorem wt_le (n : Nat) : wt two cnt A B mu n ≤ 2001 := by
  unfold wt
  rw [wtF]
  exact Int.min_le_right _ _
theorem wt_two {n b c : Nat} (h : two n = true) (hn : ¬ (n = 0 ∨ B n ≠ (n : Int) - 1)) (hr : tr two cnt A B (n - 1) = some c) (hc : ¬ (c = 0 ∨ A n ≠ (c : Int) - 1)) (hb : tr two cnt A B (c - 1) = some b) :
    wt two cnt A B mu n = min (wt two cnt A B mu (c - 1) + wt two cnt A B mu (n - 1)) 2001 := by
  have hcl := tr_le two cnt A B hr
  unfold wt
  rw [wtF, if_pos h, show (B n).toNat = n - 1 by omega, show (A n).toNat = c - 1 by omega, wtF_more two cnt A B mu n (n - 1 + 1) (n - 1) c (by omega) (by omega) hr, wtF_more two cnt A B mu n (c - 1 + 1) (c - 1) b (by omega) (by omega) hb]
theorem wt_cnt {n b : Nat} (h : ¬ two n = true) (h3 : cnt n = true) (hn : ¬ (n = 0 ∨ A n ≠ (n : Int) - 1)) (hr : tr two cnt A B (n - 1) = some b) :
    wt two cnt A B mu n = min (wt two cnt A B mu (n - 1) * mu n) 2001 := by
  unfold wt
  rw [wtF, if_neg h, if_pos h3, show (A n).toNat = n - 1 by omega, wtF_more two cnt A B mu n (n - 1 + 1) (n - 1) b (by omega) (by omega) hr]
theorem wt_leaf {n : Nat} (h : ¬ two n = true) (h3 : ¬ cnt n = true) : wt two cnt A B mu n = 1 := by
  unfold wt
  rw [wtF, if_neg h, if_neg h3]
  decide
end
end Go.Proofs.YtepommmmmfaihaaGreatDoor

/-
  Contract: where the piece of a node begins, by the specification, at every list of nodes and every place of it.
-/
namespace Go.Proofs.YtepommmmmfaihaaGreatDoor
open Go.RowKit
set_option linter.unusedVariables false
set_option linter.unusedSimpArgs false
/-- Of a row of nodes: their kinds and the numbers that they name. -/
def NodesAt (w : World) (b off len : Nat) (K A B : Nat → Int) : Prop := ∀ j, j < len → w.cell? ⟨b, off + j * 7, none⟩ = some (.int .i64 (K j)) ∧ w.cell? ⟨b, off + j * 7 + 3, none⟩ = some (.int .i64 (A j)) ∧ w.cell? ⟨b, off + j * 7 + 4, none⟩ = some (.int .i64 (B j))
def twoK (K : Nat → Int) (j : Nat) : Bool := decide (K j = 3 ∨ K j = 4)
def cntK (K : Nat → Int) (j : Nat) : Bool := decide (K j = 5)
def trI (K A B : Nat → Int) (n : Nat) : Int := match tr (twoK K) (cntK K) A B n with | some f => (f : Int) | none => -1
theorem trI_le (K A B : Nat → Int) (n : Nat) : trI K A B n ≤ n := by
  unfold trI
  cases h : tr (twoK K) (cntK K) A B n with
  | none => show (-1 : Int) ≤ n; omega
  | some f => have := tr_le _ _ _ _ h; show (f : Int) ≤ n; omega
theorem trI_ge (K A B : Nat → Int) (n : Nat) : -1 ≤ trI K A B n := by
  unfold trI
  cases h : tr (twoK K) (cntK K) A B n with
  | none => show (-1 : Int) ≤ -1; omega
  | some f => show (-1 : Int) ≤ f; omega
theorem ret_i {a b : Int} (h : a = b) : Ending.returned (.int .i64 a) = .returned (.int .i64 b) := by rw [h]
theorem trI_two {K A B : Nat → Int} {n : Nat} (h : K n = 3 ∨ K n = 4) : trI K A B n = if n = 0 ∨ B n ≠ (n : Int) - 1 then -1 else if trI K A B (n - 1) < 1 ∨ A n ≠ trI K A B (n - 1) - 1 then -1 else trI K A B (trI K A B (n - 1) - 1).toNat := by
  have h2 : twoK K n = true := decide_eq_true h
  conv => lhs; unfold trI
  rw [tr_two _ _ _ _ h2]
  by_cases h0 : n = 0 ∨ B n ≠ (n : Int) - 1
  · rw [if_pos h0, if_pos h0]
  · rw [if_neg h0, if_neg h0]
    cases hr : tr (twoK K) (cntK K) A B (n - 1) with
    | none =>
      have e : trI K A B (n - 1) = -1 := by unfold trI; rw [hr]
      rw [e, if_pos (by omega)]
    | some c =>
      have e : trI K A B (n - 1) = c := by unfold trI; rw [hr]
      rw [e]
      dsimp only
      by_cases h1 : c = 0 ∨ A n ≠ (c : Int) - 1
      · rw [if_pos h1, if_pos (by omega)]
      · rw [if_neg h1, if_neg (by omega), show ((c : Int) - 1).toNat = c - 1 by omega]
        rfl
theorem trI_cnt {K A B : Nat → Int} {n : Nat} (h : K n = 5) : trI K A B n = if n = 0 ∨ A n ≠ (n : Int) - 1 then -1 else trI K A B (n - 1) := by
  have h2 : ¬ twoK K n = true := by unfold twoK; simp; omega
  have h3 : cntK K n = true := decide_eq_true h
  conv => lhs; unfold trI
  rw [tr_cnt _ _ _ _ h2 h3]
  by_cases h0 : n = 0 ∨ A n ≠ (n : Int) - 1
  · rw [if_pos h0, if_pos h0]
  · rw [if_neg h0, if_neg h0]; rfl
theorem trI_leaf {K A B : Nat → Int} {n : Nat} (h : ¬ (K n = 3 ∨ K n = 4)) (h' : ¬ K n = 5) : trI K A B n = n := by
  unfold trI
  rw [tr_leaf _ _ _ _ (by unfold twoK; simpa using h) (by unfold cntK; simpa using h')]
set_option maxHeartbeats 1000000 in
theorem s_tree_neg (v : Value) (w : World) : Calls Tryz.prog 48 #[v, .int .i64 (-1)] w fun e w' => e = .returned (.int .i64 (-1)) ∧ w' = w := by
  go_enter Tryz.func48, Tryz.ntmps48
  go_wp2
  go_ret
  exact ⟨rfl, rfl⟩
set_option maxRecDepth 100000 in
set_option maxHeartbeats 4000000 in
theorem s_tree (b off len cap : Nat) (K A B : Nat → Int) (w : World) (hlen : len ≤ 1048576) (hN : NodesAt w b off len K A B) : ∀ (m n : Nat), n < m → n < len →
    Calls Tryz.prog 48 #[.slice (some ⟨b, off, none⟩) len cap, .int .i64 n] w fun e w' => e = .returned (.int .i64 (trI K A B n)) ∧ w' = w
  | 0, n, hm, hn => by omega
  | m + 1, n, hm, hn => by
    have IH : Hid (∀ k : Nat, k < m → k < len → Calls Tryz.prog 48 #[.slice (some ⟨b, off, none⟩) len cap, .int .i64 k] w fun e w' => e = .returned (.int .i64 (trI K A B k)) ∧ w' = w) := hide (fun k hk hl => s_tree b off len cap K A B w hlen hN m k hk hl)
    obtain ⟨c0, c3, c4⟩ := hN n hn
    have hi : (n : Int) < (len : Int) := by omega
    have hi0 : (0 : Int) ≤ (n : Int) := by omega
    have hi1 : ¬ (n : Int) < 0 := by omega
    obtain ⟨x, hx⟩ : ∃ x, K n = x := ⟨_, rfl⟩
    obtain ⟨y, hy⟩ : ∃ y, A n = y := ⟨_, rfl⟩
    obtain ⟨z, hz⟩ : ∃ z, B n = z := ⟨_, rfl⟩
    rw [hx] at c0
    rw [hy] at c3
    rw [hz] at c4
    by_cases h2 : K n = 3 ∨ K n = 4
    · have HE := hide (trI_two (A := A) (B := B) h2)
      by_cases hb : z = (n : Int) - 1
      · by_cases h0 : n = 0
        · subst h0
          simp only [Nat.zero_mul, Nat.add_zero] at c0 c3 c4
          have HR : Hid (trI K A B 0 = -1) := hide (by rw [HE.out, if_pos (.inl rfl)])
          subst hb
          rcases h2 with h2 | h2
          all_goals
            rw [hx] at h2
            subst h2
            clear HE hx hy hz
            go_enter Tryz.func48, Tryz.ntmps48
            go_wp2_with fail
            refine (s_tree_neg _ _).mono ?_
            rintro e w' ⟨rfl, rfl⟩
            go_wp2
            go_ret
            exact ⟨ret_i (by rw [HR.out]), rfl⟩
        · have t1 := trI_le K A B (n - 1)
          have t2 := trI_ge K A B (n - 1)
          obtain ⟨t, ht⟩ : ∃ t, trI K A B (n - 1) = t := ⟨_, rfl⟩
          rw [ht] at t1 t2
          have HE2 : Hid (trI K A B n = if t < 1 ∨ y ≠ t - 1 then -1 else trI K A B (t - 1).toNat) := hide (by rw [HE.out, if_neg (by rw [hz]; omega), ht, hy])
          have HTT := hide ht
          have hb2 : (z != (n : Int) - 1) = false := by simp; omega
          subst hb
          rcases h2 with h2 | h2
          all_goals
            rw [hx] at h2
            subst h2
            clear HE hx hy hz ht
            go_enter Tryz.func48, Tryz.ntmps48
            go_wp2_with fail
            rw [show ((n : Int) - 1) = ((n - 1 : Nat) : Int) by omega]
            refine (IH.out (n - 1) (by omega) (by omega)).mono ?_
            rintro e w' ⟨rfl, rfl⟩
            rw [HTT.out]
            by_cases q1 : t < 1
            · go_wp2
              go_ret
              exact ⟨ret_i (HE2.out.trans (if_pos (.inl q1))).symm, rfl⟩
            · by_cases q2 : y = t - 1
              · have q3 : (y != t - 1) = false := by simp; omega
                have HK := hide (IH.out (t - 1).toNat (by omega) (by omega))
                have HF : Hid (trI K A B n = trI K A B (t - 1).toNat) := hide (by rw [HE2.out, if_neg (by omega)])
                go_wp2_with fail
                rw [show t - 1 = (((t - 1).toNat : Nat) : Int) by omega]
                refine HK.out.mono ?_
                rintro e w' ⟨rfl, rfl⟩
                go_wp2
                go_ret
                exact ⟨ret_i (by rw [HF.out, show t.toNat - 1 = (t - 1).toNat by omega]), rfl⟩
              · have q3 : (y != t - 1) = true := by simp; omega
                go_wp2
                go_ret
                exact ⟨ret_i (HE2.out.trans (if_pos (.inr q2))).symm, rfl⟩
      · have HR : Hid (trI K A B n = -1) := hide (by rw [HE.out, if_pos (.inr (by rw [hz]; exact hb))])
        have hb2 : (z != (n : Int) - 1) = true := by simp; omega
        rcases h2 with h2 | h2
        all_goals
          rw [hx] at h2
          subst h2
          clear HE hx hy hz
          go_enter Tryz.func48, Tryz.ntmps48
          go_wp2
          go_ret
          exact ⟨ret_i (by rw [HR.out]), rfl⟩
    · by_cases h5 : K n = 5
      · have HE := hide (trI_cnt (A := A) (B := B) h5)
        rw [hx] at h5
        subst h5
        by_cases hb : y = (n : Int) - 1
        · by_cases h0 : n = 0
          · subst h0
            simp only [Nat.zero_mul, Nat.add_zero] at c0 c3 c4
            have HR : Hid (trI K A B 0 = -1) := hide (by rw [HE.out, if_pos (.inl rfl)])
            subst hb
            clear HE hx hy hz h2
            go_enter Tryz.func48, Tryz.ntmps48
            go_wp2_with fail
            refine (s_tree_neg _ _).mono ?_
            rintro e w' ⟨rfl, rfl⟩
            go_wp2
            go_ret
            exact ⟨ret_i (by rw [HR.out]), rfl⟩
          · have HR : Hid (trI K A B n = trI K A B (n - 1)) := hide (by rw [HE.out, if_neg (by rw [hy]; omega)])
            have hb2 : (y != (n : Int) - 1) = false := by simp; omega
            subst hb
            clear HE hx hy hz h2
            go_enter Tryz.func48, Tryz.ntmps48
            go_wp2_with fail
            rw [show ((n : Int) - 1) = ((n - 1 : Nat) : Int) by omega]
            refine (IH.out (n - 1) (by omega) (by omega)).mono ?_
            rintro e w' ⟨rfl, rfl⟩
            go_wp2
            go_ret
            exact ⟨ret_i (by rw [HR.out]), rfl⟩
        · have HR : Hid (trI K A B n = -1) := hide (by rw [HE.out, if_pos (.inr (by rw [hy]; exact hb))])
          have hb2 : (y != (n : Int) - 1) = true := by simp; omega
          clear HE hx hy hz h2
          go_enter Tryz.func48, Tryz.ntmps48
          go_wp2
          go_ret
          exact ⟨ret_i (by rw [HR.out]), rfl⟩
      · have HR := hide (trI_leaf (A := A) (B := B) h2 h5)
        have n3 : (x == 3) = false := by rw [← hx]; simp; omega
        have n4 : (x == 4) = false := by rw [← hx]; simp; omega
        have n5 : (x == 5) = false := by rw [← hx]; simp; omega
        clear h2 h5 hx hy hz
        go_enter Tryz.func48, Tryz.ntmps48
        go_wp2
        go_ret
        exact ⟨ret_i (by rw [HR.out]), rfl⟩
end Go.Proofs.YtepommmmmfaihaaGreatDoor
