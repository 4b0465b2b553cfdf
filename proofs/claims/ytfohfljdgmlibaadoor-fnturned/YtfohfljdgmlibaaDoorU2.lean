/-
  Texts put together: PnRow, RegInv, RegLast.
-/
import Derived.Test.YtfohfljdgmlibaaDoorU1
import Derived.Deep.RegionWith
import Derived.Deep.RegionHeld3
import Derived.Lib.SmallJoins
import Derived.Orders
import Derived.RegionTactic
import Derived.WalkKit
/-
  Contracts of the laws' helpers on rows of model nodes: how much they hold, a copy in new memory.
-/
namespace Go.Proofs.YtfohfljdgmlibaaDoor
open Go.RowKit Go.Joins
set_option linter.unusedVariables false
set_option linter.unusedSimpArgs false
theorem ret_iI {a b : Int} (h : a = b) : Ending.returned (.int .i64 a) = .returned (.int .i64 b) := by rw [h]
def sumN (f : Nat → Nat) : Nat → Nat
  | 0 => 0
  | k + 1 => sumN f k + f k
theorem sumN_le (f : Nat → Nat) {a b : Nat} (h : a ≤ b) : sumN f a ≤ sumN f b := by
  induction b with
  | zero => have : a = 0 := by omega
            subst this; exact Nat.le_refl _
  | succ b ih =>
    by_cases e : a = b + 1
    · subst e; exact Nat.le_refl _
    · have := ih (by omega)
      show sumN f a ≤ sumN f b + f b
      omega
theorem sumN_at (f : Nat → Nat) {a b : Nat} (h : a < b) : sumN f a + f a ≤ sumN f b := sumN_le f (a := a + 1) h
/-- What is left of 'left' when 'x' is taken away; -1: not so much was there. -/
def dn (left : Int) (x : Nat) : Int := if (x : Int) ≤ left then left - x else -1
theorem dn_yes {left : Int} {x : Nat} (h : (x : Int) ≤ left) : dn left x = left - x := by unfold dn; rw [if_pos h]
theorem dn_no {left : Int} {x : Nat} (h : ¬ (x : Int) ≤ left) : dn left x = -1 := by unfold dn; rw [if_neg h]
theorem heap_setCell_size (w : World) (p : Addr) (v : Value) : (w.setCell p v).heap.size = w.heap.size := by simp [World.setCell]
theorem heap_setCell_far (w : World) (p : Addr) (v : Value) (G : Nat) (h : p.block ≠ G) : (w.setCell p v).heap[G]? = w.heap[G]? := by
  simp [World.setCell, Array.getElem?_modify, h]
theorem own_after {w w' : World} {B e size n : Nat} {v : Value} {xs : List Value} (h : w.ownsRow B e size v n xs) (hb : Below w.heap.size w w') : w'.ownsRow B e size v n xs := gOwn_after h hb
theorem own_someN {w : World} {B g n t size : Nat} {xs : List Value} (h : w.ownsRow B t size (.slice (some ⟨g, 0, none⟩) n n) n xs) (j : Nat) (hj : j < n * size) : ∃ v, w.cell? ⟨g, j, none⟩ = some v := by
  rw [h.cellAt j hj]
  exact ⟨_, List.getElem?_eq_getElem (by rw [h.1]; exact hj)⟩
theorem rwAt_go {k : IntKind} {w w' : World} {a : Option Addr} {xs : List Int} {B : Nat} (h : RowAt k w a xs B) (hb : Below B w w') : RowAt k w' a xs B := fun h0 => by
  obtain ⟨b, off, e, hl, hc⟩ := h h0
  exact ⟨b, off, e, hl, fun j hj => (hb.cell (p := ⟨b, off + j, none⟩) hl).trans (hc j hj)⟩
theorem rwAt_up {k : IntKind} {w : World} {a : Option Addr} {xs : List Int} {B B' : Nat} (h : RowAt k w a xs B) (hB : B ≤ B') : RowAt k w a xs B' := fun h0 => by
  obtain ⟨b, off, e, hl, hc⟩ := h h0
  exact ⟨b, off, e, Nat.lt_of_lt_of_le hl hB, hc⟩
theorem rwAt_set {k : IntKind} {w : World} {g : Nat} {xs : List Int} {B : Nat} (h : RowAt k w (some ⟨g, 0, none⟩) xs B) (p : Addr) (v : Value) (hne : p.block ≠ g) : RowAt k (w.setCell p v) (some ⟨g, 0, none⟩) xs B := fun h0 => by
  obtain ⟨b, off, e, hb, hc⟩ := h h0
  simp only [Option.some.injEq, Addr.mk.injEq] at e
  obtain ⟨rfl, rfl, -⟩ := e
  exact ⟨g, 0, rfl, hb, fun j hj => by rw [World.cell?_setCell_far _ _ _ _ hne]; exact hc j hj⟩
theorem own_rowAt9 {w : World} {B n c : Nat} {ad : Option Addr} {t : TypeId} {xs : List Int} (h : w.ownsRow B t 1 (.slice ad n c) n (xs.map (Value.int .i64))) : RowAt .i64 w ad xs w.heap.size := fun h0 => by
  have hl := h.1
  rcases h.2 with ⟨-, hz⟩ | ⟨g, cap, cur, hv, hB, hh, -, -, -, hx⟩
  · exact absurd (List.length_eq_zero_iff.1 (by rw [hz] at hl; simpa using hl)) h0
  · simp only [Value.slice.injEq] at hv
    obtain ⟨rfl, -, rfl⟩ := hv
    refine ⟨g, 0, rfl, (Array.getElem?_eq_some_iff.1 hh).1, fun j hj => ?_⟩
    have hn : xs.length = n := by simpa using hl
    have := h.cellAt j (by omega)
    rw [Nat.zero_add, this, List.getElem?_map, List.getElem?_eq_getElem hj]
    rfl
/-- A row of model nodes. -/
structure Pn where
  n : Nat
  K : Nat → Int
  NM : Nat → ByteArray
  KL : Nat → List Int
  OC : Nat → Int
def PnCells (w : World) (b o : Nat) (D : Pn) (j : Nat) (ad : Option Addr) (cp : Nat) : Prop := w.cell? ⟨b, o, none⟩ = some (.int .i64 (D.K j)) ∧ w.cell? ⟨b, o + 1, none⟩ = some (.string (D.NM j)) ∧ w.cell? ⟨b, o + 2, none⟩ = some (.slice ad (D.KL j).length cp) ∧ w.cell? ⟨b, o + 3, none⟩ = some (.int .i64 (D.OC j))
def PnRow (w : World) (b off : Nat) (D : Pn) (B : Nat) : Prop := ∀ j, j < D.n → ∃ ad cp, PnCells w b (off + j * 4) D j ad cp ∧ RowAt .i64 w ad (D.KL j) B ∧ (D.KL j).length ≤ cp
def PnAt (w : World) (a : Option Addr) (D : Pn) (B : Nat) : Prop := 0 < D.n → ∃ b off, a = some ⟨b, off, none⟩ ∧ b < B ∧ PnRow w b off D B
theorem pnCells_go {w w' : World} {b o : Nat} {D : Pn} {j : Nat} {ad : Option Addr} {cp B : Nat} (h : PnCells w b o D j ad cp) (hb : b < B) (k : Below B w w') : PnCells w' b o D j ad cp := by
  obtain ⟨h0, h1, h2, h3⟩ := h
  exact ⟨(k.cell (p := ⟨b, o, none⟩) hb).trans h0, (k.cell (p := ⟨b, o + 1, none⟩) hb).trans h1, (k.cell (p := ⟨b, o + 2, none⟩) hb).trans h2, (k.cell (p := ⟨b, o + 3, none⟩) hb).trans h3⟩
theorem pnRow_go {w w' : World} {b off : Nat} {D : Pn} {B : Nat} (h : PnRow w b off D B) (hb : b < B) (k : Below B w w') : PnRow w' b off D B := fun j hj => by
  obtain ⟨ad, cp, hc, hr, hl⟩ := h j hj
  exact ⟨ad, cp, pnCells_go hc hb k, rwAt_go hr k, hl⟩
theorem pnRow_up {w : World} {b off : Nat} {D : Pn} {B B' : Nat} (h : PnRow w b off D B) (k : B ≤ B') : PnRow w b off D B' := fun j hj => by
  obtain ⟨ad, cp, hc, hr, hl⟩ := h j hj
  exact ⟨ad, cp, hc, rwAt_up hr k, hl⟩
theorem pnAt_go {w w' : World} {a : Option Addr} {D : Pn} {B : Nat} (h : PnAt w a D B) (k : Below B w w') : PnAt w' a D B := fun h0 => by
  obtain ⟨b, off, e, hb, hr⟩ := h h0
  exact ⟨b, off, e, hb, pnRow_go hr hb k⟩
theorem pnAt_up {w : World} {a : Option Addr} {D : Pn} {B B' : Nat} (h : PnAt w a D B) (k : B ≤ B') : PnAt w a D B' := fun h0 => by
  obtain ⟨b, off, e, hb, hr⟩ := h h0
  exact ⟨b, off, e, Nat.lt_of_lt_of_le hb k, pnRow_up hr k⟩
/-- The sizes that a row in memory can have. -/
def PnSz (D : Pn) : Prop := D.n ≤ maxLen ∧ ∀ j, j < D.n → (D.NM j).size ≤ maxLen ∧ (D.KL j).length ≤ maxLen
def pnSz (D : Pn) (j : Nat) : Nat := (D.NM j).size + (D.KL j).length
def pnTot (D : Pn) : Nat := D.n + sumN (pnSz D) D.n
theorem pn_sz {D : Pn} (h : pnTot D ≤ 1048576) : D.n ≤ 1048576 ∧ ∀ j, j < D.n → (D.NM j).size ≤ 1048576 ∧ (D.KL j).length ≤ 1048576 := by
  unfold pnTot at h
  refine ⟨by omega, fun j hj => ?_⟩
  have h1 := sumN_at (pnSz D) hj
  have h2 : pnSz D j = (D.NM j).size + (D.KL j).length := rfl
  omega
theorem box_belowI {w w1 : World} {c : Array Value} {t : TypeId} (h : Below (w.alloc (.cells c t)).heap.size (w.alloc (.cells c t)) w1) : Below w.heap.size w w1 :=
  ((Below.refl w.heap.size w).alloc (Nat.le_refl _) _).trans (h.mono (by simp))
/-- A node lies in block G. -/
def NdAt (w : World) (G : Nat) (k : Int) (nm : ByteArray) (a : Option Addr) (n c : Nat) (oc : Int) : Prop :=
  ∃ T, w.heap[G]? = some (.cells #[.int .i64 k, .string nm, .slice a n c, .int .i64 oc] T (0, 0))
section
variable {w w1 : World} {G : Nat} {k : Int} {nm : ByteArray} {a : Option Addr} {n c : Nat} {oc : Int}
theorem ndAt_lt (h : NdAt w G k nm a n c oc) : G < w.heap.size := by
  obtain ⟨T, h⟩ := h
  exact (Array.getElem?_eq_some_iff.1 h).1
theorem ndAt_go (h : NdAt w G k nm a n c oc) (hb : Below w.heap.size w w1) : NdAt w1 G k nm a n c oc := by
  have hl := ndAt_lt h
  obtain ⟨T, h⟩ := h
  exact ⟨T, (hb.block G hl).trans h⟩
theorem ndAt_new (w : World) (k : Int) (nm : ByteArray) (a : Option Addr) (n c : Nat) (oc : Int) (T : TypeId) : NdAt (w.alloc (.cells #[.int .i64 k, .string nm, .slice a n c, .int .i64 oc] T)) w.heap.size k nm a n c oc := ⟨T, heap_alloc_new w _⟩
theorem ndAt_cells (h : NdAt w G k nm a n c oc) : w.cell? ⟨G, 0, none⟩ = some (.int .i64 k) ∧ w.cell? ⟨G, 1, none⟩ = some (.string nm) ∧ w.cell? ⟨G, 2, none⟩ = some (.slice a n c) ∧ w.cell? ⟨G, 3, none⟩ = some (.int .i64 oc) := by
  obtain ⟨T, h⟩ := h
  have e : ∀ i, w.cell? ⟨G, i, none⟩ = (#[.int .i64 k, .string nm, .slice a n c, .int .i64 oc] : Array Value)[i]? := fun i => by rw [cell_of_row w G i _ T (0, 0) h]
  exact ⟨e 0, e 1, e 2, e 3⟩
theorem ndAt_frozen (h : NdAt w G k nm a n c oc) (i : Nat) : w.frozen? ⟨G, i, none⟩ = false := by
  obtain ⟨T, h⟩ := h
  simp [World.frozen?, h]
theorem ndAt_far (h : NdAt w G k nm a n c oc) (p : Addr) (v : Value) (hne : p.block ≠ G) : NdAt (w.setCell p v) G k nm a n c oc := by
  obtain ⟨T, h⟩ := h
  exact ⟨T, by rw [heap_setCell_far _ _ _ _ hne]; exact h⟩
theorem ndAt_sets {k' : Int} {nm' : ByteArray} {a' : Option Addr} {n' c' : Nat} {oc' : Int} (h : NdAt w G k nm a n c oc) :
    NdAt ((((w.setCell ⟨G, 0, none⟩ (.int .i64 k')).setCell ⟨G, 1, none⟩ (.string nm')).setCell ⟨G, 2, none⟩ (.slice a' n' c')).setCell ⟨G, 3, none⟩ (.int .i64 oc')) G k' nm' a' n' c' oc' := by
  obtain ⟨T, h0⟩ := h
  have h1 := block_setCell (i := 0) h0 (.int .i64 k')
  have h2 := block_setCell (i := 1) h1 (.string nm')
  have h3 := block_setCell (i := 2) h2 (.slice a' n' c')
  have h4 := block_setCell (i := 3) h3 (.int .i64 oc')
  exact ⟨T, by simpa using h4⟩
end
theorem box_node {w w2 : World} {k : Int} {nm : ByteArray} {a : Option Addr} {n c : Nat} {oc : Int} {T : TypeId} (hb : Below (w.alloc (.cells #[.int .i64 k, .string nm, .slice a n c, .int .i64 oc] T)).heap.size (w.alloc (.cells #[.int .i64 k, .string nm, .slice a n c, .int .i64 oc] T)) w2) :
    NdAt w2 w.heap.size k nm a n c oc ∧ Below w.heap.size w w2 := ⟨ndAt_go (ndAt_new w k nm a n c oc T) hb, ((Below.refl w.heap.size w).alloc (Nat.le_refl _) _).trans (hb.mono (by simp))⟩
end Go.Proofs.YtfohfljdgmlibaaDoor

/-
  Plain facts, of no program: a region that draws its order of evaluation, by an invariant: what each operation leaves in its place, whatever came up ahead of it.
-/
namespace Go.Proofs.YtfohfljdgmlibaaDoor
open Go.RowKit
set_option linter.unusedVariables false
set_option linter.unusedSimpArgs false
theorem filter_less {p p' : Nat → Bool} {i : Nat} (hpp : ∀ k, p' k = true → p k = true) (hi : p i = true) (hi' : p' i = false) : ∀ (xs : List Nat), i ∈ xs → (xs.filter p').length < (xs.filter p).length
  | [], h => by cases h
  | x :: xs, h => by
    have hle : ∀ ys : List Nat, (ys.filter p').length ≤ (ys.filter p).length := by
      intro ys
      induction ys with
      | nil => simp
      | cons y ys ih =>
        by_cases hy : p' y = true
        · rw [List.filter_cons_of_pos hy, List.filter_cons_of_pos (hpp y hy)]; simpa using ih
        · rw [List.filter_cons_of_neg hy]
          by_cases hz : p y = true
          · rw [List.filter_cons_of_pos hz, List.length_cons]; omega
          · rw [List.filter_cons_of_neg hz]; exact ih
    rcases List.mem_cons.1 h with e | e
    · subst e
      rw [List.filter_cons_of_neg (by rw [hi']; decide), List.filter_cons_of_pos hi, List.length_cons]
      have := hle xs
      omega
    · have ih := filter_less hpp hi hi' xs e
      by_cases hy : p' x = true
      · rw [List.filter_cons_of_pos hy, List.filter_cons_of_pos (hpp x hy)]; simpa using ih
      · rw [List.filter_cons_of_neg hy]
        by_cases hz : p x = true
        · rw [List.filter_cons_of_pos hz, List.length_cons]; omega
        · rw [List.filter_cons_of_neg hz]; exact ih
section
variable {P : Program} {ops : Array Oper} {Q : Exit → Act → World → Prop}
/-- How many operations have not come up yet. -/
def left (n : Nat) (l : Array Bool) : Nat := ((List.range n).filter fun k => !(l.getD k true)).length
theorem left_less {n i : Nat} {l : Array Bool} (hi : i < n) (h : l.getD i true = false) : left n (l.setIfInBounds i true) < left n l := by
  have hsz : i < l.size := by
    rcases Nat.lt_or_ge i l.size with h' | h'
    · exact h'
    · rw [Array.getD_eq_getD_getElem?, Array.getElem?_eq_none h'] at h; simp at h
  refine filter_less (i := i) (fun k hk => ?_) (by simp [h]) ?_ _ (List.mem_range.2 hi)
  · by_cases e : i = k
    · subst e; simp [h]
    · rw [getD_set_ne true e] at hk; exact hk
  · rw [Array.getD_eq_getD_getElem?]
    simp [hsz]
theorem wpAny_inv (I : Array Bool → Act → World → Prop)
    (hdone : ∀ l a w, I l a w → Region.ready .any ops l = [] → Q .normal a w)
    (hstep : ∀ l a w i, I l a w → i ∈ Region.ready .any ops l → wpOp P ops Q i (I (l.setIfInBounds i true)) a w) :
    ∀ (fuel : Nat) (l : Array Bool) (a : Act) (w : World), left ops.size l ≤ fuel → I l a w → wpAny P .any ops Q fuel l a w := by
  have hlt : ∀ (l : Array Bool) (i : Nat), i ∈ Region.ready .any ops l → i < ops.size ∧ l.getD i true = false := by
    intro l i hi
    obtain ⟨h0, o, ho, _⟩ := mem_ready.1 hi
    exact ⟨(Array.getElem?_eq_some_iff.1 ho).1, h0⟩
  intro fuel
  induction fuel with
  | zero =>
    intro l a w hf hI
    have hnil : Region.ready .any ops l = [] := by
      cases hr : Region.ready .any ops l with
      | nil => rfl
      | cons i is =>
        obtain ⟨h1, h2⟩ := hlt l i (by rw [hr]; exact List.mem_cons_self ..)
        have := left_less h1 h2
        omega
    exact ⟨hnil, hdone l a w hI hnil⟩
  | succ fuel ih =>
    intro l a w hf hI
    refine ⟨hdone l a w hI, fun i hi => ?_⟩
    obtain ⟨h1, h2⟩ := hlt l i hi
    have := left_less h1 h2
    exact wpOp_mono (fun a' w' h' => ih _ a' w' (by omega) h') (hstep l a w i hI hi)
/-- A region that draws its order: 'V i' is what operation 'i' leaves at its place 'D i' of the frame 'A'; 'J' is what holds of the world throughout. -/
theorem wp_region_inv {id : Nat} {w : World} (hm : P.follows .mixedOrders = true)
    (hlow : (List.range ops.size).all (fun i => ((ops[i]?).map fun o => o.after.all fun e => !(Region.binds .any e) || decide (e.on < i)).getD true) = true)
    (A : (Nat → Value) → Act) (D : Nat → Nat) (V : Nat → Value → World → Prop) (J : World → Prop) (u0 : Nat → Value) (hJ : J { w with drawn := w.drawn + 1 })
    (hput : ∀ i o, ops[i]? = some o → ∀ u v, (A u).put o.dst v = A (fun k => if k = D i then v else u k))
    (hD : ∀ i k, i < ops.size → k < ops.size → i ≠ k → D i ≠ D k)
    (step : ∀ i o, ops[i]? = some o → ∀ u w, J w → (∀ e ∈ o.after, Region.binds .any e = true → V e.on (u (D e.on)) w) →
      ∀ K : Act → World → Prop, (∀ v w', J w' → V i v w' → (∀ k x, V k x w → V k x w') → K ((A u).put o.dst v) w') →
        if Region.wanted o (yielded ops (A u).tmps) = true then Oper.wp P o (A u) w K Q else K ((A u).put o.dst undef) w)
    (done : ∀ u w, J w → (∀ k, k < ops.size → V k (u (D k)) w) → Q .normal (A u) w) :
    (Code.region id ops true).wp P Q (A u0) w := by
  refine wp_region_any hm ?_
  refine wpAny_inv (fun l a w => l.size = ops.size ∧ J w ∧ ∃ u, a = A u ∧ ∀ k, k < ops.size → l.getD k false = true → V k (u (D k)) w) ?_ ?_ _ _ _ _ ?_ ?_
  · rintro l a w ⟨hl, hj, u, rfl, hV⟩ hr
    refine done u w hj (fun k hk => hV k hk ?_)
    have all : ∀ (n : Nat), n ≤ ops.size → ∀ k, k < n → l.getD k false = true := by
      intro n
      induction n with
      | zero => intro _ k hk; omega
      | succ n ih =>
        intro hn k hk
        by_cases e : k < n
        · exact ih (by omega) k e
        · have e : k = n := by omega
          subst e
          have hks : k < ops.size := by omega
          cases hb : l.getD k true with
          | true =>
            rw [Array.getD_eq_getD_getElem?, Array.getElem?_eq_getElem (by omega)] at hb ⊢
            simpa using hb
          | false =>
            exfalso
            have hmem : k ∈ Region.ready .any ops l := by
              refine mem_ready.2 ⟨hb, ops[k], Array.getElem?_eq_getElem hks, fun e he hbd => ?_⟩
              have h1 := List.all_eq_true.1 hlow k (List.mem_range.2 hks)
              rw [Array.getElem?_eq_getElem hks] at h1
              simp only [Option.map_some, Option.getD_some] at h1
              have h2 := Array.all_eq_true_iff_forall_mem.1 h1 e he
              rw [hbd] at h2
              exact ih (by omega) e.on (of_decide_eq_true (by simpa using h2))
            rw [hr] at hmem
            cases hmem
    exact all ops.size (Nat.le_refl _) k hk
  · rintro l a w i ⟨hl, hj, u, rfl, hV⟩ hi
    obtain ⟨h0, o, ho, hdep⟩ := mem_ready.1 hi
    have hilt := (Array.getElem?_eq_some_iff.1 ho).1
    refine wpOp_step ho (fun K' hK => ?_)
    refine step i o ho u w hj (fun e he hb => ?_) K' (fun v w' hj' hv hmono => ?_)
    · have h1 := List.all_eq_true.1 hlow i (List.mem_range.2 hilt)
      rw [ho] at h1
      simp only [Option.map_some, Option.getD_some] at h1
      have h2 := Array.all_eq_true_iff_forall_mem.1 h1 e he
      rw [hb] at h2
      have h3 : e.on < i := of_decide_eq_true (by simpa using h2)
      exact hV e.on (by omega) (hdep e he hb)
    · refine hK _ _ ⟨by simp [hl], hj', _, hput i o ho u v, fun k hk hl' => ?_⟩
      by_cases e : i = k
      · subst e; simpa using hv
      · have hd := hD k i hk hilt (fun h => e h.symm)
        rw [if_neg hd]
        rw [getD_set_ne false e] at hl'
        exact hmono k _ (hV k hk hl')
  · have : left ops.size (Array.replicate ops.size false) ≤ (List.range ops.size).length := List.length_filter_le _ _
    simpa using this
  · refine ⟨by simp, hJ, u0, rfl, fun k hk hl => ?_⟩
    rw [Array.getD_eq_getD_getElem?] at hl
    simp [hk] at hl
end
end Go.Proofs.YtfohfljdgmlibaaDoor

/-
  Plain facts, of no program: a region that draws its order and whose last operation is always the same: what holds ahead of it need not hold behind it; what one operation alone uses is given up when it came up.
-/
namespace Go.Proofs.YtfohfljdgmlibaaDoor
open Go.RowKit
set_option linter.unusedVariables false
set_option linter.unusedSimpArgs false
section
variable {P : Program} {ops : Array Oper} {Q : Exit → Act → World → Prop}
theorem getD_ff {l : Array Bool} {i : Nat} (h : l.getD i true = false) : l.getD i false = false := by
  rw [Array.getD_eq_getD_getElem?] at h ⊢
  cases hx : l[i]? with
  | none => rfl
  | some b => rw [hx] at h; exact h
theorem getD_self {l : Array Bool} {i : Nat} (h : i < l.size) : (l.setIfInBounds i true).getD i false = true := by
  rw [Array.getD_eq_getD_getElem?]
  simp [h]
theorem wp_region_last {id : Nat} {w : World} (hm : P.follows .mixedOrders = true)
    (hlow : (List.range ops.size).all (fun i => ((ops[i]?).map fun o => o.after.all fun e => !(Region.binds .any e) || decide (e.on < i)).getD true) = true)
    (A : (Nat → Value) → Act) (D : Nat → Nat) (V : Nat → Value → World → Prop) (J J' : World → Prop) (u0 : Nat → Value) (C : Nat → Option Nat) (need : Nat → Nat → Bool) (L : Nat) (hL : L < ops.size) (hJ : J { w with drawn := w.drawn + 1 })
    (hput : ∀ i o, ops[i]? = some o → ∀ u v, (A u).put o.dst v = A (fun k => if k = D i then v else u k))
    (hD : ∀ i k, i < ops.size → k < ops.size → i ≠ k → D i ≠ D k)
    (hall : ∀ l : Nat → Bool, (∀ i o, ops[i]? = some o → l i = true → ∀ e ∈ o.after, Region.binds .any e = true → l e.on = true) → l L = true → ∀ k, k < ops.size → l k = true)
    (hneed : ∀ l : Nat → Bool, (∀ i o, ops[i]? = some o → l i = true → ∀ e ∈ o.after, Region.binds .any e = true → l e.on = true) → ∀ i o, ops[i]? = some o → (∀ e ∈ o.after, Region.binds .any e = true → l e.on = true) → l i = false → ∀ k, k < ops.size → need k i = false → l k = true → ∃ j, C k = some j ∧ (l j = true ∨ j = i))
    (step : ∀ i o, ops[i]? = some o → i ≠ L → ∀ u w, J w → (∀ e ∈ o.after, Region.binds .any e = true → (C e.on = none ∨ C e.on = some i) → V e.on (u (D e.on)) w) →
      ∀ K : Act → World → Prop, (∀ v w', J w' → V i v w' → (∀ k x, need k i = true → V k x w → V k x w') → K ((A u).put o.dst v) w') →
        if Region.wanted o (yielded ops (A u).tmps) = true then Oper.wp P o (A u) w K Q else K ((A u).put o.dst undef) w)
    (last : ∀ o, ops[L]? = some o → ∀ u w, J w → (∀ k, k < ops.size → k ≠ L → (C k = none ∨ C k = some L) → V k (u (D k)) w) →
      ∀ K : Act → World → Prop, (∀ v w', J' w' → K ((A u).put o.dst v) w') →
        if Region.wanted o (yielded ops (A u).tmps) = true then Oper.wp P o (A u) w K Q else K ((A u).put o.dst undef) w)
    (done : ∀ u w, J' w → Q .normal (A u) w) :
    (Code.region id ops true).wp P Q (A u0) w := by
  refine wp_region_any hm ?_
  refine wpAny_inv (fun l a w => l.size = ops.size ∧ (∀ i o, ops[i]? = some o → l.getD i false = true → ∀ e ∈ o.after, Region.binds .any e = true → l.getD e.on false = true) ∧ (l.getD L false = true → J' w ∧ ∃ u, a = A u) ∧ (l.getD L false = false → J w ∧ ∃ u, a = A u ∧ ∀ k, k < ops.size → l.getD k false = true → (∀ j, C k = some j → l.getD j false = false) → V k (u (D k)) w)) ?_ ?_ _ _ _ _ ?_ ?_
  · rintro l a w ⟨hl, hcl, h1, h2⟩ hr
    have all : ∀ (n : Nat), n ≤ ops.size → ∀ k, k < n → l.getD k false = true := by
      intro n
      induction n with
      | zero => intro _ k hk; omega
      | succ n ih =>
        intro hn k hk
        by_cases e : k < n
        · exact ih (by omega) k e
        · have e : k = n := by omega
          subst e
          have hks : k < ops.size := by omega
          cases hb : l.getD k true with
          | true =>
            rw [Array.getD_eq_getD_getElem?, Array.getElem?_eq_getElem (by omega)] at hb ⊢
            simpa using hb
          | false =>
            exfalso
            have hmem : k ∈ Region.ready .any ops l := by
              refine mem_ready.2 ⟨hb, ops[k], Array.getElem?_eq_getElem hks, fun e he hbd => ?_⟩
              have h1 := List.all_eq_true.1 hlow k (List.mem_range.2 hks)
              rw [Array.getElem?_eq_getElem hks] at h1
              simp only [Option.map_some, Option.getD_some] at h1
              have h2 := Array.all_eq_true_iff_forall_mem.1 h1 e he
              rw [hbd] at h2
              exact ih (by omega) e.on (of_decide_eq_true (by simpa using h2))
            rw [hr] at hmem
            cases hmem
    obtain ⟨hj, u, rfl⟩ := h1 (all ops.size (Nat.le_refl _) L hL)
    exact done u w hj
  · rintro l a w i ⟨hl, hcl, h1, h2⟩ hi
    obtain ⟨h0, o, ho, hdep⟩ := mem_ready.1 hi
    have hilt := (Array.getElem?_eq_some_iff.1 ho).1
    have hif := getD_ff h0
    have hLf : l.getD L false = false := by
      cases hb : l.getD L false with
      | false => rfl
      | true =>
        have := hall (fun k => l.getD k false) hcl hb i hilt
        rw [hif] at this
        cases this
    obtain ⟨hj, u, rfl, hV⟩ := h2 hLf
    have hcl' : ∀ i' o', ops[i']? = some o' → (l.setIfInBounds i true).getD i' false = true → ∀ e ∈ o'.after, Region.binds .any e = true → (l.setIfInBounds i true).getD e.on false = true := by
      intro i' o' ho' hd e he hb
      have hk : l.getD e.on false = true := by
        by_cases e' : i = i'
        · subst e'
          rw [ho] at ho'
          cases ho'
          exact hdep e he hb
        · rw [getD_set_ne false e'] at hd
          exact hcl i' o' ho' hd e he hb
      by_cases e' : i = e.on
      · rw [← e'] at hk; rw [hif] at hk; cases hk
      · rw [getD_set_ne false e']; exact hk
    by_cases hiL : i = L
    · subst hiL
      refine wpOp_step ho (fun K' hK => ?_)
      have hallk : ∀ k, k < ops.size → (l.setIfInBounds i true).getD k false = true := hall (fun k => (l.setIfInBounds i true).getD k false) hcl' (getD_self (by omega))
      refine last o ho u w hj (fun k hk hkL hc => ?_) K' (fun v w' hj' => ?_)
      · have hkd := hallk k hk
        rw [getD_set_ne false (fun e => hkL e.symm)] at hkd
        refine hV k hk hkd (fun j hjc => ?_)
        rcases hc with hc | hc
        · rw [hc] at hjc; cases hjc
        · rw [hc] at hjc; cases hjc; exact hif
      · refine hK _ _ ⟨by simp [hl], hcl', fun _ => ⟨hj', _, hput i o ho u v⟩, fun hf => ?_⟩
        rw [getD_self (by omega)] at hf
        cases hf
    · refine wpOp_step ho (fun K' hK => ?_)
      refine step i o ho hiL u w hj (fun e he hb hc => ?_) K' (fun v w' hj' hv hmono => ?_)
      · have h1 := List.all_eq_true.1 hlow i (List.mem_range.2 hilt)
        rw [ho] at h1
        simp only [Option.map_some, Option.getD_some] at h1
        have h2 := Array.all_eq_true_iff_forall_mem.1 h1 e he
        rw [hb] at h2
        have h3 : e.on < i := of_decide_eq_true (by simpa using h2)
        refine hV e.on (by omega) (hdep e he hb) (fun j hjc => ?_)
        rcases hc with hc | hc
        · rw [hc] at hjc; cases hjc
        · rw [hc] at hjc; cases hjc; exact hif
      · refine hK _ _ ⟨by simp [hl], hcl', fun ht => ?_, fun _ => ⟨hj', _, hput i o ho u v, fun k hk hl' hcn => ?_⟩⟩
        · rw [getD_set_ne false hiL, hLf] at ht
          cases ht
        · by_cases e : i = k
          · subst e; simpa using hv
          · have hd := hD k i hk hilt (fun h => e h.symm)
            rw [if_neg hd]
            rw [getD_set_ne false e] at hl'
            refine hmono k _ ?_ (hV k hk hl' (fun j hjc => ?_))
            · cases hnd : need k i with
              | true => rfl
              | false =>
                exfalso
                obtain ⟨j, hjc, hj2⟩ := hneed (fun k => l.getD k false) hcl i o ho hdep hif k hk hnd hl'
                have hjn := hcn j hjc
                by_cases ej : i = j
                · subst ej
                  rw [getD_self (by omega)] at hjn
                  cases hjn
                · rw [getD_set_ne false ej] at hjn
                  rcases hj2 with hj2 | hj2
                  · have hj3 : l.getD j false = true := hj2
                    rw [hjn] at hj3; cases hj3
                  · exact ej hj2.symm
            · have hjn := hcn j hjc
              by_cases ej : i = j
              · subst ej; exact hif
              · rw [getD_set_ne false ej] at hjn; exact hjn
  · have : left ops.size (Array.replicate ops.size false) ≤ (List.range ops.size).length := List.length_filter_le _ _
    simpa using this
  · have hn : ∀ k, (Array.replicate ops.size false).getD k false = false := fun k => by
      rw [Array.getD_eq_getD_getElem?]
      by_cases hk : k < ops.size
      · simp [hk]
      · simp [hk]
    refine ⟨by simp, fun i o ho h => ?_, fun h => ?_, fun _ => ⟨hJ, u0, rfl, fun k hk h => ?_⟩⟩
    · rw [hn] at h; cases h
    · rw [hn] at h; cases h
    · rw [hn] at h; cases h
end
end Go.Proofs.YtfohfljdgmlibaaDoor
