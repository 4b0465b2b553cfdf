/-
  Texts put together: Base, Ints, Gen, PnRow.
-/
import Derived.WalkKit
import Derived.Below
import Derived.Test.YtfohfljdgmlibaaDoorChecked
import Derived.OwnWalk
import Derived.Laws.OwnMore
import Derived.RegionTactic
import Derived.Deep.QuietTactic
import Derived.BigQuiet
import Derived.Deep.Draws
import Derived.KernelRfl
import Derived.Deep.RegionWith
import Derived.Deep.RegionHeld3
import Derived.Lib.SmallJoins
/-
  Plain facts on bytes and names, of no program: what a name is, byte by byte.
-/
namespace Go.Proofs.YtfohfljdgmlibaaDoor
def firstB (c : Int) : Bool := decide ((97 ≤ c ∧ c ≤ 122) ∨ (65 ≤ c ∧ c ≤ 90) ∨ c = 95)
def digitB (c : Int) : Bool := decide (48 ≤ c ∧ c ≤ 57)
def moreB (c : Int) : Bool := decide ((97 ≤ c ∧ c ≤ 122) ∨ (65 ≤ c ∧ c ≤ 90) ∨ c = 95 ∨ (48 ≤ c ∧ c ≤ 57) ∨ c = 46 ∨ c = 45)
def at8 (s : ByteArray) (k : Nat) : Int := ((s.data.toList[k]?).getD 0).toNat
theorem at8_eq (s : ByteArray) (k : Nat) (h : k < s.size) : at8 s k = (s[k].toNat : Int) := by
  have h' : k < s.data.toList.length := by simpa using h
  unfold at8; rw [List.getElem?_eq_getElem h']; rfl
def nameB (s : ByteArray) : Bool := decide (1 ≤ s.size) && (decide (s.size ≤ 40) && (firstB (at8 s 0) && (List.range s.size).all fun j => j == 0 || moreB (at8 s j)))
theorem nameB_none (s : ByteArray) (h : s.size = 0) : nameB s = false := by simp [nameB, h]
theorem nameB_long (s : ByteArray) (h : 40 < s.size) : nameB s = false := by
  have : decide (s.size ≤ 40) = false := by simp; omega
  simp [nameB, this]
theorem nameB_first (s : ByteArray) (h0 : 0 < s.size) (h : firstB (s[0].toNat : Int) = false) : nameB s = false := by
  rw [← at8_eq s 0 h0] at h
  simp [nameB, h]
theorem nameB_more (s : ByteArray) (k : Nat) (h1 : 1 ≤ k) (hk : k < s.size) (h : moreB (s[k].toNat : Int) = false) : nameB s = false := by
  rw [← at8_eq s k hk] at h
  have : ((List.range s.size).all fun j => j == 0 || moreB (at8 s j)) = false := by
    rw [List.all_eq_false]
    refine ⟨k, by simpa using hk, ?_⟩
    have : (k == 0) = false := by simp; omega
    simp [this, h]
  simp [nameB, this]
theorem nameB_yes (s : ByteArray) (h0 : 0 < s.size) (h40 : s.size ≤ 40) (hf : firstB (s[0].toNat : Int) = true) (hm : ∀ j (h : j < s.size), 1 ≤ j → moreB (s[j].toNat : Int) = true) : nameB s = true := by
  rw [← at8_eq s 0 h0] at hf
  have : ((List.range s.size).all fun j => j == 0 || moreB (at8 s j)) = true := by
    rw [List.all_eq_true]
    intro j hj
    have hj' : j < s.size := by simpa using hj
    by_cases e : j = 0
    · simp [e]
    · have := hm j hj' (by omega)
      rw [← at8_eq s j hj'] at this
      simp [this]
  have h1 : decide (1 ≤ s.size) = true := by simp; omega
  have h2 : decide (s.size ≤ 40) = true := by simp; omega
  simp [nameB, this, h1, h2, hf]
theorem first_t {c : Int} (h : (97 ≤ c ∧ c ≤ 122) ∨ (65 ≤ c ∧ c ≤ 90) ∨ c = 95) : true = firstB c := (decide_eq_true h).symm
theorem first_f {c : Int} (h : ¬ ((97 ≤ c ∧ c ≤ 122) ∨ (65 ≤ c ∧ c ≤ 90) ∨ c = 95)) : false = firstB c := (decide_eq_false h).symm
theorem digit_t {c : Int} (h : 48 ≤ c ∧ c ≤ 57) : true = digitB c := (decide_eq_true h).symm
theorem digit_f {c : Int} (h : ¬ (48 ≤ c ∧ c ≤ 57)) : false = digitB c := (decide_eq_false h).symm
theorem more_t {c : Int} (h : (97 ≤ c ∧ c ≤ 122) ∨ (65 ≤ c ∧ c ≤ 90) ∨ c = 95 ∨ (48 ≤ c ∧ c ≤ 57) ∨ c = 46 ∨ c = 45) : true = moreB c := (decide_eq_true h).symm
theorem more_f {c : Int} (h : ¬ ((97 ≤ c ∧ c ≤ 122) ∨ (65 ≤ c ∧ c ≤ 90) ∨ c = 95 ∨ (48 ≤ c ∧ c ≤ 57) ∨ c = 46 ∨ c = 45)) : false = moreB c := (decide_eq_false h).symm
theorem hide {p : Prop} (h : p) : Go.RowKit.Hid p := h
def intOf : Value → Int | .int _ q => q | _ => 0
theorem ret_bool {a b : Bool} (h : a = b) : Ending.returned (.bool a) = .returned (.bool b) := by rw [h]
end Go.Proofs.YtfohfljdgmlibaaDoor

/-
  Contracts of the laws' helpers on rows of int64: a copy in new memory, and whether two rows are alike; nothing that was there is written.
-/
namespace Go.Proofs.YtfohfljdgmlibaaDoor
open Go.RowKit
set_option linter.unusedVariables false
set_option linter.unusedSimpArgs false

theorem info64 : (Tryd.prog.info? 2).map (fun i => (i.zero, i.size, i.bytes)) = some (some (.int .i64 0), 1, 8) := by kernel_rfl

/-- What is laid of a row of int64: its first 'n' cells hold 'xs', in a block below 'B'. -/
def RowAt (k : IntKind) (w : World) (a : Option Addr) (xs : List Int) (B : Nat) : Prop :=
  xs ≠ [] → ∃ b off, a = some ⟨b, off, none⟩ ∧ b < B ∧ ∀ j, j < xs.length → w.cell? ⟨b, off + j, none⟩ = some (.int k (xs[j]?.getD 0))

theorem set_step (xs : List Int) (n k : Nat) (hn : xs.length = n) (hk : k < n) :
    ((xs.take k ++ List.replicate (n - k) 0).map (Value.int .i64)).set k (.int .i64 (xs[k]?.getD 0)) = (xs.take (k + 1) ++ List.replicate (n - (k + 1)) 0).map (Value.int .i64) := by
  apply List.ext_getElem
  · simp; omega
  · intro i h1 h2
    simp at h1 h2
    simp only [List.getElem_set, List.getElem_map, List.getElem_append, List.getElem_take, List.length_take, List.getElem_replicate]
    by_cases e : k = i
    · subst e
      simp [List.getElem?_eq_getElem (show k < xs.length by omega), show k < min (k + 1) xs.length by omega]
    · simp only [e, if_false]
      by_cases h : i < k
      · simp [show i < min k xs.length by omega, show i < min (k + 1) xs.length by omega]
      · simp [show ¬ i < min k xs.length by omega, show ¬ i < min (k + 1) xs.length by omega]


theorem get_ext (xs ys : List Int) (h : xs.length = ys.length) (hk : ∀ j, j < xs.length → xs[j]?.getD 0 = ys[j]?.getD 0) : xs = ys := by
  apply List.ext_getElem h
  intro i h1 h2
  have := hk i h1
  simpa [List.getElem?_eq_getElem h1, List.getElem?_eq_getElem h2] using this
theorem rowAt_cell {k : IntKind} {w : World} {a : Option Addr} {xs : List Int} {B : Nat} (h : RowAt k w a xs B) (j : Nat) (hj : j < xs.length) : ∃ b off, a = some ⟨b, off, none⟩ ∧ b < B ∧ ∀ j, j < xs.length → w.cell? ⟨b, off + j, none⟩ = some (.int k (xs[j]?.getD 0)) :=
  h (fun e => by rw [e] at hj; simp at hj)
theorem eqB_f (xs ys : List Int) (h : xs ≠ ys) : false = decide (xs = ys) := (decide_eq_false h).symm
theorem eqB_t (xs ys : List Int) (h : xs = ys) : true = decide (xs = ys) := (decide_eq_true h).symm


end Go.Proofs.YtfohfljdgmlibaaDoor

/-
  Plain laws on rows of the call's own, of no program: their shape, what stays of them, what one more cell makes of the world.
-/
namespace Go.Proofs.YtfohfljdgmlibaaDoor
open Go.RowKit
set_option linter.unusedVariables false
theorem gOwn_shape {w : World} {B : Nat} {e : TypeId} {z : Nat} {v : Value} {n : Nat} {xs : List Value} (h : w.ownsRow B e z v n xs) : ∃ ad cap, v = .slice ad n cap := by
  rcases h.2 with ⟨rfl, rfl⟩ | ⟨g, cap, cur, rfl, _⟩
  · exact ⟨_, _, rfl⟩
  · exact ⟨_, _, rfl⟩
theorem gOwn_after {w w' : World} {B e size n : Nat} {v : Value} {xs : List Value} (h : w.ownsRow B e size v n xs) (hb : Below w.heap.size w w') : w'.ownsRow B e size v n xs := by
  obtain ⟨hl, h⟩ := h
  refine ⟨hl, ?_⟩
  rcases h with h | ⟨g, cap, cur, hv, hg, hh, h1, h2, h3, h4⟩
  · exact .inl h
  · have hlt : g < w.heap.size := (Array.getElem?_eq_some_iff.1 hh).1
    exact .inr ⟨g, cap, cur, hv, hg, (hb.block g hlt).trans hh, h1, h2, h3, h4⟩
theorem gOne_new (w : World) (v : Value) (t : TypeId) (j : Nat) (u : Value) (hj : [v][j]? = some u) : (w.alloc (.cells #[v] t)).cell? ((⟨w.heap.size, 0, none⟩ : Addr).add j) = some u := by
  have h0 : j = 0 := by
    rcases Nat.eq_zero_or_pos j with h | h
    · exact h
    · rw [List.getElem?_eq_none (by simp; omega)] at hj; simp at hj
  subst h0
  simp at hj
  subst hj
  simp [Addr.add]
theorem gStr_list (s : ByteArray) : ∀ u ∈ [Value.string s], u.oneCell' = true := by
  intro u hu
  simp at hu
  subst hu
  rfl
theorem gBelow_one {w wr w2 : World} {o : Obj} {e : TypeId} {z : Nat} {ad : Option Addr} {n c : Nat} {xs : List Value} (hb : Below w.heap.size w wr) (hown : wr.ownsRow w.heap.size e z (.slice ad n c) n xs)
    (hg : (wr.alloc o).grownBy w2 (Value.slice ad n c).ownBlock) : Below w.heap.size w w2 := by
  have h2 : Below w.heap.size w (wr.alloc o) := hb.alloc hb.size o
  refine h2.grown hg h2.size fun j hj => ?_
  rcases hown.2 with ⟨hv, h0⟩ | ⟨g, cap, cur, hv, hB, rest⟩
  · rw [hv] at hj
    simp [Value.ownBlock] at hj
  · rw [hv] at hj
    simp [Value.ownBlock] at hj
    omega
/-- A block of the call's own, with these cells. -/
def CellsAt (w : World) (G : Nat) (cs : Array Value) : Prop := ∃ T, w.heap[G]? = some (.cells cs T (0, 0))
theorem cellsAt_new (w : World) (cs : Array Value) (T : TypeId) : CellsAt (w.alloc (.cells cs T)) w.heap.size cs := ⟨T, heap_alloc_new w _⟩
theorem cellsAt_lt {w : World} {G : Nat} {cs : Array Value} (h : CellsAt w G cs) : G < w.heap.size := by
  obtain ⟨T, h⟩ := h
  exact (Array.getElem?_eq_some_iff.1 h).1
theorem cellsAt_go {w w' : World} {G B : Nat} {cs : Array Value} (h : CellsAt w G cs) (hb : Below B w w') (hB : G < B) : CellsAt w' G cs := by
  obtain ⟨T, h⟩ := h
  exact ⟨T, (hb.block G hB).trans h⟩
theorem cellsAt_cell {w : World} {G : Nat} {cs : Array Value} (h : CellsAt w G cs) (i : Nat) : w.cell? ⟨G, i, none⟩ = cs[i]? := by
  obtain ⟨T, h⟩ := h
  rw [cell_of_row w G i _ T (0, 0) h]
theorem cellsAt_frozen {w : World} {G : Nat} {cs : Array Value} (h : CellsAt w G cs) (i : Nat) : w.frozen? ⟨G, i, none⟩ = false := by
  obtain ⟨T, h⟩ := h
  simp [World.frozen?, h]
theorem cellsAt_set {w : World} {G i : Nat} {cs : Array Value} (h : CellsAt w G cs) (v : Value) : CellsAt (w.setCell ⟨G, i, none⟩ v) G (cs.setIfInBounds i v) := by
  obtain ⟨T, h⟩ := h
  have hl := (Array.getElem?_eq_some_iff.1 h).1
  refine ⟨T, ?_⟩
  simp [World.setCell, Array.getElem?_modify, h]
theorem cellsAt_far {w : World} {G : Nat} {p : Addr} {cs : Array Value} (h : CellsAt w G cs) (v : Value) (hne : p.block ≠ G) : CellsAt (w.setCell p v) G cs := by
  obtain ⟨T, h⟩ := h
  refine ⟨T, ?_⟩
  simp [World.setCell, Array.getElem?_modify, hne, h]
theorem gOwn_set {w : World} {B : Nat} {e : TypeId} {z : Nat} {v : Value} {n : Nat} {xs : List Value} (h : w.ownsRow B e z v n xs) (p : Addr) (u : Value) (hne : v.ownBlock ≠ some p.block) : (w.setCell p u).ownsRow B e z v n xs := by
  obtain ⟨hl, h⟩ := h
  refine ⟨hl, ?_⟩
  rcases h with h | ⟨g, cap, cur, hv, hg, hh, h1, h2, h3, h4⟩
  · exact .inl h
  · have hne2 : p.block ≠ g := fun e => hne (by rw [hv, e]; rfl)
    exact .inr ⟨g, cap, cur, hv, hg, by rw [← hh]; simp [World.setCell, Array.getElem?_modify, hne2], h1, h2, h3, h4⟩
theorem gBox_below {w w2 : World} {o : Obj} (k : Below (w.alloc o).heap.size (w.alloc o) w2) : Below w.heap.size w w2 :=
  ((Below.refl _ _).alloc (Nat.le_refl _) _).trans (k.mono (by simp))
theorem gOwn_lower {w : World} {B B' : Nat} {e : TypeId} {z : Nat} {v : Value} {n : Nat} {xs : List Value} (h : w.ownsRow B e z v n xs) (hB : B' ≤ B) : w.ownsRow B' e z v n xs := by
  obtain ⟨hl, h⟩ := h
  refine ⟨hl, ?_⟩
  rcases h with h | ⟨g, cap, cur, hv, hg, hh, h1, h2, h3, h4⟩
  · exact .inl h
  · exact .inr ⟨g, cap, cur, hv, Nat.le_trans hB hg, hh, h1, h2, h3, h4⟩
theorem gTwo_new (w : World) (x y : Value) (T : TypeId) (j : Nat) (u : Value) (hj : [x, y][j]? = some u) : (w.alloc (.cells #[x, y] T)).cell? ((⟨w.heap.size, 0, none⟩ : Addr).add j) = some u := by
  match j, hj with
  | 0, hj => simp at hj; subst hj; simp [Addr.add]
  | 1, hj => simp at hj; subst hj; simp [Addr.add]
theorem gStr_two (x y : ByteArray) : ∀ u ∈ [Value.string x, Value.string y], u.oneCell' = true := by
  intro u hu
  simp at hu
  rcases hu with rfl | rfl <;> rfl
end Go.Proofs.YtfohfljdgmlibaaDoor

/-
  Contracts of the laws' helpers on rows of model nodes: how much they hold, a copy in new memory.
-/
namespace Go.Proofs.YtfohfljdgmlibaaDoor
open Go.RowKit Go.Joins
set_option linter.unusedVariables false
set_option linter.unusedSimpArgs false
theorem ret_iI {a b : Int} (h : a = b) : Ending.returned (.int .i64 a) = .returned (.int .i64 b) := by rw [h]
def sumN (f : Nat → Nat) : Nat → Nat
  | 0 => 0
  | k + 1 => sumN f k + f k
theorem sumN_le (f : Nat → Nat) {a b : Nat} (h : a ≤ b) : sumN f a ≤ sumN f b := by
  induction b with
  | zero => have : a = 0 := by omega
            subst this; exact Nat.le_refl _
  | succ b ih =>
    by_cases e : a = b + 1
    · subst e; exact Nat.le_refl _
    · have := ih (by omega)
      show sumN f a ≤ sumN f b + f b
      omega
theorem sumN_at (f : Nat → Nat) {a b : Nat} (h : a < b) : sumN f a + f a ≤ sumN f b := sumN_le f (a := a + 1) h
/-- What is left of 'left' when 'x' is taken away; -1: not so much was there. -/
def dn (left : Int) (x : Nat) : Int := if (x : Int) ≤ left then left - x else -1
theorem dn_yes {left : Int} {x : Nat} (h : (x : Int) ≤ left) : dn left x = left - x := by unfold dn; rw [if_pos h]
theorem dn_no {left : Int} {x : Nat} (h : ¬ (x : Int) ≤ left) : dn left x = -1 := by unfold dn; rw [if_neg h]
theorem heap_setCell_size (w : World) (p : Addr) (v : Value) : (w.setCell p v).heap.size = w.heap.size := by simp [World.setCell]
theorem heap_setCell_far (w : World) (p : Addr) (v : Value) (G : Nat) (h : p.block ≠ G) : (w.setCell p v).heap[G]? = w.heap[G]? := by
  simp [World.setCell, Array.getElem?_modify, h]
theorem own_after {w w' : World} {B e size n : Nat} {v : Value} {xs : List Value} (h : w.ownsRow B e size v n xs) (hb : Below w.heap.size w w') : w'.ownsRow B e size v n xs := gOwn_after h hb
theorem own_someN {w : World} {B g n t size : Nat} {xs : List Value} (h : w.ownsRow B t size (.slice (some ⟨g, 0, none⟩) n n) n xs) (j : Nat) (hj : j < n * size) : ∃ v, w.cell? ⟨g, j, none⟩ = some v := by
  rw [h.cellAt j hj]
  exact ⟨_, List.getElem?_eq_getElem (by rw [h.1]; exact hj)⟩
theorem rwAt_go {k : IntKind} {w w' : World} {a : Option Addr} {xs : List Int} {B : Nat} (h : RowAt k w a xs B) (hb : Below B w w') : RowAt k w' a xs B := fun h0 => by
  obtain ⟨b, off, e, hl, hc⟩ := h h0
  exact ⟨b, off, e, hl, fun j hj => (hb.cell (p := ⟨b, off + j, none⟩) hl).trans (hc j hj)⟩
theorem rwAt_up {k : IntKind} {w : World} {a : Option Addr} {xs : List Int} {B B' : Nat} (h : RowAt k w a xs B) (hB : B ≤ B') : RowAt k w a xs B' := fun h0 => by
  obtain ⟨b, off, e, hl, hc⟩ := h h0
  exact ⟨b, off, e, Nat.lt_of_lt_of_le hl hB, hc⟩
theorem rwAt_set {k : IntKind} {w : World} {g : Nat} {xs : List Int} {B : Nat} (h : RowAt k w (some ⟨g, 0, none⟩) xs B) (p : Addr) (v : Value) (hne : p.block ≠ g) : RowAt k (w.setCell p v) (some ⟨g, 0, none⟩) xs B := fun h0 => by
  obtain ⟨b, off, e, hb, hc⟩ := h h0
  simp only [Option.some.injEq, Addr.mk.injEq] at e
  obtain ⟨rfl, rfl, -⟩ := e
  exact ⟨g, 0, rfl, hb, fun j hj => by rw [World.cell?_setCell_far _ _ _ _ hne]; exact hc j hj⟩
theorem own_rowAt9 {w : World} {B n c : Nat} {ad : Option Addr} {t : TypeId} {xs : List Int} (h : w.ownsRow B t 1 (.slice ad n c) n (xs.map (Value.int .i64))) : RowAt .i64 w ad xs w.heap.size := fun h0 => by
  have hl := h.1
  rcases h.2 with ⟨-, hz⟩ | ⟨g, cap, cur, hv, hB, hh, -, -, -, hx⟩
  · exact absurd (List.length_eq_zero_iff.1 (by rw [hz] at hl; simpa using hl)) h0
  · simp only [Value.slice.injEq] at hv
    obtain ⟨rfl, -, rfl⟩ := hv
    refine ⟨g, 0, rfl, (Array.getElem?_eq_some_iff.1 hh).1, fun j hj => ?_⟩
    have hn : xs.length = n := by simpa using hl
    have := h.cellAt j (by omega)
    rw [Nat.zero_add, this, List.getElem?_map, List.getElem?_eq_getElem hj]
    rfl
/-- A row of model nodes. -/
structure Pn where
  n : Nat
  K : Nat → Int
  NM : Nat → ByteArray
  KL : Nat → List Int
  OC : Nat → Int
def PnCells (w : World) (b o : Nat) (D : Pn) (j : Nat) (ad : Option Addr) (cp : Nat) : Prop := w.cell? ⟨b, o, none⟩ = some (.int .i64 (D.K j)) ∧ w.cell? ⟨b, o + 1, none⟩ = some (.string (D.NM j)) ∧ w.cell? ⟨b, o + 2, none⟩ = some (.slice ad (D.KL j).length cp) ∧ w.cell? ⟨b, o + 3, none⟩ = some (.int .i64 (D.OC j))
def PnRow (w : World) (b off : Nat) (D : Pn) (B : Nat) : Prop := ∀ j, j < D.n → ∃ ad cp, PnCells w b (off + j * 4) D j ad cp ∧ RowAt .i64 w ad (D.KL j) B ∧ (D.KL j).length ≤ cp
def PnAt (w : World) (a : Option Addr) (D : Pn) (B : Nat) : Prop := 0 < D.n → ∃ b off, a = some ⟨b, off, none⟩ ∧ b < B ∧ PnRow w b off D B
theorem pnCells_go {w w' : World} {b o : Nat} {D : Pn} {j : Nat} {ad : Option Addr} {cp B : Nat} (h : PnCells w b o D j ad cp) (hb : b < B) (k : Below B w w') : PnCells w' b o D j ad cp := by
  obtain ⟨h0, h1, h2, h3⟩ := h
  exact ⟨(k.cell (p := ⟨b, o, none⟩) hb).trans h0, (k.cell (p := ⟨b, o + 1, none⟩) hb).trans h1, (k.cell (p := ⟨b, o + 2, none⟩) hb).trans h2, (k.cell (p := ⟨b, o + 3, none⟩) hb).trans h3⟩
theorem pnRow_go {w w' : World} {b off : Nat} {D : Pn} {B : Nat} (h : PnRow w b off D B) (hb : b < B) (k : Below B w w') : PnRow w' b off D B := fun j hj => by
  obtain ⟨ad, cp, hc, hr, hl⟩ := h j hj
  exact ⟨ad, cp, pnCells_go hc hb k, rwAt_go hr k, hl⟩
theorem pnRow_up {w : World} {b off : Nat} {D : Pn} {B B' : Nat} (h : PnRow w b off D B) (k : B ≤ B') : PnRow w b off D B' := fun j hj => by
  obtain ⟨ad, cp, hc, hr, hl⟩ := h j hj
  exact ⟨ad, cp, hc, rwAt_up hr k, hl⟩
theorem pnAt_go {w w' : World} {a : Option Addr} {D : Pn} {B : Nat} (h : PnAt w a D B) (k : Below B w w') : PnAt w' a D B := fun h0 => by
  obtain ⟨b, off, e, hb, hr⟩ := h h0
  exact ⟨b, off, e, hb, pnRow_go hr hb k⟩
theorem pnAt_up {w : World} {a : Option Addr} {D : Pn} {B B' : Nat} (h : PnAt w a D B) (k : B ≤ B') : PnAt w a D B' := fun h0 => by
  obtain ⟨b, off, e, hb, hr⟩ := h h0
  exact ⟨b, off, e, Nat.lt_of_lt_of_le hb k, pnRow_up hr k⟩
/-- The sizes that a row in memory can have. -/
def PnSz (D : Pn) : Prop := D.n ≤ maxLen ∧ ∀ j, j < D.n → (D.NM j).size ≤ maxLen ∧ (D.KL j).length ≤ maxLen
def pnSz (D : Pn) (j : Nat) : Nat := (D.NM j).size + (D.KL j).length
def pnTot (D : Pn) : Nat := D.n + sumN (pnSz D) D.n
theorem pn_sz {D : Pn} (h : pnTot D ≤ 1048576) : D.n ≤ 1048576 ∧ ∀ j, j < D.n → (D.NM j).size ≤ 1048576 ∧ (D.KL j).length ≤ 1048576 := by
  unfold pnTot at h
  refine ⟨by omega, fun j hj => ?_⟩
  have h1 := sumN_at (pnSz D) hj
  have h2 : pnSz D j = (D.NM j).size + (D.KL j).length := rfl
  omega
theorem box_belowI {w w1 : World} {c : Array Value} {t : TypeId} (h : Below (w.alloc (.cells c t)).heap.size (w.alloc (.cells c t)) w1) : Below w.heap.size w w1 :=
  ((Below.refl w.heap.size w).alloc (Nat.le_refl _) _).trans (h.mono (by simp))
/-- A node lies in block G. -/
def NdAt (w : World) (G : Nat) (k : Int) (nm : ByteArray) (a : Option Addr) (n c : Nat) (oc : Int) : Prop :=
  ∃ T, w.heap[G]? = some (.cells #[.int .i64 k, .string nm, .slice a n c, .int .i64 oc] T (0, 0))
section
variable {w w1 : World} {G : Nat} {k : Int} {nm : ByteArray} {a : Option Addr} {n c : Nat} {oc : Int}
theorem ndAt_lt (h : NdAt w G k nm a n c oc) : G < w.heap.size := by
  obtain ⟨T, h⟩ := h
  exact (Array.getElem?_eq_some_iff.1 h).1
theorem ndAt_go (h : NdAt w G k nm a n c oc) (hb : Below w.heap.size w w1) : NdAt w1 G k nm a n c oc := by
  have hl := ndAt_lt h
  obtain ⟨T, h⟩ := h
  exact ⟨T, (hb.block G hl).trans h⟩
theorem ndAt_new (w : World) (k : Int) (nm : ByteArray) (a : Option Addr) (n c : Nat) (oc : Int) (T : TypeId) : NdAt (w.alloc (.cells #[.int .i64 k, .string nm, .slice a n c, .int .i64 oc] T)) w.heap.size k nm a n c oc := ⟨T, heap_alloc_new w _⟩
theorem ndAt_cells (h : NdAt w G k nm a n c oc) : w.cell? ⟨G, 0, none⟩ = some (.int .i64 k) ∧ w.cell? ⟨G, 1, none⟩ = some (.string nm) ∧ w.cell? ⟨G, 2, none⟩ = some (.slice a n c) ∧ w.cell? ⟨G, 3, none⟩ = some (.int .i64 oc) := by
  obtain ⟨T, h⟩ := h
  have e : ∀ i, w.cell? ⟨G, i, none⟩ = (#[.int .i64 k, .string nm, .slice a n c, .int .i64 oc] : Array Value)[i]? := fun i => by rw [cell_of_row w G i _ T (0, 0) h]
  exact ⟨e 0, e 1, e 2, e 3⟩
theorem ndAt_frozen (h : NdAt w G k nm a n c oc) (i : Nat) : w.frozen? ⟨G, i, none⟩ = false := by
  obtain ⟨T, h⟩ := h
  simp [World.frozen?, h]
theorem ndAt_far (h : NdAt w G k nm a n c oc) (p : Addr) (v : Value) (hne : p.block ≠ G) : NdAt (w.setCell p v) G k nm a n c oc := by
  obtain ⟨T, h⟩ := h
  exact ⟨T, by rw [heap_setCell_far _ _ _ _ hne]; exact h⟩
theorem ndAt_sets {k' : Int} {nm' : ByteArray} {a' : Option Addr} {n' c' : Nat} {oc' : Int} (h : NdAt w G k nm a n c oc) :
    NdAt ((((w.setCell ⟨G, 0, none⟩ (.int .i64 k')).setCell ⟨G, 1, none⟩ (.string nm')).setCell ⟨G, 2, none⟩ (.slice a' n' c')).setCell ⟨G, 3, none⟩ (.int .i64 oc')) G k' nm' a' n' c' oc' := by
  obtain ⟨T, h0⟩ := h
  have h1 := block_setCell (i := 0) h0 (.int .i64 k')
  have h2 := block_setCell (i := 1) h1 (.string nm')
  have h3 := block_setCell (i := 2) h2 (.slice a' n' c')
  have h4 := block_setCell (i := 3) h3 (.int .i64 oc')
  exact ⟨T, by simpa using h4⟩
end
theorem box_node {w w2 : World} {k : Int} {nm : ByteArray} {a : Option Addr} {n c : Nat} {oc : Int} {T : TypeId} (hb : Below (w.alloc (.cells #[.int .i64 k, .string nm, .slice a n c, .int .i64 oc] T)).heap.size (w.alloc (.cells #[.int .i64 k, .string nm, .slice a n c, .int .i64 oc] T)) w2) :
    NdAt w2 w.heap.size k nm a n c oc ∧ Below w.heap.size w w2 := ⟨ndAt_go (ndAt_new w k nm a n c oc T) hb, ((Below.refl w.heap.size w).alloc (Nat.le_refl _) _).trans (hb.mono (by simp))⟩
end Go.Proofs.YtfohfljdgmlibaaDoor
