/-
  Texts put together: Base, BtMath, Shelf, Gen, Ints, BtI, PaI.
-/
import Derived.WalkKit
import Derived.Below
import Derived.Lib.TrailingZeros
import Derived.Shelf.Lays7
import Derived.Shelf.Spec.TrailingZeros
import Derived.Test.YtfohfljdgmlibaaDoorProg
import Derived.OwnWalk
import Derived.Laws.OwnMore
import Derived.Test.YtfohfljdgmlibaaDoorChecked
import Derived.RegionTactic
import Derived.Deep.QuietTactic
import Derived.BigQuiet
import Derived.Deep.Draws
import Derived.KernelRfl
import Derived.Laws.Bits64b
import Derived.Laws.BitsAllLaws
/-
  Plain facts on bytes and names, of no program: what a name is, byte by byte.
-/
namespace Go.Proofs.YtfohfljdgmlibaaDoor
def firstB (c : Int) : Bool := decide ((97 ≤ c ∧ c ≤ 122) ∨ (65 ≤ c ∧ c ≤ 90) ∨ c = 95)
def digitB (c : Int) : Bool := decide (48 ≤ c ∧ c ≤ 57)
def moreB (c : Int) : Bool := decide ((97 ≤ c ∧ c ≤ 122) ∨ (65 ≤ c ∧ c ≤ 90) ∨ c = 95 ∨ (48 ≤ c ∧ c ≤ 57) ∨ c = 46 ∨ c = 45)
def at8 (s : ByteArray) (k : Nat) : Int := ((s.data.toList[k]?).getD 0).toNat
theorem at8_eq (s : ByteArray) (k : Nat) (h : k < s.size) : at8 s k = (s[k].toNat : Int) := by
  have h' : k < s.data.toList.length := by simpa using h
  unfold at8; rw [List.getElem?_eq_getElem h']; rfl
def nameB (s : ByteArray) : Bool := decide (1 ≤ s.size) && (decide (s.size ≤ 40) && (firstB (at8 s 0) && (List.range s.size).all fun j => j == 0 || moreB (at8 s j)))
theorem nameB_none (s : ByteArray) (h : s.size = 0) : nameB s = false := by simp [nameB, h]
theorem nameB_long (s : ByteArray) (h : 40 < s.size) : nameB s = false := by
  have : decide (s.size ≤ 40) = false := by simp; omega
  simp [nameB, this]
theorem nameB_first (s : ByteArray) (h0 : 0 < s.size) (h : firstB (s[0].toNat : Int) = false) : nameB s = false := by
  rw [← at8_eq s 0 h0] at h
  simp [nameB, h]
theorem nameB_more (s : ByteArray) (k : Nat) (h1 : 1 ≤ k) (hk : k < s.size) (h : moreB (s[k].toNat : Int) = false) : nameB s = false := by
  rw [← at8_eq s k hk] at h
  have : ((List.range s.size).all fun j => j == 0 || moreB (at8 s j)) = false := by
    rw [List.all_eq_false]
    refine ⟨k, by simpa using hk, ?_⟩
    have : (k == 0) = false := by simp; omega
    simp [this, h]
  simp [nameB, this]
theorem nameB_yes (s : ByteArray) (h0 : 0 < s.size) (h40 : s.size ≤ 40) (hf : firstB (s[0].toNat : Int) = true) (hm : ∀ j (h : j < s.size), 1 ≤ j → moreB (s[j].toNat : Int) = true) : nameB s = true := by
  rw [← at8_eq s 0 h0] at hf
  have : ((List.range s.size).all fun j => j == 0 || moreB (at8 s j)) = true := by
    rw [List.all_eq_true]
    intro j hj
    have hj' : j < s.size := by simpa using hj
    by_cases e : j = 0
    · simp [e]
    · have := hm j hj' (by omega)
      rw [← at8_eq s j hj'] at this
      simp [this]
  have h1 : decide (1 ≤ s.size) = true := by simp; omega
  have h2 : decide (s.size ≤ 40) = true := by simp; omega
  simp [nameB, this, h1, h2, hf]
theorem first_t {c : Int} (h : (97 ≤ c ∧ c ≤ 122) ∨ (65 ≤ c ∧ c ≤ 90) ∨ c = 95) : true = firstB c := (decide_eq_true h).symm
theorem first_f {c : Int} (h : ¬ ((97 ≤ c ∧ c ≤ 122) ∨ (65 ≤ c ∧ c ≤ 90) ∨ c = 95)) : false = firstB c := (decide_eq_false h).symm
theorem digit_t {c : Int} (h : 48 ≤ c ∧ c ≤ 57) : true = digitB c := (decide_eq_true h).symm
theorem digit_f {c : Int} (h : ¬ (48 ≤ c ∧ c ≤ 57)) : false = digitB c := (decide_eq_false h).symm
theorem more_t {c : Int} (h : (97 ≤ c ∧ c ≤ 122) ∨ (65 ≤ c ∧ c ≤ 90) ∨ c = 95 ∨ (48 ≤ c ∧ c ≤ 57) ∨ c = 46 ∨ c = 45) : true = moreB c := (decide_eq_true h).symm
theorem more_f {c : Int} (h : ¬ ((97 ≤ c ∧ c ≤ 122) ∨ (65 ≤ c ∧ c ≤ 90) ∨ c = 95 ∨ (48 ≤ c ∧ c ≤ 57) ∨ c = 46 ∨ c = 45)) : false = moreB c := (decide_eq_false h).symm
theorem hide {p : Prop} (h : p) : Go.RowKit.Hid p := h
def intOf : Value → Int | .int _ q => q | _ => 0
theorem ret_bool {a b : Bool} (h : a = b) : Ending.returned (.bool a) = .returned (.bool b) := by rw [h]
end Go.Proofs.YtfohfljdgmlibaaDoor

/-
  Plain facts on sets told by bits, of no program: the places of a set, in order.
-/
namespace Go.Proofs.YtfohfljdgmlibaaDoor
set_option linter.unusedVariables false
set_option linter.unusedSimpArgs false
/-- The set without its lowest place. -/
def cutB (x : Nat) : Nat := x &&& (x - 1)
theorem cut_lt {x : Nat} (h : x ≠ 0) : cutB x < x := by
  have : x &&& (x - 1) ≤ x - 1 := Nat.and_le_right
  unfold cutB
  omega
theorem ctz_form {x : Nat} (h0 : x ≠ 0) (h : x < 18446744073709551616) : ∃ m, x = 2 ^ Lib.ctz 64 x * (2 * m + 1) ∧ Lib.ctz 64 x < 64 := by
  obtain ⟨m, hm, hk⟩ := Lib.ctzFrom_spec 64 x (by omega) h
  have e : Lib.ctz 64 x = Lib.ctzFrom 64 x := by simp [Lib.ctz, h0]
  rw [e]
  exact ⟨m, hm, hk⟩
theorem ctz_bit {x : Nat} (h0 : x ≠ 0) (h : x < 18446744073709551616) : x.testBit (Lib.ctz 64 x) = true ∧ ∀ j, j < Lib.ctz 64 x → x.testBit j = false := by
  obtain ⟨m, hm, hk⟩ := ctz_form h0 h
  obtain ⟨k, hkk⟩ : ∃ k, Lib.ctz 64 x = k := ⟨_, rfl⟩
  rw [hkk] at hm ⊢
  have hp : 0 < 2 ^ k := Nat.two_pow_pos k
  refine ⟨?_, fun j hj => ?_⟩
  · rw [Nat.testBit_eq_decide_div_mod_eq, hm, Nat.mul_div_cancel_left _ hp, decide_eq_true_eq]
    omega
  · rw [Nat.testBit_eq_decide_div_mod_eq, hm, decide_eq_false_iff_not]
    obtain ⟨d, rfl⟩ : ∃ d, k = j + 1 + d := ⟨k - (j + 1), by omega⟩
    rw [show 2 ^ (j + 1 + d) * (2 * m + 1) = 2 ^ j * (2 * (2 ^ d * (2 * m + 1))) by rw [Nat.pow_add, Nat.pow_succ]; simp only [Nat.mul_assoc], Nat.mul_div_cancel_left _ (Nat.two_pow_pos j)]
    omega
theorem cut_bit {x : Nat} (h0 : x ≠ 0) (h : x < 18446744073709551616) (j : Nat) : (cutB x).testBit j = (x.testBit j && decide (j ≠ Lib.ctz 64 x)) := by
  obtain ⟨m, hm, hk⟩ := ctz_form h0 h
  have hb := ctz_bit h0 h
  obtain ⟨k, hkk⟩ : ∃ k, Lib.ctz 64 x = k := ⟨_, rfl⟩
  rw [hkk] at hm hb ⊢
  have hp : 0 < 2 ^ k := Nat.two_pow_pos k
  unfold cutB
  rw [Nat.testBit_and]
  rcases Nat.lt_trichotomy j k with hj | hj | hj
  · rw [hb.2 j hj]; rfl
  · subst hj
    have e : (x - 1).testBit j = false := by
      rw [Nat.testBit_eq_decide_div_mod_eq, decide_eq_false_iff_not]
      have : (x - 1) / 2 ^ j = 2 * m := by
        rw [show x - 1 = 2 ^ j * (2 * m) + (2 ^ j - 1) by rw [hm, Nat.mul_add]; omega, Nat.mul_add_div hp, Nat.div_eq_of_lt (by omega)]
        omega
      rw [this]
      omega
    rw [e]
    simp
  · have e : (x - 1).testBit j = x.testBit j := by
      obtain ⟨d, rfl⟩ : ∃ d, j = k + 1 + d := ⟨j - (k + 1), by omega⟩
      rw [Nat.testBit_eq_decide_div_mod_eq, Nat.testBit_eq_decide_div_mod_eq]
      have h1 : (x - 1) / 2 ^ (k + 1) = m := by
        rw [show x - 1 = 2 ^ (k + 1) * m + (2 ^ k - 1) by rw [hm, Nat.mul_add, Nat.pow_succ, Nat.mul_assoc]; omega, Nat.mul_add_div (Nat.two_pow_pos _), Nat.div_eq_of_lt (by rw [Nat.pow_succ]; omega)]
        omega
      have h2 : x / 2 ^ (k + 1) = m := by
        rw [show x = 2 ^ (k + 1) * m + 2 ^ k by rw [hm, Nat.mul_add, Nat.pow_succ, Nat.mul_assoc]; omega, Nat.mul_add_div (Nat.two_pow_pos _), Nat.div_eq_of_lt (by rw [Nat.pow_succ]; omega)]
        omega
      rw [Nat.pow_add, ← Nat.div_div_eq_div_mul, ← Nat.div_div_eq_div_mul, h1, h2]
    rw [e, decide_eq_true (by omega)]
    cases x.testBit j <;> rfl
/-- The places of a set. -/
def btF : Nat → Nat → List Int
  | 0, _ => []
  | f + 1, x => if x = 0 then [] else (Lib.ctz 64 x : Int) :: btF f (cutB x)
def bts (x : Nat) : List Int := btF (x + 1) x
theorem btF_more : ∀ (f g x : Nat), x < f → x < g → btF f x = btF g x
  | 0, g, x, h1, h2 => by omega
  | f + 1, 0, x, h1, h2 => by omega
  | f + 1, g + 1, x, h1, h2 => by
    rw [btF, btF]
    split
    · rfl
    · rename_i h0
      have := cut_lt h0
      rw [btF_more f g (cutB x) (by omega) (by omega)]
theorem bts_zero : bts 0 = [] := rfl
theorem bts_step {x : Nat} (h : x ≠ 0) : bts x = (Lib.ctz 64 x : Int) :: bts (cutB x) := by
  have := cut_lt h
  unfold bts
  rw [btF, if_neg h, btF_more x (cutB x + 1) (cutB x) (by omega) (by omega)]
theorem bts_mem : ∀ (m x : Nat), x < m → x < 18446744073709551616 → ∀ (z : Int), z ∈ bts x ↔ ∃ j : Nat, z = j ∧ x.testBit j = true
  | 0, x, hm, hx, z => by omega
  | m + 1, x, hm, hx, z => by
    by_cases h0 : x = 0
    · subst h0
      rw [bts_zero]
      simp
    · have hc := cut_lt h0
      rw [bts_step h0, List.mem_cons, bts_mem m (cutB x) (by omega) (by omega) z]
      constructor
      · rintro (rfl | ⟨j, rfl, hj⟩)
        · exact ⟨_, rfl, (ctz_bit h0 hx).1⟩
        · rw [cut_bit h0 hx] at hj
          simp only [Bool.and_eq_true] at hj
          exact ⟨j, rfl, hj.1⟩
      · rintro ⟨j, rfl, hj⟩
        by_cases e : j = Lib.ctz 64 x
        · exact .inl (by rw [e])
        · exact .inr ⟨j, rfl, by rw [cut_bit h0 hx, hj, decide_eq_true e]; rfl⟩
theorem bts_sorted : ∀ (m x : Nat), x < m → x < 18446744073709551616 → (bts x).Pairwise (· < ·)
  | 0, x, hm, hx => by omega
  | m + 1, x, hm, hx => by
    by_cases h0 : x = 0
    · subst h0; exact List.Pairwise.nil
    · have hc := cut_lt h0
      rw [bts_step h0]
      refine List.pairwise_cons.2 ⟨fun z hz => ?_, bts_sorted m (cutB x) (by omega) (by omega)⟩
      obtain ⟨j, rfl, hj⟩ := (bts_mem x (cutB x) (by omega) (by omega) z).1 hz
      rw [cut_bit h0 hx] at hj
      simp only [Bool.and_eq_true, decide_eq_true_eq] at hj
      rcases Nat.lt_trichotomy j (Lib.ctz 64 x) with h | h | h
      · rw [(ctz_bit h0 hx).2 j h] at hj; exact absurd hj.1 (by decide)
      · exact absurd h hj.2
      · omega
theorem bts_range {n x : Nat} (hx : x < 18446744073709551616) (hn : x < 2 ^ n) : ∀ z ∈ bts x, 0 ≤ z ∧ z < (n : Int) := by
  intro z hz
  obtain ⟨j, rfl, hj⟩ := (bts_mem (x + 1) x (by omega) hx z).1 hz
  refine ⟨by omega, ?_⟩
  rcases Nat.lt_or_ge j n with h | h
  · omega
  · rw [Nat.testBit_lt_two_pow (Nat.lt_of_lt_of_le hn (Nat.pow_le_pow_right (by decide) h))] at hj
    cases hj
theorem sorted_len {n : Nat} : ∀ {L : List Int}, L.Pairwise (· < ·) → (∀ z ∈ L, 0 ≤ z ∧ z < (n : Int)) → L.length ≤ n := by
  have key : ∀ (L : List Int) (a : Int), L.Pairwise (· < ·) → (∀ z ∈ L, a ≤ z ∧ z < (n : Int)) → a ≤ n → (L.length : Int) ≤ n - a := by
    intro L
    induction L with
    | nil => intro a _ _ h; simp; omega
    | cons x t ih =>
      intro a hp hr ha
      obtain ⟨h1, h2⟩ := List.pairwise_cons.1 hp
      have hx := hr x (by simp)
      have := ih (x + 1) h2 (fun z hz => ⟨by have := h1 z hz; omega, (hr z (by simp [hz])).2⟩) (by omega)
      rw [List.length_cons]
      omega
  intro L hp hr
  have := key L 0 hp hr (by omega)
  omega
theorem bts_len {x : Nat} (hx : x < 18446744073709551616) : (bts x).length ≤ 64 := sorted_len (bts_sorted (x + 1) x (by omega) hx) (bts_range (n := 64) hx hx)
end Go.Proofs.YtfohfljdgmlibaaDoor

/-
  Contracts of Go's own library at this program, laid by the shelf's plain mode: each is one application of a theorem of the library.
-/
namespace Go.Proofs
open Go.Shelf
def Tryd.lays29_ren : Go.Shelf.Ren := ⟨fun | 29 => 76 | n => n, fun | 22 => 51 | 3 => 3 | 4 => 4 | 25 => 109 | 54 => 108 | 0 => 0 | 5 => 5 | n => n, fun | 1 => 0 | n => n⟩
theorem Tryd.lays29 : Go.Proofs.Lays7.n29 Tryd.prog Tryd.lays29_ren := {
  mixed := by kernel_rfl
  f29 := Tryd.func76.trans (congrArg some (by kernel_rfl))
  t0 := Tryd.underlying0
  a0 := Tryd.isAgg0
  z0 := Tryd.sizeOf0
  v0 := Tryd.zeroValue0
  i0 := by kernel_rfl
  t3 := Tryd.underlying3
  a3 := Tryd.isAgg3
  z3 := Tryd.sizeOf3
  v3 := Tryd.zeroValue3
  i3 := by kernel_rfl
  t4 := Tryd.underlying4
  a4 := Tryd.isAgg4
  z4 := Tryd.sizeOf4
  v4 := Tryd.zeroValue4
  i4 := by kernel_rfl
  t5 := Tryd.underlying5
  a5 := Tryd.isAgg5
  z5 := Tryd.sizeOf5
  v5 := Tryd.zeroValue5
  i5 := by kernel_rfl
  t22 := Tryd.underlying51
  a22 := Tryd.isAgg51
  z22 := Tryd.sizeOf51
  v22 := Tryd.zeroValue51
  i22 := by kernel_rfl
  t25 := Tryd.underlying109
  a25 := Tryd.isAgg109
  z25 := Tryd.sizeOf109
  v25 := Tryd.zeroValue109
  i25 := by kernel_rfl
  t54 := Tryd.underlying108
  a54 := Tryd.isAgg108
  z54 := Tryd.sizeOf108
  g1 := by kernel_rfl }
end Go.Proofs

/-
  Plain laws on rows of the call's own, of no program: their shape, what stays of them, what one more cell makes of the world.
-/
namespace Go.Proofs.YtfohfljdgmlibaaDoor
open Go.RowKit
set_option linter.unusedVariables false
theorem gOwn_shape {w : World} {B : Nat} {e : TypeId} {z : Nat} {v : Value} {n : Nat} {xs : List Value} (h : w.ownsRow B e z v n xs) : ∃ ad cap, v = .slice ad n cap := by
  rcases h.2 with ⟨rfl, rfl⟩ | ⟨g, cap, cur, rfl, _⟩
  · exact ⟨_, _, rfl⟩
  · exact ⟨_, _, rfl⟩
theorem gOwn_after {w w' : World} {B e size n : Nat} {v : Value} {xs : List Value} (h : w.ownsRow B e size v n xs) (hb : Below w.heap.size w w') : w'.ownsRow B e size v n xs := by
  obtain ⟨hl, h⟩ := h
  refine ⟨hl, ?_⟩
  rcases h with h | ⟨g, cap, cur, hv, hg, hh, h1, h2, h3, h4⟩
  · exact .inl h
  · have hlt : g < w.heap.size := (Array.getElem?_eq_some_iff.1 hh).1
    exact .inr ⟨g, cap, cur, hv, hg, (hb.block g hlt).trans hh, h1, h2, h3, h4⟩
theorem gOne_new (w : World) (v : Value) (t : TypeId) (j : Nat) (u : Value) (hj : [v][j]? = some u) : (w.alloc (.cells #[v] t)).cell? ((⟨w.heap.size, 0, none⟩ : Addr).add j) = some u := by
  have h0 : j = 0 := by
    rcases Nat.eq_zero_or_pos j with h | h
    · exact h
    · rw [List.getElem?_eq_none (by simp; omega)] at hj; simp at hj
  subst h0
  simp at hj
  subst hj
  simp [Addr.add]
theorem gStr_list (s : ByteArray) : ∀ u ∈ [Value.string s], u.oneCell' = true := by
  intro u hu
  simp at hu
  subst hu
  rfl
theorem gBelow_one {w wr w2 : World} {o : Obj} {e : TypeId} {z : Nat} {ad : Option Addr} {n c : Nat} {xs : List Value} (hb : Below w.heap.size w wr) (hown : wr.ownsRow w.heap.size e z (.slice ad n c) n xs)
    (hg : (wr.alloc o).grownBy w2 (Value.slice ad n c).ownBlock) : Below w.heap.size w w2 := by
  have h2 : Below w.heap.size w (wr.alloc o) := hb.alloc hb.size o
  refine h2.grown hg h2.size fun j hj => ?_
  rcases hown.2 with ⟨hv, h0⟩ | ⟨g, cap, cur, hv, hB, rest⟩
  · rw [hv] at hj
    simp [Value.ownBlock] at hj
  · rw [hv] at hj
    simp [Value.ownBlock] at hj
    omega
/-- A block of the call's own, with these cells. -/
def CellsAt (w : World) (G : Nat) (cs : Array Value) : Prop := ∃ T, w.heap[G]? = some (.cells cs T (0, 0))
theorem cellsAt_new (w : World) (cs : Array Value) (T : TypeId) : CellsAt (w.alloc (.cells cs T)) w.heap.size cs := ⟨T, heap_alloc_new w _⟩
theorem cellsAt_lt {w : World} {G : Nat} {cs : Array Value} (h : CellsAt w G cs) : G < w.heap.size := by
  obtain ⟨T, h⟩ := h
  exact (Array.getElem?_eq_some_iff.1 h).1
theorem cellsAt_go {w w' : World} {G B : Nat} {cs : Array Value} (h : CellsAt w G cs) (hb : Below B w w') (hB : G < B) : CellsAt w' G cs := by
  obtain ⟨T, h⟩ := h
  exact ⟨T, (hb.block G hB).trans h⟩
theorem cellsAt_cell {w : World} {G : Nat} {cs : Array Value} (h : CellsAt w G cs) (i : Nat) : w.cell? ⟨G, i, none⟩ = cs[i]? := by
  obtain ⟨T, h⟩ := h
  rw [cell_of_row w G i _ T (0, 0) h]
theorem cellsAt_frozen {w : World} {G : Nat} {cs : Array Value} (h : CellsAt w G cs) (i : Nat) : w.frozen? ⟨G, i, none⟩ = false := by
  obtain ⟨T, h⟩ := h
  simp [World.frozen?, h]
theorem cellsAt_set {w : World} {G i : Nat} {cs : Array Value} (h : CellsAt w G cs) (v : Value) : CellsAt (w.setCell ⟨G, i, none⟩ v) G (cs.setIfInBounds i v) := by
  obtain ⟨T, h⟩ := h
  have hl := (Array.getElem?_eq_some_iff.1 h).1
  refine ⟨T, ?_⟩
  simp [World.setCell, Array.getElem?_modify, h]
theorem cellsAt_far {w : World} {G : Nat} {p : Addr} {cs : Array Value} (h : CellsAt w G cs) (v : Value) (hne : p.block ≠ G) : CellsAt (w.setCell p v) G cs := by
  obtain ⟨T, h⟩ := h
  refine ⟨T, ?_⟩
  simp [World.setCell, Array.getElem?_modify, hne, h]
theorem gOwn_set {w : World} {B : Nat} {e : TypeId} {z : Nat} {v : Value} {n : Nat} {xs : List Value} (h : w.ownsRow B e z v n xs) (p : Addr) (u : Value) (hne : v.ownBlock ≠ some p.block) : (w.setCell p u).ownsRow B e z v n xs := by
  obtain ⟨hl, h⟩ := h
  refine ⟨hl, ?_⟩
  rcases h with h | ⟨g, cap, cur, hv, hg, hh, h1, h2, h3, h4⟩
  · exact .inl h
  · have hne2 : p.block ≠ g := fun e => hne (by rw [hv, e]; rfl)
    exact .inr ⟨g, cap, cur, hv, hg, by rw [← hh]; simp [World.setCell, Array.getElem?_modify, hne2], h1, h2, h3, h4⟩
theorem gBox_below {w w2 : World} {o : Obj} (k : Below (w.alloc o).heap.size (w.alloc o) w2) : Below w.heap.size w w2 :=
  ((Below.refl _ _).alloc (Nat.le_refl _) _).trans (k.mono (by simp))
theorem gOwn_lower {w : World} {B B' : Nat} {e : TypeId} {z : Nat} {v : Value} {n : Nat} {xs : List Value} (h : w.ownsRow B e z v n xs) (hB : B' ≤ B) : w.ownsRow B' e z v n xs := by
  obtain ⟨hl, h⟩ := h
  refine ⟨hl, ?_⟩
  rcases h with h | ⟨g, cap, cur, hv, hg, hh, h1, h2, h3, h4⟩
  · exact .inl h
  · exact .inr ⟨g, cap, cur, hv, Nat.le_trans hB hg, hh, h1, h2, h3, h4⟩
theorem gTwo_new (w : World) (x y : Value) (T : TypeId) (j : Nat) (u : Value) (hj : [x, y][j]? = some u) : (w.alloc (.cells #[x, y] T)).cell? ((⟨w.heap.size, 0, none⟩ : Addr).add j) = some u := by
  match j, hj with
  | 0, hj => simp at hj; subst hj; simp [Addr.add]
  | 1, hj => simp at hj; subst hj; simp [Addr.add]
theorem gStr_two (x y : ByteArray) : ∀ u ∈ [Value.string x, Value.string y], u.oneCell' = true := by
  intro u hu
  simp at hu
  rcases hu with rfl | rfl <;> rfl
end Go.Proofs.YtfohfljdgmlibaaDoor

/-
  Contracts of the laws' helpers on rows of int64: a copy in new memory, and whether two rows are alike; nothing that was there is written.
-/
namespace Go.Proofs.YtfohfljdgmlibaaDoor
open Go.RowKit
set_option linter.unusedVariables false
set_option linter.unusedSimpArgs false

theorem info64 : (Tryd.prog.info? 2).map (fun i => (i.zero, i.size, i.bytes)) = some (some (.int .i64 0), 1, 8) := by kernel_rfl

/-- What is laid of a row of int64: its first 'n' cells hold 'xs', in a block below 'B'. -/
def RowAt (k : IntKind) (w : World) (a : Option Addr) (xs : List Int) (B : Nat) : Prop :=
  xs ≠ [] → ∃ b off, a = some ⟨b, off, none⟩ ∧ b < B ∧ ∀ j, j < xs.length → w.cell? ⟨b, off + j, none⟩ = some (.int k (xs[j]?.getD 0))

theorem set_step (xs : List Int) (n k : Nat) (hn : xs.length = n) (hk : k < n) :
    ((xs.take k ++ List.replicate (n - k) 0).map (Value.int .i64)).set k (.int .i64 (xs[k]?.getD 0)) = (xs.take (k + 1) ++ List.replicate (n - (k + 1)) 0).map (Value.int .i64) := by
  apply List.ext_getElem
  · simp; omega
  · intro i h1 h2
    simp at h1 h2
    simp only [List.getElem_set, List.getElem_map, List.getElem_append, List.getElem_take, List.length_take, List.getElem_replicate]
    by_cases e : k = i
    · subst e
      simp [List.getElem?_eq_getElem (show k < xs.length by omega), show k < min (k + 1) xs.length by omega]
    · simp only [e, if_false]
      by_cases h : i < k
      · simp [show i < min k xs.length by omega, show i < min (k + 1) xs.length by omega]
      · simp [show ¬ i < min k xs.length by omega, show ¬ i < min (k + 1) xs.length by omega]


theorem get_ext (xs ys : List Int) (h : xs.length = ys.length) (hk : ∀ j, j < xs.length → xs[j]?.getD 0 = ys[j]?.getD 0) : xs = ys := by
  apply List.ext_getElem h
  intro i h1 h2
  have := hk i h1
  simpa [List.getElem?_eq_getElem h1, List.getElem?_eq_getElem h2] using this
theorem rowAt_cell {k : IntKind} {w : World} {a : Option Addr} {xs : List Int} {B : Nat} (h : RowAt k w a xs B) (j : Nat) (hj : j < xs.length) : ∃ b off, a = some ⟨b, off, none⟩ ∧ b < B ∧ ∀ j, j < xs.length → w.cell? ⟨b, off + j, none⟩ = some (.int k (xs[j]?.getD 0)) :=
  h (fun e => by rw [e] at hj; simp at hj)
theorem eqB_f (xs ys : List Int) (h : xs ≠ ys) : false = decide (xs = ys) := (decide_eq_false h).symm
theorem eqB_t (xs ys : List Int) (h : xs = ys) : true = decide (xs = ys) := (decide_eq_true h).symm


end Go.Proofs.YtfohfljdgmlibaaDoor

/-
  Contracts: sets told by bits (the program's).
-/
namespace Go.Proofs.YtfohfljdgmlibaaDoor
open Go.RowKit
set_option linter.unusedVariables false
set_option linter.unusedSimpArgs false
/-- A row of numbers in memory of one's own. -/
def IntR (B : Nat) (w : World) (ad : Option Addr) (c : Nat) (L : List Int) : Prop := w.ownsRow B 2 1 (.slice ad L.length c) L.length (L.map (Value.int .i64))
theorem gOne_list (k : IntKind) (z : Int) : ∀ u ∈ [Value.int k z], u.oneCell' = true := by
  intro u hu
  simp at hu
  subst hu
  rfl
theorem intR_nil (B : Nat) (w : World) : IntR B w none 0 [] := ⟨rfl, .inl ⟨rfl, rfl⟩⟩
theorem intR_put {B : Nat} {w2 : World} {ad : Option Addr} {c : Nat} {L : List Int} {z : Int} (h : w2.ownsRow B 2 1 (.slice ad (L.length + 1) c) (L.length + 1) (L.map (Value.int .i64) ++ [.int .i64 z])) : IntR B w2 ad c (L ++ [z]) := by
  unfold IntR
  rw [List.length_append, List.length_singleton, List.map_append]
  exact h
/-- The library's table stands. -/
def TzT (w : World) : Prop := TabAt 0 Lib.deBruijn64tab w
theorem tzT_go {w w' : World} {B : Nat} (h : TzT w) (hb : Below B w w') (hB : w.heap.size ≤ B) : TzT w' := fun j hj => (hb.cell (p := ⟨0, j, none⟩) (Nat.lt_of_lt_of_le (World.block_lt_of_cell? _ _ (h j hj)) hB)).trans (h j hj)
theorem i_only (n : Nat) (w : World) (hn : n ≤ 40) : Calls Tryd.prog 35 #[.int .i64 n] w fun e w' => e = .returned (.int .u64 ((2 ^ n : Nat) : Int)) ∧ w' = w := by
  have hs : IntKind.u64.wrap ((2 : Int) ^ n) = ((2 ^ n : Nat) : Int) := by
    have : (2 ^ n : Nat) ≤ 2 ^ 40 := Nat.pow_le_pow_right (by decide) hn
    have e : ((2 : Int) ^ n) = ((2 ^ n : Nat) : Int) := by rw [Int.natCast_pow]; rfl
    rw [e, IntKind.wrap_u64]
    obtain ⟨q, hq⟩ : ∃ q, (2 ^ n : Nat) = q := ⟨_, rfl⟩
    rw [hq] at this ⊢
    have h40 : (2 ^ 40 : Nat) = 1099511627776 := by decide
    omega
  have hn0 : (0 : Int) ≤ (n : Int) := by omega
  go_enter Tryd.func35, Tryd.ntmps35
  go_wp2
  go_ret
  exact ⟨rfl, rfl⟩
set_option maxRecDepth 100000 in
set_option maxHeartbeats 2000000 in
theorem i_list (x : Nat) (w : World) (hx : x < 18446744073709551616) (hT : TzT w) :
    Calls Tryd.prog 43 #[.int .u64 x] w fun e w' => ∃ ad c, e = .returned (.slice ad (bts x).length c) ∧ IntR w.heap.size w' ad c (bts x) ∧ Below w.heap.size w w' := by
  obtain ⟨i0, hi, hz0, hz1, hz2⟩ := info_parts info64
  have HT := hide hT
  have hxl := bts_len hx
  clear hT
  go_enter Tryd.func43, Tryd.ntmps43
  go_wp2
  go_loopw [3, 4] (fun lv rv wr => ∃ (r : Nat) (L : List Int) (ad : Option Addr) (c : Nat), r ≤ x ∧ rv = .int .u64 r ∧ lv = .slice ad L.length c ∧ IntR w.heap.size wr ad c L ∧ Below w.heap.size w wr ∧ Hid (L ++ bts r = bts x)) (fun _ rv _ => (intOf rv).toNat)
  case atStart => exact ⟨x, [], none, 0, Nat.le_refl _, rfl, rfl, intR_nil _ _, Below.refl _ _, hide rfl⟩
  case round =>
    obtain ⟨r, L, ad, c, hr, rfl, rfl, ho, hb, HE⟩ := hrel
    have HO := hide ho
    have HB := hide hb
    have hsz : w.heap.size ≤ wr.heap.size := hb.size
    have hLl : L.length ≤ 64 := by have := congrArg List.length HE.out; rw [List.length_append] at this; omega
    by_cases h0 : r = 0
    · subst h0
      have e : L = bts x := by have := HE.out; rw [bts_zero, List.append_nil] at this; exact this
      subst e
      clear ho hb
      go_wp2
      go_ret
      exact ⟨ad, c, rfl, HO.out, HB.out⟩
    · have hne : ((r : Int) == 0) = false := by rw [beq_eq_false_iff_ne]; omega
      have HST := hide (bts_step h0)
      have hcl := cut_lt h0
      have CT := hide (Any7.bits_TrailingZeros64 Tryd.lays29 r (by omega) wr (fun _ => tzT_go HT.out HB.out (Nat.le_refl _)))
      have hra : bits .and .u64 (r : Int) ((r : Int) - 1) = (cutB r : Int) := by rw [show (r : Int) - 1 = ((r - 1 : Nat) : Int) by omega, bits_and_u64_nat r (r - 1) (by omega) (by omega)]; rfl
      have hrw : IntKind.u64.wrap ((r : Int) - 1) = (r : Int) - 1 := by rw [IntKind.wrap_u64]; omega
      clear ho hb
      obtain ⟨z, hz⟩ : ∃ z, (Lib.ctz 64 r : Int) = z := ⟨_, rfl⟩
      rw [hz] at HST CT
      clear hz
      go_wp2_with (first
        | (go_at_call 76; refine CT.out.mono ?_; rintro e w9 ⟨rfl, h9⟩; rw [h9]; clear h9 w9)
        | (at_builtin; refine wpList_append_own _ rfl (.tmp 12) (.tmp 15) 30 rfl w.heap.size 2 i0 (.int .i64 0) 1 8 Tryd.underlying30 hi hz0 hz1 hz2 rfl (by decide) (.slice ad L.length c) L.length (L.map (Value.int .i64)) rfl (HO.out.alloc _) ⟨wr.heap.size, 0, none⟩ 1 1 [.int .i64 z] rfl rfl (fun j u hj => gOne_new wr _ _ j u hj) (gOne_list _ _) (by unfold maxLen; omega) (by omega) (by simp; omega) ?_; intro v2 w2 hown2 hgrow2 _; obtain ⟨ad2, c2', hv2⟩ := gOwn_shape hown2; rw [hv2] at hown2 ⊢; clear hv2; have HB3 := hide (gBelow_one HB.out HO.out hgrow2); have HO2 := hide hown2; clear hown2 hgrow2))
      go_roundw
      case rel => exact ⟨cutB r, L ++ [z], ad2, c2', by omega, by go_num, by rw [List.length_append, List.length_singleton], intR_put HO2.out, HB3.out, hide (by rw [List.append_assoc, List.singleton_append, ← HST.out]; exact HE.out)⟩
      case measure => simp [intOf]; omega
end Go.Proofs.YtfohfljdgmlibaaDoor

/-
  Contracts: what parts of a model tell (the program's).
-/
namespace Go.Proofs.YtfohfljdgmlibaaDoor
open Go.RowKit
set_option linter.unusedVariables false
set_option linter.unusedSimpArgs false
/-- What a part tells. -/
def paV (e : Bool) (f l : Nat) : Value := .agg #[.bool e, .int .u64 (f : Int), .int .u64 (l : Int)]
def thF (e1 : Bool) (f1 f2 : Nat) : Nat := if e1 = true then f1 ||| f2 else f1
def thL (e2 : Bool) (l2 l1 : Nat) : Nat := if e2 = true then l2 ||| l1 else l2
set_option maxRecDepth 100000 in
set_option maxHeartbeats 4000000 in
theorem i_then (e1 : Bool) (f1 l1 : Nat) (e2 : Bool) (f2 l2 : Nat) (w : World) (h1 : f1 < 18446744073709551616) (h2 : l1 < 18446744073709551616) (h3 : f2 < 18446744073709551616) (h4 : l2 < 18446744073709551616) :
    Calls Tryd.prog 87 #[paV e1 f1 l1, paV e2 f2 l2] w fun e w' => e = .returned (paV (e1 && e2) (thF e1 f1 f2) (thL e2 l2 l1)) ∧ Below w.heap.size w w' := by
  have b1 : bits .or .u64 (f1 : Int) (f2 : Int) = ((f1 ||| f2 : Nat) : Int) := u64_or_nat f1 f2 h1 h3
  have b2 : bits .or .u64 (l2 : Int) (l1 : Int) = ((l2 ||| l1 : Nat) : Int) := u64_or_nat l2 l1 h4 h2
  unfold paV
  cases e1 <;> cases e2
  all_goals
    go_enter Tryd.func87, Tryd.ntmps87
    go_wp2
    refine bodyPost_ret (v := .agg #[_, _, _]) (by simp [results, Tryd.results87, go_sem, b1, b2]; first | done | exact ⟨rfl, rfl, rfl⟩) rfl ⟨?_, ?_⟩
    rotate_left
    · iterate 4 (refine Below.alloc ?_ (by simp; try omega) _)
      exact Below.refl _ _
    · first | rfl | simp [thF, thL, b1, b2]
set_option maxRecDepth 100000 in
set_option maxHeartbeats 4000000 in
theorem i_or (e1 : Bool) (f1 l1 : Nat) (e2 : Bool) (f2 l2 : Nat) (w : World) (h1 : f1 < 18446744073709551616) (h2 : l1 < 18446744073709551616) (h3 : f2 < 18446744073709551616) (h4 : l2 < 18446744073709551616) :
    Calls Tryd.prog 68 #[paV e1 f1 l1, paV e2 f2 l2] w fun e w' => e = .returned (paV (e1 || e2) (f1 ||| f2) (l1 ||| l2)) ∧ Below w.heap.size w w' := by
  have b1 : bits .or .u64 (f1 : Int) (f2 : Int) = ((f1 ||| f2 : Nat) : Int) := u64_or_nat f1 f2 h1 h3
  have b2 : bits .or .u64 (l1 : Int) (l2 : Int) = ((l1 ||| l2 : Nat) : Int) := u64_or_nat l1 l2 h2 h4
  unfold paV
  cases e1 <;> cases e2
  all_goals
    go_enter Tryd.func68, Tryd.ntmps68
    go_wp2
    refine bodyPost_ret (v := .agg #[_, _, _]) (by simp [results, Tryd.results68, go_sem, b1, b2]; first | done | exact ⟨rfl, rfl, rfl⟩) rfl ⟨?_, ?_⟩
    rotate_left
    · iterate 3 (refine Below.alloc ?_ (by simp; try omega) _)
      exact Below.refl _ _
    · first | rfl | simp [b1, b2]
end Go.Proofs.YtfohfljdgmlibaaDoor
