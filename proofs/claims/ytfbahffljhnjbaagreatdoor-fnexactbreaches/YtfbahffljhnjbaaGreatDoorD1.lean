/-
  Texts put together: Base, AtRow.
-/
import Derived.WalkKit
import Derived.Below
import Derived.Test.YtfbahffljhnjbaaGreatDoorChecked
import Derived.OwnWalk
import Derived.Laws.OwnMore
import Derived.RegionTactic
import Derived.Deep.QuietTactic
import Derived.Deep.RegionWith
import Derived.BigQuiet
import Derived.Deep.Draws
import Derived.Deep.RegionHeld3
import Derived.Lib.SmallJoins
import Derived.KernelRfl
/-
  Plain facts on bytes and names, of no program: what a name is, byte by byte.
-/
namespace Go.Proofs.YtfbahffljhnjbaaGreatDoor
def firstB (c : Int) : Bool := decide ((97 ≤ c ∧ c ≤ 122) ∨ (65 ≤ c ∧ c ≤ 90) ∨ c = 95)
def digitB (c : Int) : Bool := decide (48 ≤ c ∧ c ≤ 57)
def moreB (c : Int) : Bool := decide ((97 ≤ c ∧ c ≤ 122) ∨ (65 ≤ c ∧ c ≤ 90) ∨ c = 95 ∨ (48 ≤ c ∧ c ≤ 57) ∨ c = 46 ∨ c = 45)
def at8 (s : ByteArray) (k : Nat) : Int := ((s.data.toList[k]?).getD 0).toNat
theorem at8_eq (s : ByteArray) (k : Nat) (h : k < s.size) : at8 s k = (s[k].toNat : Int) := by
  have h' : k < s.data.toList.length := by simpa using h
  unfold at8; rw [List.getElem?_eq_getElem h']; rfl
def nameB (s : ByteArray) : Bool := decide (1 ≤ s.size) && (decide (s.size ≤ 40) && (firstB (at8 s 0) && (List.range s.size).all fun j => j == 0 || moreB (at8 s j)))
theorem nameB_none (s : ByteArray) (h : s.size = 0) : nameB s = false := by simp [nameB, h]
theorem nameB_long (s : ByteArray) (h : 40 < s.size) : nameB s = false := by
  have : decide (s.size ≤ 40) = false := by simp; omega
  simp [nameB, this]
theorem nameB_first (s : ByteArray) (h0 : 0 < s.size) (h : firstB (s[0].toNat : Int) = false) : nameB s = false := by
  rw [← at8_eq s 0 h0] at h
  simp [nameB, h]
theorem nameB_more (s : ByteArray) (k : Nat) (h1 : 1 ≤ k) (hk : k < s.size) (h : moreB (s[k].toNat : Int) = false) : nameB s = false := by
  rw [← at8_eq s k hk] at h
  have : ((List.range s.size).all fun j => j == 0 || moreB (at8 s j)) = false := by
    rw [List.all_eq_false]
    refine ⟨k, by simpa using hk, ?_⟩
    have : (k == 0) = false := by simp; omega
    simp [this, h]
  simp [nameB, this]
theorem nameB_yes (s : ByteArray) (h0 : 0 < s.size) (h40 : s.size ≤ 40) (hf : firstB (s[0].toNat : Int) = true) (hm : ∀ j (h : j < s.size), 1 ≤ j → moreB (s[j].toNat : Int) = true) : nameB s = true := by
  rw [← at8_eq s 0 h0] at hf
  have : ((List.range s.size).all fun j => j == 0 || moreB (at8 s j)) = true := by
    rw [List.all_eq_true]
    intro j hj
    have hj' : j < s.size := by simpa using hj
    by_cases e : j = 0
    · simp [e]
    · have := hm j hj' (by omega)
      rw [← at8_eq s j hj'] at this
      simp [this]
  have h1 : decide (1 ≤ s.size) = true := by simp; omega
  have h2 : decide (s.size ≤ 40) = true := by simp; omega
  simp [nameB, this, h1, h2, hf]
theorem first_t {c : Int} (h : (97 ≤ c ∧ c ≤ 122) ∨ (65 ≤ c ∧ c ≤ 90) ∨ c = 95) : true = firstB c := (decide_eq_true h).symm
theorem first_f {c : Int} (h : ¬ ((97 ≤ c ∧ c ≤ 122) ∨ (65 ≤ c ∧ c ≤ 90) ∨ c = 95)) : false = firstB c := (decide_eq_false h).symm
theorem digit_t {c : Int} (h : 48 ≤ c ∧ c ≤ 57) : true = digitB c := (decide_eq_true h).symm
theorem digit_f {c : Int} (h : ¬ (48 ≤ c ∧ c ≤ 57)) : false = digitB c := (decide_eq_false h).symm
theorem more_t {c : Int} (h : (97 ≤ c ∧ c ≤ 122) ∨ (65 ≤ c ∧ c ≤ 90) ∨ c = 95 ∨ (48 ≤ c ∧ c ≤ 57) ∨ c = 46 ∨ c = 45) : true = moreB c := (decide_eq_true h).symm
theorem more_f {c : Int} (h : ¬ ((97 ≤ c ∧ c ≤ 122) ∨ (65 ≤ c ∧ c ≤ 90) ∨ c = 95 ∨ (48 ≤ c ∧ c ≤ 57) ∨ c = 46 ∨ c = 45)) : false = moreB c := (decide_eq_false h).symm
theorem hide {p : Prop} (h : p) : Go.RowKit.Hid p := h
def intOf : Value → Int | .int _ q => q | _ => 0
theorem ret_bool {a b : Bool} (h : a = b) : Ending.returned (.bool a) = .returned (.bool b) := by rw [h]
end Go.Proofs.YtfbahffljhnjbaaGreatDoor

/-
  Contracts of the laws' helpers on rows of attributes: how much they hold, a copy in new memory, and that two rows that are alike are told so.
-/
namespace Go.Proofs.YtfbahffljhnjbaaGreatDoor
open Go.RowKit Go.Joins
set_option linter.unusedVariables false
set_option linter.unusedSimpArgs false
theorem ret_iI {a b : Int} (h : a = b) : Ending.returned (.int .i64 a) = .returned (.int .i64 b) := by rw [h]
def sumN (f : Nat → Nat) : Nat → Nat
  | 0 => 0
  | k + 1 => sumN f k + f k
theorem sumN_le (f : Nat → Nat) {a b : Nat} (h : a ≤ b) : sumN f a ≤ sumN f b := by
  induction b with
  | zero => have : a = 0 := by omega
            subst this; exact Nat.le_refl _
  | succ b ih =>
    by_cases e : a = b + 1
    · subst e; exact Nat.le_refl _
    · have := ih (by omega)
      show sumN f a ≤ sumN f b + f b
      omega
theorem sumN_at (f : Nat → Nat) {a b : Nat} (h : a < b) : sumN f a + f a ≤ sumN f b := sumN_le f (a := a + 1) h
/-- What is left of 'left' when 'x' is taken away; -1: not so much was there. -/
def dn (left : Int) (x : Nat) : Int := if (x : Int) ≤ left then left - x else -1
theorem dn_yes {left : Int} {x : Nat} (h : (x : Int) ≤ left) : dn left x = left - x := by unfold dn; rw [if_pos h]
theorem dn_no {left : Int} {x : Nat} (h : ¬ (x : Int) ≤ left) : dn left x = -1 := by unfold dn; rw [if_neg h]
/-- What is laid of a row of attributes: its first 'n' pairs of cells hold the texts N and V, in a block below 'B'. -/
def AtAt (w : World) (a : Option Addr) (n : Nat) (N V : Nat → ByteArray) (B : Nat) : Prop :=
  0 < n → ∃ b off, a = some ⟨b, off, none⟩ ∧ b < B ∧ ∀ j, j < n → w.cell? ⟨b, off + j * 2, none⟩ = some (.string (N j)) ∧ w.cell? ⟨b, off + j * 2 + 1, none⟩ = some (.string (V j))
theorem atAt_go {w w' : World} {a : Option Addr} {n : Nat} {N V : Nat → ByteArray} {B : Nat} (h : AtAt w a n N V B) (k : Below B w w') : AtAt w' a n N V B := fun h0 => by
  obtain ⟨b, off, e, hb, hc⟩ := h h0
  exact ⟨b, off, e, hb, fun j hj => ⟨(k.cell (p := ⟨b, off + j * 2, none⟩) hb).trans (hc j hj).1, (k.cell (p := ⟨b, off + j * 2 + 1, none⟩) hb).trans (hc j hj).2⟩⟩
theorem atAt_up {w : World} {a : Option Addr} {n : Nat} {N V : Nat → ByteArray} {B B' : Nat} (h : AtAt w a n N V B) (k : B ≤ B') : AtAt w a n N V B' := fun h0 => by
  obtain ⟨b, off, e, hb, hc⟩ := h h0
  exact ⟨b, off, e, Nat.lt_of_lt_of_le hb k, hc⟩
theorem heap_setCell_size (w : World) (p : Addr) (v : Value) : (w.setCell p v).heap.size = w.heap.size := by simp [World.setCell]
theorem heap_setCell_far (w : World) (p : Addr) (v : Value) (G : Nat) (h : p.block ≠ G) : (w.setCell p v).heap[G]? = w.heap[G]? := by
  simp [World.setCell, Array.getElem?_modify, h]
theorem atAt_set {w : World} {g n : Nat} {N V : Nat → ByteArray} {B : Nat} (h : AtAt w (some ⟨g, 0, none⟩) n N V B) (p : Addr) (v : Value) (hne : p.block ≠ g) : AtAt (w.setCell p v) (some ⟨g, 0, none⟩) n N V B := fun h0 => by
  obtain ⟨b, off, e, hb, hc⟩ := h h0
  simp only [Option.some.injEq, Addr.mk.injEq] at e
  obtain ⟨rfl, rfl, -⟩ := e
  refine ⟨g, 0, rfl, hb, fun j hj => ⟨?_, ?_⟩⟩
  · rw [World.cell?_setCell_far _ _ _ _ hne]; exact (hc j hj).1
  · rw [World.cell?_setCell_far _ _ _ _ hne]; exact (hc j hj).2
theorem own_after {w w' : World} {B e size n : Nat} {v : Value} {xs : List Value} (h : w.ownsRow B e size v n xs) (hb : Below w.heap.size w w') : w'.ownsRow B e size v n xs := by
  obtain ⟨hl, h⟩ := h
  refine ⟨hl, ?_⟩
  rcases h with h | ⟨g, cap, cur, hv, hg, hh, h1, h2, h3, h4⟩
  · exact .inl h
  · have hlt : g < w.heap.size := (Array.getElem?_eq_some_iff.1 hh).1
    exact .inr ⟨g, cap, cur, hv, hg, (hb.block g hlt).trans hh, h1, h2, h3, h4⟩
theorem own_someN {w : World} {B g n t size : Nat} {xs : List Value} (h : w.ownsRow B t size (.slice (some ⟨g, 0, none⟩) n n) n xs) (j : Nat) (hj : j < n * size) : ∃ v, w.cell? ⟨g, j, none⟩ = some v := by
  rw [h.cellAt j hj]
  exact ⟨_, List.getElem?_eq_getElem (by rw [h.1]; exact hj)⟩
set_option maxHeartbeats 1000000 in
theorem l_toA (x y : ByteArray) (w : World) : Calls Tryz.prog 97 #[.agg #[.string x, .string y]] w fun e w' => e = .returned (.agg #[.string x, .string y]) ∧ Below w.heap.size w w' := by
  go_enter Tryz.func97, Tryz.ntmps97
  go_wp2
  refine bodyPost_ret (v := .agg #[.string x, .string y]) (by simp [results, Tryz.results97, go_sem]) rfl ⟨rfl, ?_⟩
  exact (((Below.refl _ _).alloc (Nat.le_refl _) _).alloc (by simp) _).alloc (by simp; omega) _
/-- Of a row of cells the first k pairs are the texts N and V. -/
def PairsS (xs : List Value) (k : Nat) (N V : Nat → ByteArray) : Prop := ∀ j, j < k → xs[j * 2]? = some (.string (N j)) ∧ xs[j * 2 + 1]? = some (.string (V j))
theorem pairsS_step {xs : List Value} {k n : Nat} {N V : Nat → ByteArray} (h : PairsS xs k N V) (hk : k < n) (hl : xs.length = n * 2) :
    PairsS ((xs.set (k * 2) (.string (N k))).set (k * 2 + 1) (.string (V k))) (k + 1) N V := by
  intro j hj
  simp only [List.getElem?_set, List.length_set]
  by_cases e : j = k
  · subst e
    refine ⟨?_, ?_⟩
    · rw [if_neg (by omega), if_pos rfl, if_pos (by omega)]
    · rw [if_pos rfl, if_pos (by omega)]
  · have hj' := h j (by omega)
    refine ⟨?_, ?_⟩
    · rw [if_neg (by omega), if_neg (by omega)]; exact hj'.1
    · rw [if_neg (by omega), if_neg (by omega)]; exact hj'.2
theorem own_at {w : World} {B g n t : Nat} {xs : List Value} {N V : Nat → ByteArray} (h : w.ownsRow B t 2 (.slice (some ⟨g, 0, none⟩) n n) n xs) (hp : PairsS xs n N V) : AtAt w (some ⟨g, 0, none⟩) n N V w.heap.size := fun h0 => by
  have hg : g < w.heap.size := (h.lt g rfl).2
  refine ⟨g, 0, rfl, hg, fun j hj => ?_⟩
  refine ⟨?_, ?_⟩
  · rw [Nat.zero_add, h.cellAt (j * 2) (by omega)]; exact (hp j hj).1
  · rw [Nat.zero_add, h.cellAt (j * 2 + 1) (by omega)]; exact (hp j hj).2
theorem infoA : (Tryz.prog.info? 99).map (fun i => (i.zero, i.size, i.bytes)) = some (some (.agg #[.string ⟨#[]⟩, .string ⟨#[]⟩]), 2, 32) := by kernel_rfl
set_option maxHeartbeats 1000000 in
theorem l_toAs (a : Option Addr) (n cap : Nat) (N V : Nat → ByteArray) (w : World) (hn : n ≤ 1048576) (hr : AtAt w a n N V w.heap.size) :
    Calls Tryz.prog 65 #[.slice a n cap] w fun e w' => e = .returned (.slice (some ⟨w.heap.size, 0, none⟩) n n) ∧
      AtAt w' (some ⟨w.heap.size, 0, none⟩) n N V w'.heap.size ∧ Below w.heap.size w w' := by
  obtain ⟨i0, hi, hz0, hz1, hz2⟩ := info_parts infoA
  have HR := hide hr
  clear hr
  go_enter Tryz.func65, Tryz.ntmps65
  go_wp2_with (at_make; refine wpList_make_full _ rfl _ _ 64 rfl w.heap.size 99 i0 (.agg #[.string ⟨#[]⟩, .string ⟨#[]⟩]) 2 Tryz.underlying64 hi hz0 hz1 .i64 .i64 _ _ n rfl rfl rfl rfl (by rw [hz2]; omega) (by unfold maxLen; omega) (Nat.le_refl _) ?_; intro w1 hown hgrow)
  have hb1 : Below w.heap.size w w1 := (Below.refl _ _).grown hgrow (Nat.le_refl _) (fun k h => by cases h)
  clear hgrow
  go_loopw [4] (fun i wr => ∃ k : Nat, k ≤ n ∧ i = .int .i64 k ∧ (∃ xs, wr.ownsRow w.heap.size 99 2 (.slice (some ⟨w.heap.size, 0, none⟩) n n) n xs ∧ PairsS xs k N V) ∧ Below w.heap.size w wr) (fun i _ => n - (intOf i).toNat)
  case atStart => exact ⟨0, Nat.zero_le _, rfl, ⟨_, hown, fun j h => by omega⟩, hb1⟩
  case round =>
    clear hown hb1
    obtain ⟨k, hk, rfl, ⟨xs, hown, hp⟩, hb⟩ := hrel
    by_cases hlt : k < n
    · obtain ⟨b, off, rfl, hbs, hc⟩ := HR.out (by omega)
      have hc1 : wr.cell? ⟨b, off + k * 2, none⟩ = some (.string (N k)) := (hb.cell hbs).trans (hc k hlt).1
      have hc2 : wr.cell? ⟨b, off + k * 2 + 1, none⟩ = some (.string (V k)) := (hb.cell hbs).trans (hc k hlt).2
      have HP := hide hp
      have HB := hide hb
      have HO := hide hown
      clear hp hb hc hown
      go_wp2_with (go_at_call 97; refine (l_toA _ _ _).mono ?_; rintro e w2 ⟨rfl, hb2⟩; have hown2 := own_after HO.out hb2; have hf0 := hown2.frozenAt (k * 2); have hf1 := hown2.frozenAt (k * 2 + 1); obtain ⟨x0, hx0⟩ := own_someN hown2 (k * 2) (by omega); obtain ⟨x1, hx1⟩ := own_someN hown2 (k * 2 + 1) (by omega); replace HB := hide (HB.out.trans (hb2.mono HB.out.size)); replace HO := hide hown2; clear hown2 hb2)
      go_roundw
      case rel =>
        refine ⟨k + 1, by omega, by go_num, ⟨_, ((HO.out.stored (k * 2) (.string (N k))).1.stored (k * 2 + 1) (.string (V k))).1, pairsS_step HP.out hlt HO.out.1⟩, (HB.out.setCell (Nat.le_refl _) _).setCell (Nat.le_refl _) _⟩
      case measure => simp [intOf]; omega
    · have hkn : k = n := by omega
      subst hkn
      go_wp2
      go_ret
      exact ⟨rfl, own_at hown hp, hb⟩
def atSz (N V : Nat → ByteArray) (j : Nat) : Nat := (N j).size + (V j).size
def atTot (n : Nat) (N V : Nat → ByteArray) : Nat := n + sumN (atSz N V) n
theorem l_szA (x y : ByteArray) (left : Int) (w : World) (hx : x.size ≤ maxLen) (hy : y.size ≤ maxLen) (h0 : 0 ≤ left) (h1 : left ≤ 1048576) : Calls Tryz.prog 86 #[.agg #[.string x, .string y], .int .i64 left] w fun e w' => e = .returned (.int .i64 (dn left (x.size + y.size))) ∧ Below w.heap.size w w' := by
  unfold maxLen at hx hy
  by_cases p : (x.size : Int) ≤ left
  · by_cases q : (y.size : Int) ≤ left - x.size
    · have hd := hide (dn_yes (left := left) (x := x.size + y.size) (by omega))
      go_enter Tryz.func86, Tryz.ntmps86
      go_wp2
      go_ret
      exact ⟨ret_iI (by rw [hd.out]; omega), (Below.refl _ _).alloc (Nat.le_refl _) _⟩
    · have hd := hide (dn_no (left := left) (x := x.size + y.size) (by omega))
      go_enter Tryz.func86, Tryz.ntmps86
      go_wp2
      go_ret
      exact ⟨ret_iI (by rw [hd.out]), (Below.refl _ _).alloc (Nat.le_refl _) _⟩
  · have hd := hide (dn_no (left := left) (x := x.size + y.size) (by omega))
    go_enter Tryz.func86, Tryz.ntmps86
    go_wp2
    go_ret
    exact ⟨ret_iI (by rw [hd.out]), (Below.refl _ _).alloc (Nat.le_refl _) _⟩
set_option maxHeartbeats 1000000 in
theorem l_szAs (a : Option Addr) (n c : Nat) (N V : Nat → ByteArray) (left : Int) (w : World) (hn : n ≤ maxLen) (hs : ∀ j, j < n → (N j).size ≤ maxLen ∧ (V j).size ≤ maxLen) (h0 : 0 ≤ left) (h1 : left ≤ 1048576) (hr : AtAt w a n N V w.heap.size) :
    Calls Tryz.prog 55 #[.slice a n c, .int .i64 left] w fun e w' => e = .returned (.int .i64 (dn left (atTot n N V))) ∧ Below w.heap.size w w' := by
  unfold maxLen at hn
  have HS := hide hs
  have HR := hide hr
  clear hr hs
  by_cases hb0 : left < (n : Int)
  · have hd := hide (dn_no (left := left) (x := atTot n N V) (by unfold atTot; omega))
    go_enter Tryz.func55, Tryz.ntmps55
    go_wp2
    go_ret
    exact ⟨ret_iI (by rw [hd.out]), Below.refl _ _⟩
  · go_enter Tryz.func55, Tryz.ntmps55
    go_wp2
    go_loopw [1, 5] (fun l i wr => ∃ k : Nat, k ≤ n ∧ i = .int .i64 k ∧ l = .int .i64 (left - (n : Int) - (sumN (atSz N V) k : Int)) ∧ (n : Int) + (sumN (atSz N V) k : Int) ≤ left ∧ Below w.heap.size w wr) (fun _ i _ => n - (intOf i).toNat)
    case atStart => exact ⟨0, Nat.zero_le _, rfl, by simp [sumN], by show (n : Int) + ((0 : Nat) : Int) ≤ _; omega, Below.refl _ _⟩
    case round =>
      obtain ⟨k, hk, rfl, rfl, hle, hb⟩ := hrel
      by_cases hlt : k < n
      · obtain ⟨b, off, rfl, hbs, hc⟩ := HR.out (by omega)
        have c0 : wr.cell? ⟨b, off + k * 2, none⟩ = some (.string (N k)) := (hb.cell hbs).trans (hc k hlt).1
        have c1 : wr.cell? ⟨b, off + k * 2 + 1, none⟩ = some (.string (V k)) := (hb.cell hbs).trans (hc k hlt).2
        obtain ⟨s0, s1⟩ := HS.out k hlt
        have HS0 := hide s0
        have HS1 := hide s1
        have HB := hide hb
        obtain ⟨q, hq⟩ : ∃ q, sumN (atSz N V) k = q := ⟨_, rfl⟩
        have hq1 : sumN (atSz N V) (k + 1) = q + ((N k).size + (V k).size) := by rw [← hq]; rfl
        have HQ1 := hide hq1
        rw [hq] at hle ⊢
        have HLE := hide (sumN_le (atSz N V) (a := k + 1) (b := n) (by omega))
        clear hq hq1 hb hc s0 s1
        by_cases hbig : (((N k).size + (V k).size : Nat) : Int) ≤ left - (n : Int) - (q : Int)
        · have hbig2 : (0 : Int) ≤ left - (n : Int) - (q : Int) - (((N k).size + (V k).size : Nat) : Int) := by omega
          go_wp2_with (go_at_call 86; refine (l_szA _ _ _ _ HS0.out HS1.out (by omega) (by omega)).mono ?_; rintro e w2 ⟨rfl, hb2⟩; rw [dn_yes hbig]; have HB2 := hide (HB.out.trans (hb2.mono HB.out.size)); clear hb2)
          go_roundw
          case rel => exact ⟨k + 1, by omega, by go_num, by rw [HQ1.out]; go_num, by rw [HQ1.out]; omega, HB2.out⟩
          case measure => simp [intOf]; omega
        · have hd := hide (dn_no (left := left) (x := atTot n N V) (by have := HLE.out; rw [HQ1.out] at this; unfold atTot; omega))
          go_wp2_with (go_at_call 86; refine (l_szA _ _ _ _ HS0.out HS1.out (by omega) (by omega)).mono ?_; rintro e w2 ⟨rfl, hb2⟩; rw [dn_no hbig]; have HB2 := hide (HB.out.trans (hb2.mono HB.out.size)); clear hb2)
          go_ret
          exact ⟨ret_iI (by rw [hd.out]), HB2.out⟩
      · have hkn : k = n := by omega
        subst hkn
        have hd := hide (dn_yes (left := left) (x := atTot k N V) (by unfold atTot; omega))
        go_wp2
        go_ret
        exact ⟨ret_iI (by rw [hd.out]; unfold atTot; omega), hb⟩
theorem l_eqA (x y : ByteArray) (w : World) : Calls Tryz.prog 111 #[.agg #[.string x, .string y], .agg #[.string x, .string y]] w fun e w' => e = .returned (.bool true) ∧ Below w.heap.size w w' := by
  go_enter Tryz.func111, Tryz.ntmps111
  go_wp2
  go_ret
  exact ⟨rfl, ((Below.refl _ _).alloc (Nat.le_refl _) _).alloc (by simp) _⟩
def EQA (w w' : World) (p q : Addr) (x y : ByteArray) : Prop := Below w.heap.size w w' ∧ (p.block < w.heap.size ∧ q.block < w.heap.size) ∧
  (w'.cell? p = some (.string x) ∧ w'.cell? ⟨p.block, p.off + 1, p.spot⟩ = some (.string y)) ∧ (w'.cell? q = some (.string x) ∧ w'.cell? ⟨q.block, q.off + 1, q.spot⟩ = some (.string y))
theorem eqa_go {w w1 w2 : World} {p q : Addr} {x y : ByteArray} (h : EQA w w1 p q x y) (k : Below w1.heap.size w1 w2) : EQA w w2 p q x y := by
  obtain ⟨hb, ⟨h1, h2⟩, ⟨c1, c2⟩, ⟨c3, c4⟩⟩ := h
  have s := hb.size
  exact ⟨hb.trans (k.mono s), ⟨h1, h2⟩, ⟨(k.cell (p := p) (by omega)).trans c1, (k.cell (p := ⟨p.block, p.off + 1, p.spot⟩) (by simp; omega)).trans c2⟩, ⟨(k.cell (p := q) (by omega)).trans c3, (k.cell (p := ⟨q.block, q.off + 1, q.spot⟩) (by simp; omega)).trans c4⟩⟩
theorem eqa_drew {w w1 : World} {p q : Addr} {x y : ByteArray} (h : EQA w w1 p q x y) : EQA w w1.drew p q x y := eqa_go h ⟨rfl, rfl, rfl, Nat.le_refl _, fun _ _ => rfl⟩
theorem eqa_all {w w1 : World} {b o b' o' : Nat} {x y : ByteArray} (h : EQA w w1 ⟨b, o, none⟩ ⟨b', o', none⟩ x y) : EQA w w1 ⟨b, o, none⟩ ⟨b', o', none⟩ x y ∧ w1.cell? ⟨b, o, none⟩ = some (.string x) ∧ w1.cell? ⟨b, o + 1, none⟩ = some (.string y) ∧ w1.cell? ⟨b', o', none⟩ = some (.string x) ∧ w1.cell? ⟨b', o' + 1, none⟩ = some (.string y) :=
  ⟨h, h.2.2.1.1, h.2.2.1.2, h.2.2.2.1, h.2.2.2.2⟩
set_option maxHeartbeats 1000000 in
theorem l_eqAs (a1 a2 : Option Addr) (n c1 c2 : Nat) (N V : Nat → ByteArray) (w : World) (hn : n ≤ 1048576) (h1 : AtAt w a1 n N V w.heap.size) (h2 : AtAt w a2 n N V w.heap.size) :
    Calls Tryz.prog 74 #[.slice a1 n c1, .slice a2 n c2] w fun e w' => e = .returned (.bool true) ∧ Below w.heap.size w w' := by
  have H1 := hide h1
  have H2 := hide h2
  clear h1 h2
  go_enter Tryz.func74, Tryz.ntmps74
  go_wp2
  go_loopw [5] (fun i wr => ∃ k : Nat, k ≤ n ∧ i = .int .i64 k ∧ Below w.heap.size w wr) (fun i _ => n - (intOf i).toNat)
  case atStart => exact ⟨0, Nat.zero_le _, rfl, Below.refl _ _⟩
  case round =>
    obtain ⟨k, hk, rfl, hb⟩ := hrel
    by_cases hlt : k < n
    · obtain ⟨b, off, rfl, hbs, hc⟩ := H1.out (by omega)
      obtain ⟨b', off', rfl, hbs', hc'⟩ := H2.out (by omega)
      have X : Hid (EQA w wr ⟨b, off + k * 2, none⟩ ⟨b', off' + k * 2, none⟩ (N k) (V k)) := ⟨hb, ⟨hbs, hbs'⟩, ⟨(hb.cell hbs).trans (hc k hlt).1, (hb.cell (p := ⟨b, off + k * 2 + 1, none⟩) hbs).trans (hc k hlt).2⟩, ⟨(hb.cell hbs').trans (hc' k hlt).1, (hb.cell (p := ⟨b', off' + k * 2 + 1, none⟩) hbs').trans (hc' k hlt).2⟩⟩
      have hi : (k : Int) < (n : Int) := by omega
      have hi0 : (0 : Int) ≤ (k : Int) := by omega
      clear hc hc' hb
      go_wp2
      go_region_held3 (fun w' => EQA w w' ⟨b, off + k * 2, none⟩ ⟨b', off' + k * 2, none⟩ (N k) (V k) ∧ w'.cell? ⟨b, off + k * 2, none⟩ = some (.string (N k)) ∧ w'.cell? ⟨b, off + k * 2 + 1, none⟩ = some (.string (V k)) ∧ w'.cell? ⟨b', off' + k * 2, none⟩ = some (.string (N k)) ∧ w'.cell? ⟨b', off' + k * 2 + 1, none⟩ = some (.string (V k))) (first | assumption | exact eqa_all (eqa_drew X.out) | exact eqa_all X.out) (first | (go_at_call 111; refine (l_eqA _ _ _).mono ?_; rintro e w2 ⟨rfl, hb2⟩; have X2 := hide (eqa_go (eqa_drew X.out) hb2); replace X := X2; clear X2 hb2))
      all_goals
        go_wp2
        go_roundw
        case rel => exact ⟨k + 1, by omega, by go_num, X.out.1⟩
        case measure => simp [intOf]; omega
    · go_wp2
      go_ret
      exact ⟨rfl, hb⟩
end Go.Proofs.YtfbahffljhnjbaaGreatDoor
