/-
  Texts put together: Base, RngMath, Rng, Rngs.
-/
import Derived.WalkKit
import Derived.Below
import Derived.Test.YtepommmmmfaihaaDoorChecked
import Derived.OwnWalk
import Derived.Laws.OwnMore
import Derived.RegionTactic
import Derived.Deep.QuietTactic
import Derived.Deep.RegionWith
import Derived.BigQuiet
import Derived.Deep.Draws
import Derived.KernelRfl
/-
  Plain facts on bytes and names, of no program: what a name is, byte by byte.
-/
namespace Go.Proofs.YtepommmmmfaihaaDoor
def firstB (c : Int) : Bool := decide ((97 ≤ c ∧ c ≤ 122) ∨ (65 ≤ c ∧ c ≤ 90) ∨ c = 95)
def digitB (c : Int) : Bool := decide (48 ≤ c ∧ c ≤ 57)
def moreB (c : Int) : Bool := decide ((97 ≤ c ∧ c ≤ 122) ∨ (65 ≤ c ∧ c ≤ 90) ∨ c = 95 ∨ (48 ≤ c ∧ c ≤ 57) ∨ c = 46 ∨ c = 45)
def at8 (s : ByteArray) (k : Nat) : Int := ((s.data.toList[k]?).getD 0).toNat
theorem at8_eq (s : ByteArray) (k : Nat) (h : k < s.size) : at8 s k = (s[k].toNat : Int) := by
  have h' : k < s.data.toList.length := by simpa using h
  unfold at8; rw [List.getElem?_eq_getElem h']; rfl
def nameB (s : ByteArray) : Bool := decide (1 ≤ s.size) && (decide (s.size ≤ 40) && (firstB (at8 s 0) && (List.range s.size).all fun j => j == 0 || moreB (at8 s j)))
theorem nameB_none (s : ByteArray) (h : s.size = 0) : nameB s = false := by simp [nameB, h]
theorem nameB_long (s : ByteArray) (h : 40 < s.size) : nameB s = false := by
  have : decide (s.size ≤ 40) = false := by simp; omega
  simp [nameB, this]
theorem nameB_first (s : ByteArray) (h0 : 0 < s.size) (h : firstB (s[0].toNat : Int) = false) : nameB s = false := by
  rw [← at8_eq s 0 h0] at h
  simp [nameB, h]
theorem nameB_more (s : ByteArray) (k : Nat) (h1 : 1 ≤ k) (hk : k < s.size) (h : moreB (s[k].toNat : Int) = false) : nameB s = false := by
  rw [← at8_eq s k hk] at h
  have : ((List.range s.size).all fun j => j == 0 || moreB (at8 s j)) = false := by
    rw [List.all_eq_false]
    refine ⟨k, by simpa using hk, ?_⟩
    have : (k == 0) = false := by simp; omega
    simp [this, h]
  simp [nameB, this]
theorem nameB_yes (s : ByteArray) (h0 : 0 < s.size) (h40 : s.size ≤ 40) (hf : firstB (s[0].toNat : Int) = true) (hm : ∀ j (h : j < s.size), 1 ≤ j → moreB (s[j].toNat : Int) = true) : nameB s = true := by
  rw [← at8_eq s 0 h0] at hf
  have : ((List.range s.size).all fun j => j == 0 || moreB (at8 s j)) = true := by
    rw [List.all_eq_true]
    intro j hj
    have hj' : j < s.size := by simpa using hj
    by_cases e : j = 0
    · simp [e]
    · have := hm j hj' (by omega)
      rw [← at8_eq s j hj'] at this
      simp [this]
  have h1 : decide (1 ≤ s.size) = true := by simp; omega
  have h2 : decide (s.size ≤ 40) = true := by simp; omega
  simp [nameB, this, h1, h2, hf]
theorem first_t {c : Int} (h : (97 ≤ c ∧ c ≤ 122) ∨ (65 ≤ c ∧ c ≤ 90) ∨ c = 95) : true = firstB c := (decide_eq_true h).symm
theorem first_f {c : Int} (h : ¬ ((97 ≤ c ∧ c ≤ 122) ∨ (65 ≤ c ∧ c ≤ 90) ∨ c = 95)) : false = firstB c := (decide_eq_false h).symm
theorem digit_t {c : Int} (h : 48 ≤ c ∧ c ≤ 57) : true = digitB c := (decide_eq_true h).symm
theorem digit_f {c : Int} (h : ¬ (48 ≤ c ∧ c ≤ 57)) : false = digitB c := (decide_eq_false h).symm
theorem more_t {c : Int} (h : (97 ≤ c ∧ c ≤ 122) ∨ (65 ≤ c ∧ c ≤ 90) ∨ c = 95 ∨ (48 ≤ c ∧ c ≤ 57) ∨ c = 46 ∨ c = 45) : true = moreB c := (decide_eq_true h).symm
theorem more_f {c : Int} (h : ¬ ((97 ≤ c ∧ c ≤ 122) ∨ (65 ≤ c ∧ c ≤ 90) ∨ c = 95 ∨ (48 ≤ c ∧ c ≤ 57) ∨ c = 46 ∨ c = 45)) : false = moreB c := (decide_eq_false h).symm
theorem hide {p : Prop} (h : p) : Go.RowKit.Hid p := h
def intOf : Value → Int | .int _ q => q | _ => 0
theorem ret_bool {a b : Bool} (h : a = b) : Ending.returned (.bool a) = .returned (.bool b) := by rw [h]
end Go.Proofs.YtepommmmmfaihaaDoor

/-
  Plain facts on classes and ranges, of no program: which numbers are characters, which rows of ranges are right, what a class has, which nodes are right by themselves.
-/
namespace Go.Proofs.YtepommmmmfaihaaDoor
def chB (r : Int) : Bool := decide ((0 ≤ r ∧ r ≤ 55295) ∨ (57344 ≤ r ∧ r ≤ 1114111))
theorem chB_cases {r : Int} (h : chB r = true) : (0 ≤ r ∧ r ≤ 55295) ∨ (57344 ≤ r ∧ r ≤ 1114111) := of_decide_eq_true h
theorem chB_not {r : Int} (h : chB r = false) : ¬ ((0 ≤ r ∧ r ≤ 55295) ∨ (57344 ≤ r ∧ r ≤ 1114111)) := of_decide_eq_false h
/-- One range is right. -/
def rgB (l h : Int) : Bool := chB l && (chB h && decide (l ≤ h))
/-- All of the first n ranges are right. -/
def rgsB (n : Nat) (L H : Nat → Int) : Bool := (List.range n).all fun j => rgB (L j) (H j)
theorem rgsB_no {n : Nat} {L H : Nat → Int} {k : Nat} (hk : k < n) (h : rgB (L k) (H k) = false) : rgsB n L H = false := by
  unfold rgsB
  rw [List.all_eq_false]
  exact ⟨k, by simpa using hk, by simp [h]⟩
theorem rgsB_yes {n : Nat} {L H : Nat → Int} (h : ∀ k, k < n → rgB (L k) (H k) = true) : rgsB n L H = true := by
  unfold rgsB
  rw [List.all_eq_true]
  intro j hj
  exact h j (by simpa using hj)
def rowB (n : Nat) (L H : Nat → Int) : Bool := decide (1 ≤ n ∧ n ≤ 12) && rgsB n L H
/-- A range has r. -/
def hasB (l h r : Int) : Bool := decide (l ≤ r ∧ r ≤ h)
/-- One of the first n ranges has r. -/
def anyB (n : Nat) (L H : Nat → Int) (r : Int) : Bool := (List.range n).any fun j => hasB (L j) (H j) r
theorem anyB_zero (L H : Nat → Int) (r : Int) : anyB 0 L H r = false := rfl
theorem anyB_succ (n : Nat) (L H : Nat → Int) (r : Int) : anyB (n + 1) L H r = (anyB n L H r || hasB (L n) (H n) r) := by
  unfold anyB
  rw [List.range_succ, List.any_append]
  simp
theorem anyB_hit {n : Nat} {L H : Nat → Int} {r : Int} {k : Nat} (hk : k < n) (h : hasB (L k) (H k) r = true) : anyB n L H r = true := by
  unfold anyB
  rw [List.any_eq_true]
  exact ⟨k, by simpa using hk, h⟩
/-- A node is right by itself. -/
def nodeB (kd : Int) (nt : Bool) (n : Nat) (L H : Nat → Int) (a b mn mx : Int) : Bool :=
  if kd = 1 then !nt && (((n : Int) == 0) && (a == 0 && (b == 0 && (mn == 0 && mx == 0))))
  else if kd = 2 then rowB n L H && (a == 0 && (b == 0 && (mn == 0 && mx == 0)))
  else if kd = 3 ∨ kd = 4 then !nt && (((n : Int) == 0) && (mn == 0 && mx == 0))
  else if kd = 5 then !nt && (((n : Int) == 0) && (b == 0 && (decide (0 ≤ mn ∧ mn ≤ 20) && (mx == -1 || decide (mn ≤ mx ∧ mx ≤ 20)))))
  else false
/-- What ClassHas answers. -/
def clsB (kd : Int) (nt : Bool) (n : Nat) (L H : Nat → Int) (a b mn mx r : Int) : Bool :=
  if kd = 2 then nodeB kd nt n L H a b mn mx && (chB r && (anyB n L H r != nt)) else false
end Go.Proofs.YtepommmmmfaihaaDoor

/-
  Contracts of the laws' helpers on rows of ranges: a copy in new memory, and that two rows that are alike are told so; and the small tests of numbers.
-/
namespace Go.Proofs.YtepommmmmfaihaaDoor
open Go.RowKit
set_option linter.unusedVariables false
set_option linter.unusedSimpArgs false

theorem infoR : (Tryd.prog.info? 46).map (fun i => (i.zero, i.size, i.bytes)) = some (some (.agg #[.int .i64 0, .int .i64 0]), 2, 16) := by kernel_rfl

theorem s_inT (n a b : Int) (w : World) (h : a ≤ n ∧ n ≤ b) : Calls Tryd.prog 56 #[.int .i64 n, .int .i64 a, .int .i64 b] w fun e w' => e = .returned (.bool true) ∧ w' = w := by
  obtain ⟨h1, h2⟩ := h
  go_enter Tryd.func56, Tryd.ntmps56
  go_wp2
  go_ret
  exact ⟨rfl, rfl⟩
theorem s_inF (n a b : Int) (w : World) (h : ¬ (a ≤ n ∧ n ≤ b)) : Calls Tryd.prog 56 #[.int .i64 n, .int .i64 a, .int .i64 b] w fun e w' => e = .returned (.bool false) ∧ w' = w := by
  by_cases h1 : a ≤ n
  · have h2 : ¬ n ≤ b := fun x => h ⟨h1, x⟩
    clear h
    go_enter Tryd.func56, Tryd.ntmps56
    go_wp2
    go_ret
    exact ⟨rfl, rfl⟩
  · clear h
    go_enter Tryd.func56, Tryd.ntmps56
    go_wp2
    go_ret
    exact ⟨rfl, rfl⟩
theorem i_inT (n a b : Int) (w : World) (h : a ≤ n ∧ n ≤ b) : Calls Tryd.prog 51 #[.int .i64 n, .int .i64 a, .int .i64 b] w fun e w' => e = .returned (.bool true) ∧ w' = w := by
  obtain ⟨h1, h2⟩ := h
  go_enter Tryd.func51, Tryd.ntmps51
  go_wp2
  go_ret
  exact ⟨rfl, rfl⟩
theorem i_inF (n a b : Int) (w : World) (h : ¬ (a ≤ n ∧ n ≤ b)) : Calls Tryd.prog 51 #[.int .i64 n, .int .i64 a, .int .i64 b] w fun e w' => e = .returned (.bool false) ∧ w' = w := by
  by_cases h1 : a ≤ n
  · have h2 : ¬ n ≤ b := fun x => h ⟨h1, x⟩
    clear h
    go_enter Tryd.func51, Tryd.ntmps51
    go_wp2
    go_ret
    exact ⟨rfl, rfl⟩
  · clear h
    go_enter Tryd.func51, Tryd.ntmps51
    go_wp2
    go_ret
    exact ⟨rfl, rfl⟩
theorem s_chT (r : Int) (w : World) (h : chB r = true) : Calls Tryd.prog 42 #[.int .i64 r] w fun e w' => e = .returned (.bool true) ∧ w' = w := by
  by_cases h1 : 0 ≤ r ∧ r ≤ 55295
  · go_enter Tryd.func42, Tryd.ntmps42
    go_wp2_with (go_at_call 56; refine (s_inT _ _ _ _ h1).mono ?_; rintro e w' ⟨rfl, rfl⟩)
    go_ret
    exact ⟨rfl, rfl⟩
  · have h2 : 57344 ≤ r ∧ r ≤ 1114111 := (chB_cases h).resolve_left h1
    go_enter Tryd.func42, Tryd.ntmps42
    go_wp2_with (first | (go_at_call_of 56 (Value.int .i64 55295); refine (s_inF _ _ _ _ h1).mono ?_; rintro e w' ⟨rfl, rfl⟩) | (go_at_call_of 56 (Value.int .i64 57344); refine (s_inT _ _ _ _ h2).mono ?_; rintro e w' ⟨rfl, rfl⟩))
    go_ret
    exact ⟨rfl, rfl⟩
theorem s_chF (r : Int) (w : World) (h : chB r = false) : Calls Tryd.prog 42 #[.int .i64 r] w fun e w' => e = .returned (.bool false) ∧ w' = w := by
  have h1 : ¬ (0 ≤ r ∧ r ≤ 55295) := fun x => chB_not h (Or.inl x)
  have h2 : ¬ (57344 ≤ r ∧ r ≤ 1114111) := fun x => chB_not h (Or.inr x)
  go_enter Tryd.func42, Tryd.ntmps42
  go_wp2_with (first | (go_at_call_of 56 (Value.int .i64 55295); refine (s_inF _ _ _ _ h1).mono ?_; rintro e w' ⟨rfl, rfl⟩) | (go_at_call_of 56 (Value.int .i64 57344); refine (s_inF _ _ _ _ h2).mono ?_; rintro e w' ⟨rfl, rfl⟩))
  go_ret
  exact ⟨rfl, rfl⟩
theorem i_chT (r : Int) (w : World) (h : chB r = true) : Calls Tryd.prog 50 #[.int .i64 r] w fun e w' => e = .returned (.bool true) ∧ w' = w := by
  by_cases h1 : 0 ≤ r ∧ r ≤ 55295
  · go_enter Tryd.func50, Tryd.ntmps50
    go_wp2_with (go_at_call 51; refine (i_inT _ _ _ _ h1).mono ?_; rintro e w' ⟨rfl, rfl⟩)
    go_ret
    exact ⟨rfl, rfl⟩
  · have h2 : 57344 ≤ r ∧ r ≤ 1114111 := (chB_cases h).resolve_left h1
    go_enter Tryd.func50, Tryd.ntmps50
    go_wp2_with (first | (go_at_call_of 51 (Value.int .i64 55295); refine (i_inF _ _ _ _ h1).mono ?_; rintro e w' ⟨rfl, rfl⟩) | (go_at_call_of 51 (Value.int .i64 57344); refine (i_inT _ _ _ _ h2).mono ?_; rintro e w' ⟨rfl, rfl⟩))
    go_ret
    exact ⟨rfl, rfl⟩
theorem i_chF (r : Int) (w : World) (h : chB r = false) : Calls Tryd.prog 50 #[.int .i64 r] w fun e w' => e = .returned (.bool false) ∧ w' = w := by
  have h1 : ¬ (0 ≤ r ∧ r ≤ 55295) := fun x => chB_not h (Or.inl x)
  have h2 : ¬ (57344 ≤ r ∧ r ≤ 1114111) := fun x => chB_not h (Or.inr x)
  go_enter Tryd.func50, Tryd.ntmps50
  go_wp2_with (first | (go_at_call_of 51 (Value.int .i64 55295); refine (i_inF _ _ _ _ h1).mono ?_; rintro e w' ⟨rfl, rfl⟩) | (go_at_call_of 51 (Value.int .i64 57344); refine (i_inF _ _ _ _ h2).mono ?_; rintro e w' ⟨rfl, rfl⟩))
  go_ret
  exact ⟨rfl, rfl⟩

/-- What is laid of a row of ranges: its first 'n' pairs of cells hold L and H, in a block below 'B'. -/
def RngAt (w : World) (a : Option Addr) (n : Nat) (L H : Nat → Int) (B : Nat) : Prop :=
  0 < n → ∃ b off, a = some ⟨b, off, none⟩ ∧ b < B ∧ ∀ j, j < n → w.cell? ⟨b, off + j * 2, none⟩ = some (.int .i64 (L j)) ∧ w.cell? ⟨b, off + j * 2 + 1, none⟩ = some (.int .i64 (H j))
theorem rngAt_go {w w' : World} {a : Option Addr} {n : Nat} {L H : Nat → Int} {B : Nat} (h : RngAt w a n L H B) (k : Below B w w') : RngAt w' a n L H B := fun h0 => by
  obtain ⟨b, off, e, hb, hc⟩ := h h0
  exact ⟨b, off, e, hb, fun j hj => ⟨(k.cell (p := ⟨b, off + j * 2, none⟩) hb).trans (hc j hj).1, (k.cell (p := ⟨b, off + j * 2 + 1, none⟩) hb).trans (hc j hj).2⟩⟩
theorem rngAt_up {w : World} {a : Option Addr} {n : Nat} {L H : Nat → Int} {B B' : Nat} (h : RngAt w a n L H B) (k : B ≤ B') : RngAt w a n L H B' := fun h0 => by
  obtain ⟨b, off, e, hb, hc⟩ := h h0
  exact ⟨b, off, e, Nat.lt_of_lt_of_le hb k, hc⟩

end Go.Proofs.YtepommmmmfaihaaDoor

/-
  Contracts of the laws' helpers on rows of ranges: a copy in new memory; two rows that are alike are told so; a node's copy.
-/
namespace Go.Proofs.YtepommmmmfaihaaDoor
open Go.RowKit
set_option linter.unusedVariables false
set_option linter.unusedSimpArgs false
/-- Of a row of cells the first k pairs are L and H. -/
def Pairs (xs : List Value) (k : Nat) (L H : Nat → Int) : Prop := ∀ j, j < k → xs[j * 2]? = some (.int .i64 (L j)) ∧ xs[j * 2 + 1]? = some (.int .i64 (H j))
theorem pairs_step {xs : List Value} {k n : Nat} {L H : Nat → Int} (h : Pairs xs k L H) (hk : k < n) (hl : xs.length = n * 2) :
    Pairs ((xs.set (k * 2) (.int .i64 (L k))).set (k * 2 + 1) (.int .i64 (H k))) (k + 1) L H := by
  intro j hj
  simp only [List.getElem?_set, List.length_set]
  by_cases e : j = k
  · subst e
    refine ⟨?_, ?_⟩
    · rw [if_neg (by omega), if_pos rfl, if_pos (by omega)]
    · rw [if_pos rfl, if_pos (by omega)]
  · have hj' := h j (by omega)
    refine ⟨?_, ?_⟩
    · rw [if_neg (by omega), if_neg (by omega)]; exact hj'.1
    · rw [if_neg (by omega), if_neg (by omega)]; exact hj'.2
theorem own_rng {w : World} {B g n t : Nat} {xs : List Value} {L H : Nat → Int} (h : w.ownsRow B t 2 (.slice (some ⟨g, 0, none⟩) n n) n xs) (hp : Pairs xs n L H) : RngAt w (some ⟨g, 0, none⟩) n L H w.heap.size := fun h0 => by
  have hg : g < w.heap.size := (h.lt g rfl).2
  refine ⟨g, 0, rfl, hg, fun j hj => ?_⟩
  refine ⟨?_, ?_⟩
  · rw [Nat.zero_add, h.cellAt (j * 2) (by omega)]; exact (hp j hj).1
  · rw [Nat.zero_add, h.cellAt (j * 2 + 1) (by omega)]; exact (hp j hj).2
theorem own_after {w w' : World} {B e size n : Nat} {v : Value} {xs : List Value} (h : w.ownsRow B e size v n xs) (hb : Below w.heap.size w w') : w'.ownsRow B e size v n xs := by
  obtain ⟨hl, h⟩ := h
  refine ⟨hl, ?_⟩
  rcases h with h | ⟨g, cap, cur, hv, hg, hh, h1, h2, h3, h4⟩
  · exact .inl h
  · have hlt : g < w.heap.size := (Array.getElem?_eq_some_iff.1 hh).1
    exact .inr ⟨g, cap, cur, hv, hg, (hb.block g hlt).trans hh, h1, h2, h3, h4⟩
theorem own_some {w : World} {B g n t : Nat} {xs : List Value} (h : w.ownsRow B t 2 (.slice (some ⟨g, 0, none⟩) n n) n xs) (j : Nat) (hj : j < n * 2) : ∃ v, w.cell? ⟨g, j, none⟩ = some v := by
  rw [h.cellAt j hj]
  exact ⟨_, List.getElem?_eq_getElem (by rw [h.1]; exact hj)⟩
/-- A node as a value. -/
def nodeV (kd : Int) (nt : Bool) (a : Option Addr) (n c : Nat) (A B mn mx : Int) : Value := .agg #[.int .i64 kd, .bool nt, .slice a n c, .int .i64 A, .int .i64 B, .int .i64 mn, .int .i64 mx]
end Go.Proofs.YtepommmmmfaihaaDoor
