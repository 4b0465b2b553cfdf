/-
  Texts put together: Base, RngMath, Rng, Rngs.
-/
import Derived.WalkKit
import Derived.Below
import Derived.Test.YtibagghpimadfaaDoorChecked
import Derived.OwnWalk
import Derived.Laws.OwnMore
import Derived.RegionTactic
import Derived.Deep.QuietTactic
import Derived.Deep.RegionWith
import Derived.BigQuiet
import Derived.Deep.Draws
import Derived.KernelRfl
/-
  Plain facts on bytes and names, of no program: what a name is, byte by byte.
-/
namespace Go.Proofs.YtibagghpimadfaaDoor
def firstB (c : Int) : Bool := decide ((97 ≤ c ∧ c ≤ 122) ∨ (65 ≤ c ∧ c ≤ 90) ∨ c = 95)
def digitB (c : Int) : Bool := decide (48 ≤ c ∧ c ≤ 57)
def moreB (c : Int) : Bool := decide ((97 ≤ c ∧ c ≤ 122) ∨ (65 ≤ c ∧ c ≤ 90) ∨ c = 95 ∨ (48 ≤ c ∧ c ≤ 57) ∨ c = 46 ∨ c = 45)
def at8 (s : ByteArray) (k : Nat) : Int := ((s.data.toList[k]?).getD 0).toNat
theorem at8_eq (s : ByteArray) (k : Nat) (h : k < s.size) : at8 s k = (s[k].toNat : Int) := by
  have h' : k < s.data.toList.length := by simpa using h
  unfold at8; rw [List.getElem?_eq_getElem h']; rfl
def nameB (s : ByteArray) : Bool := decide (1 ≤ s.size) && (decide (s.size ≤ 40) && (firstB (at8 s 0) && (List.range s.size).all fun j => j == 0 || moreB (at8 s j)))
theorem nameB_none (s : ByteArray) (h : s.size = 0) : nameB s = false := by simp [nameB, h]
theorem nameB_long (s : ByteArray) (h : 40 < s.size) : nameB s = false := by
  have : decide (s.size ≤ 40) = false := by simp; omega
  simp [nameB, this]
theorem nameB_first (s : ByteArray) (h0 : 0 < s.size) (h : firstB (s[0].toNat : Int) = false) : nameB s = false := by
  rw [← at8_eq s 0 h0] at h
  simp [nameB, h]
theorem nameB_more (s : ByteArray) (k : Nat) (h1 : 1 ≤ k) (hk : k < s.size) (h : moreB (s[k].toNat : Int) = false) : nameB s = false := by
  rw [← at8_eq s k hk] at h
  have : ((List.range s.size).all fun j => j == 0 || moreB (at8 s j)) = false := by
    rw [List.all_eq_false]
    refine ⟨k, by simpa using hk, ?_⟩
    have : (k == 0) = false := by simp; omega
    simp [this, h]
  simp [nameB, this]
theorem nameB_yes (s : ByteArray) (h0 : 0 < s.size) (h40 : s.size ≤ 40) (hf : firstB (s[0].toNat : Int) = true) (hm : ∀ j (h : j < s.size), 1 ≤ j → moreB (s[j].toNat : Int) = true) : nameB s = true := by
  rw [← at8_eq s 0 h0] at hf
  have : ((List.range s.size).all fun j => j == 0 || moreB (at8 s j)) = true := by
    rw [List.all_eq_true]
    intro j hj
    have hj' : j < s.size := by simpa using hj
    by_cases e : j = 0
    · simp [e]
    · have := hm j hj' (by omega)
      rw [← at8_eq s j hj'] at this
      simp [this]
  have h1 : decide (1 ≤ s.size) = true := by simp; omega
  have h2 : decide (s.size ≤ 40) = true := by simp; omega
  simp [nameB, this, h1, h2, hf]
theorem first_t {c : Int} (h : (97 ≤ c ∧ c ≤ 122) ∨ (65 ≤ c ∧ c ≤ 90) ∨ c = 95) : true = firstB c := (decide_eq_true h).symm
theorem first_f {c : Int} (h : ¬ ((97 ≤ c ∧ c ≤ 122) ∨ (65 ≤ c ∧ c ≤ 90) ∨ c = 95)) : false = firstB c := (decide_eq_false h).symm
theorem digit_t {c : Int} (h : 48 ≤ c ∧ c ≤ 57) : true = digitB c := (decide_eq_true h).symm
theorem digit_f {c : Int} (h : ¬ (48 ≤ c ∧ c ≤ 57)) : false = digitB c := (decide_eq_false h).symm
theorem more_t {c : Int} (h : (97 ≤ c ∧ c ≤ 122) ∨ (65 ≤ c ∧ c ≤ 90) ∨ c = 95 ∨ (48 ≤ c ∧ c ≤ 57) ∨ c = 46 ∨ c = 45) : true = moreB c := (decide_eq_true h).symm
theorem more_f {c : Int} (h : ¬ ((97 ≤ c ∧ c ≤ 122) ∨ (65 ≤ c ∧ c ≤ 90) ∨ c = 95 ∨ (48 ≤ c ∧ c ≤ 57) ∨ c = 46 ∨ c = 45)) : false = moreB c := (decide_eq_false h).symm
theorem hide {p : Prop} (h : p) : Go.RowKit.Hid p := h
def intOf : Value → Int | .int _ q => q | _ => 0
theorem ret_bool {a b : Bool} (h : a = b) : Ending.returned (.bool a) = .returned (.bool b) := by rw [h]
end Go.Proofs.YtibagghpimadfaaDoor

/-
  Plain facts on classes and ranges, of no program: which numbers are characters, which rows of ranges are right, what a class has, which nodes are right by themselves.
-/
namespace Go.Proofs.YtibagghpimadfaaDoor
def chB (r : Int) : Bool := decide ((0 ≤ r ∧ r ≤ 55295) ∨ (57344 ≤ r ∧ r ≤ 1114111))
theorem chB_cases {r : Int} (h : chB r = true) : (0 ≤ r ∧ r ≤ 55295) ∨ (57344 ≤ r ∧ r ≤ 1114111) := of_decide_eq_true h
theorem chB_not {r : Int} (h : chB r = false) : ¬ ((0 ≤ r ∧ r ≤ 55295) ∨ (57344 ≤ r ∧ r ≤ 1114111)) := of_decide_eq_false h
/-- One range is right. -/
def rgB (l h : Int) : Bool := chB l && (chB h && decide (l ≤ h))
/-- All of the first n ranges are right. -/
def rgsB (n : Nat) (L H : Nat → Int) : Bool := (List.range n).all fun j => rgB (L j) (H j)
theorem rgsB_no {n : Nat} {L H : Nat → Int} {k : Nat} (hk : k < n) (h : rgB (L k) (H k) = false) : rgsB n L H = false := by
  unfold rgsB
  rw [List.all_eq_false]
  exact ⟨k, by simpa using hk, by simp [h]⟩
theorem rgsB_yes {n : Nat} {L H : Nat → Int} (h : ∀ k, k < n → rgB (L k) (H k) = true) : rgsB n L H = true := by
  unfold rgsB
  rw [List.all_eq_true]
  intro j hj
  exact h j (by simpa using hj)
def rowB (n : Nat) (L H : Nat → Int) : Bool := decide (1 ≤ n ∧ n ≤ 12) && rgsB n L H
/-- A range has r. -/
def hasB (l h r : Int) : Bool := decide (l ≤ r ∧ r ≤ h)
/-- One of the first n ranges has r. -/
def anyB (n : Nat) (L H : Nat → Int) (r : Int) : Bool := (List.range n).any fun j => hasB (L j) (H j) r
theorem anyB_zero (L H : Nat → Int) (r : Int) : anyB 0 L H r = false := rfl
theorem anyB_succ (n : Nat) (L H : Nat → Int) (r : Int) : anyB (n + 1) L H r = (anyB n L H r || hasB (L n) (H n) r) := by
  unfold anyB
  rw [List.range_succ, List.any_append]
  simp
theorem anyB_hit {n : Nat} {L H : Nat → Int} {r : Int} {k : Nat} (hk : k < n) (h : hasB (L k) (H k) r = true) : anyB n L H r = true := by
  unfold anyB
  rw [List.any_eq_true]
  exact ⟨k, by simpa using hk, h⟩
/-- A node is right by itself. -/
def nodeB (kd : Int) (nt : Bool) (n : Nat) (L H : Nat → Int) (a b mn mx : Int) : Bool :=
  if kd = 1 then !nt && (((n : Int) == 0) && (a == 0 && (b == 0 && (mn == 0 && mx == 0))))
  else if kd = 2 then rowB n L H && (a == 0 && (b == 0 && (mn == 0 && mx == 0)))
  else if kd = 3 ∨ kd = 4 then !nt && (((n : Int) == 0) && (mn == 0 && mx == 0))
  else if kd = 5 then !nt && (((n : Int) == 0) && (b == 0 && (decide (0 ≤ mn ∧ mn ≤ 20) && (mx == -1 || decide (mn ≤ mx ∧ mx ≤ 20)))))
  else false
/-- What ClassHas answers. -/
def clsB (kd : Int) (nt : Bool) (n : Nat) (L H : Nat → Int) (a b mn mx r : Int) : Bool :=
  if kd = 2 then nodeB kd nt n L H a b mn mx && (chB r && (anyB n L H r != nt)) else false
end Go.Proofs.YtibagghpimadfaaDoor

/-
  Contracts of the laws' helpers on rows of ranges: a copy in new memory, and that two rows that are alike are told so; and the small tests of numbers.
-/
namespace Go.Proofs.YtibagghpimadfaaDoor
open Go.RowKit
set_option linter.unusedVariables false
set_option linter.unusedSimpArgs false

theorem infoR : (Tryd.prog.info? 55).map (fun i => (i.zero, i.size, i.bytes)) = some (some (.agg #[.int .i64 0, .int .i64 0]), 2, 16) := by kernel_rfl

theorem s_inT (n a b : Int) (w : World) (h : a ≤ n ∧ n ≤ b) : Calls Tryd.prog 68 #[.int .i64 n, .int .i64 a, .int .i64 b] w fun e w' => e = .returned (.bool true) ∧ w' = w := by
  obtain ⟨h1, h2⟩ := h
  go_enter Tryd.func68, Tryd.ntmps68
  go_wp2
  go_ret
  exact ⟨rfl, rfl⟩
theorem s_inF (n a b : Int) (w : World) (h : ¬ (a ≤ n ∧ n ≤ b)) : Calls Tryd.prog 68 #[.int .i64 n, .int .i64 a, .int .i64 b] w fun e w' => e = .returned (.bool false) ∧ w' = w := by
  by_cases h1 : a ≤ n
  · have h2 : ¬ n ≤ b := fun x => h ⟨h1, x⟩
    clear h
    go_enter Tryd.func68, Tryd.ntmps68
    go_wp2
    go_ret
    exact ⟨rfl, rfl⟩
  · clear h
    go_enter Tryd.func68, Tryd.ntmps68
    go_wp2
    go_ret
    exact ⟨rfl, rfl⟩
theorem i_inT (n a b : Int) (w : World) (h : a ≤ n ∧ n ≤ b) : Calls Tryd.prog 73 #[.int .i64 n, .int .i64 a, .int .i64 b] w fun e w' => e = .returned (.bool true) ∧ w' = w := by
  obtain ⟨h1, h2⟩ := h
  go_enter Tryd.func73, Tryd.ntmps73
  go_wp2
  go_ret
  exact ⟨rfl, rfl⟩
theorem i_inF (n a b : Int) (w : World) (h : ¬ (a ≤ n ∧ n ≤ b)) : Calls Tryd.prog 73 #[.int .i64 n, .int .i64 a, .int .i64 b] w fun e w' => e = .returned (.bool false) ∧ w' = w := by
  by_cases h1 : a ≤ n
  · have h2 : ¬ n ≤ b := fun x => h ⟨h1, x⟩
    clear h
    go_enter Tryd.func73, Tryd.ntmps73
    go_wp2
    go_ret
    exact ⟨rfl, rfl⟩
  · clear h
    go_enter Tryd.func73, Tryd.ntmps73
    go_wp2
    go_ret
    exact ⟨rfl, rfl⟩
theorem s_chT (r : Int) (w : World) (h : chB r = true) : Calls Tryd.prog 66 #[.int .i64 r] w fun e w' => e = .returned (.bool true) ∧ w' = w := by
  by_cases h1 : 0 ≤ r ∧ r ≤ 55295
  · go_enter Tryd.func66, Tryd.ntmps66
    go_wp2_with (go_at_call 68; refine (s_inT _ _ _ _ h1).mono ?_; rintro e w' ⟨rfl, rfl⟩)
    go_ret
    exact ⟨rfl, rfl⟩
  · have h2 : 57344 ≤ r ∧ r ≤ 1114111 := (chB_cases h).resolve_left h1
    go_enter Tryd.func66, Tryd.ntmps66
    go_wp2_with (first | (go_at_call_of 68 (Value.int .i64 55295); refine (s_inF _ _ _ _ h1).mono ?_; rintro e w' ⟨rfl, rfl⟩) | (go_at_call_of 68 (Value.int .i64 57344); refine (s_inT _ _ _ _ h2).mono ?_; rintro e w' ⟨rfl, rfl⟩))
    go_ret
    exact ⟨rfl, rfl⟩
theorem s_chF (r : Int) (w : World) (h : chB r = false) : Calls Tryd.prog 66 #[.int .i64 r] w fun e w' => e = .returned (.bool false) ∧ w' = w := by
  have h1 : ¬ (0 ≤ r ∧ r ≤ 55295) := fun x => chB_not h (Or.inl x)
  have h2 : ¬ (57344 ≤ r ∧ r ≤ 1114111) := fun x => chB_not h (Or.inr x)
  go_enter Tryd.func66, Tryd.ntmps66
  go_wp2_with (first | (go_at_call_of 68 (Value.int .i64 55295); refine (s_inF _ _ _ _ h1).mono ?_; rintro e w' ⟨rfl, rfl⟩) | (go_at_call_of 68 (Value.int .i64 57344); refine (s_inF _ _ _ _ h2).mono ?_; rintro e w' ⟨rfl, rfl⟩))
  go_ret
  exact ⟨rfl, rfl⟩
theorem i_chT (r : Int) (w : World) (h : chB r = true) : Calls Tryd.prog 72 #[.int .i64 r] w fun e w' => e = .returned (.bool true) ∧ w' = w := by
  by_cases h1 : 0 ≤ r ∧ r ≤ 55295
  · go_enter Tryd.func72, Tryd.ntmps72
    go_wp2_with (go_at_call 73; refine (i_inT _ _ _ _ h1).mono ?_; rintro e w' ⟨rfl, rfl⟩)
    go_ret
    exact ⟨rfl, rfl⟩
  · have h2 : 57344 ≤ r ∧ r ≤ 1114111 := (chB_cases h).resolve_left h1
    go_enter Tryd.func72, Tryd.ntmps72
    go_wp2_with (first | (go_at_call_of 73 (Value.int .i64 55295); refine (i_inF _ _ _ _ h1).mono ?_; rintro e w' ⟨rfl, rfl⟩) | (go_at_call_of 73 (Value.int .i64 57344); refine (i_inT _ _ _ _ h2).mono ?_; rintro e w' ⟨rfl, rfl⟩))
    go_ret
    exact ⟨rfl, rfl⟩
theorem i_chF (r : Int) (w : World) (h : chB r = false) : Calls Tryd.prog 72 #[.int .i64 r] w fun e w' => e = .returned (.bool false) ∧ w' = w := by
  have h1 : ¬ (0 ≤ r ∧ r ≤ 55295) := fun x => chB_not h (Or.inl x)
  have h2 : ¬ (57344 ≤ r ∧ r ≤ 1114111) := fun x => chB_not h (Or.inr x)
  go_enter Tryd.func72, Tryd.ntmps72
  go_wp2_with (first | (go_at_call_of 73 (Value.int .i64 55295); refine (i_inF _ _ _ _ h1).mono ?_; rintro e w' ⟨rfl, rfl⟩) | (go_at_call_of 73 (Value.int .i64 57344); refine (i_inF _ _ _ _ h2).mono ?_; rintro e w' ⟨rfl, rfl⟩))
  go_ret
  exact ⟨rfl, rfl⟩

/-- What is laid of a row of ranges: its first 'n' pairs of cells hold L and H, in a block below 'B'. -/
def RngAt (w : World) (a : Option Addr) (n : Nat) (L H : Nat → Int) (B : Nat) : Prop :=
  0 < n → ∃ b off, a = some ⟨b, off, none⟩ ∧ b < B ∧ ∀ j, j < n → w.cell? ⟨b, off + j * 2, none⟩ = some (.int .i64 (L j)) ∧ w.cell? ⟨b, off + j * 2 + 1, none⟩ = some (.int .i64 (H j))
theorem rngAt_go {w w' : World} {a : Option Addr} {n : Nat} {L H : Nat → Int} {B : Nat} (h : RngAt w a n L H B) (k : Below B w w') : RngAt w' a n L H B := fun h0 => by
  obtain ⟨b, off, e, hb, hc⟩ := h h0
  exact ⟨b, off, e, hb, fun j hj => ⟨(k.cell (p := ⟨b, off + j * 2, none⟩) hb).trans (hc j hj).1, (k.cell (p := ⟨b, off + j * 2 + 1, none⟩) hb).trans (hc j hj).2⟩⟩
theorem rngAt_up {w : World} {a : Option Addr} {n : Nat} {L H : Nat → Int} {B B' : Nat} (h : RngAt w a n L H B) (k : B ≤ B') : RngAt w a n L H B' := fun h0 => by
  obtain ⟨b, off, e, hb, hc⟩ := h h0
  exact ⟨b, off, e, Nat.lt_of_lt_of_le hb k, hc⟩

set_option maxHeartbeats 1000000 in
theorem l_toR (l h : Int) (w : World) : Calls Tryd.prog 77 #[.agg #[.int .i64 l, .int .i64 h]] w fun e w' => e = .returned (.agg #[.int .i64 l, .int .i64 h]) ∧ Below w.heap.size w w' := by
  go_enter Tryd.func77, Tryd.ntmps77
  go_wp2
  refine bodyPost_ret (v := .agg #[.int .i64 l, .int .i64 h]) (by simp [results, Tryd.results77, go_sem]) rfl ⟨rfl, ?_⟩
  exact (((Below.refl _ _).alloc (Nat.le_refl _) _).alloc (by simp) _).alloc (by simp; omega) _
end Go.Proofs.YtibagghpimadfaaDoor

/-
  Contracts of the laws' helpers on rows of ranges: a copy in new memory; two rows that are alike are told so; a node's copy.
-/
namespace Go.Proofs.YtibagghpimadfaaDoor
open Go.RowKit
set_option linter.unusedVariables false
set_option linter.unusedSimpArgs false
/-- Of a row of cells the first k pairs are L and H. -/
def Pairs (xs : List Value) (k : Nat) (L H : Nat → Int) : Prop := ∀ j, j < k → xs[j * 2]? = some (.int .i64 (L j)) ∧ xs[j * 2 + 1]? = some (.int .i64 (H j))
theorem pairs_step {xs : List Value} {k n : Nat} {L H : Nat → Int} (h : Pairs xs k L H) (hk : k < n) (hl : xs.length = n * 2) :
    Pairs ((xs.set (k * 2) (.int .i64 (L k))).set (k * 2 + 1) (.int .i64 (H k))) (k + 1) L H := by
  intro j hj
  simp only [List.getElem?_set, List.length_set]
  by_cases e : j = k
  · subst e
    refine ⟨?_, ?_⟩
    · rw [if_neg (by omega), if_pos rfl, if_pos (by omega)]
    · rw [if_pos rfl, if_pos (by omega)]
  · have hj' := h j (by omega)
    refine ⟨?_, ?_⟩
    · rw [if_neg (by omega), if_neg (by omega)]; exact hj'.1
    · rw [if_neg (by omega), if_neg (by omega)]; exact hj'.2
theorem own_rng {w : World} {B g n t : Nat} {xs : List Value} {L H : Nat → Int} (h : w.ownsRow B t 2 (.slice (some ⟨g, 0, none⟩) n n) n xs) (hp : Pairs xs n L H) : RngAt w (some ⟨g, 0, none⟩) n L H w.heap.size := fun h0 => by
  have hg : g < w.heap.size := (h.lt g rfl).2
  refine ⟨g, 0, rfl, hg, fun j hj => ?_⟩
  refine ⟨?_, ?_⟩
  · rw [Nat.zero_add, h.cellAt (j * 2) (by omega)]; exact (hp j hj).1
  · rw [Nat.zero_add, h.cellAt (j * 2 + 1) (by omega)]; exact (hp j hj).2
theorem own_after {w w' : World} {B e size n : Nat} {v : Value} {xs : List Value} (h : w.ownsRow B e size v n xs) (hb : Below w.heap.size w w') : w'.ownsRow B e size v n xs := by
  obtain ⟨hl, h⟩ := h
  refine ⟨hl, ?_⟩
  rcases h with h | ⟨g, cap, cur, hv, hg, hh, h1, h2, h3, h4⟩
  · exact .inl h
  · have hlt : g < w.heap.size := (Array.getElem?_eq_some_iff.1 hh).1
    exact .inr ⟨g, cap, cur, hv, hg, (hb.block g hlt).trans hh, h1, h2, h3, h4⟩
theorem own_some {w : World} {B g n t : Nat} {xs : List Value} (h : w.ownsRow B t 2 (.slice (some ⟨g, 0, none⟩) n n) n xs) (j : Nat) (hj : j < n * 2) : ∃ v, w.cell? ⟨g, j, none⟩ = some v := by
  rw [h.cellAt j hj]
  exact ⟨_, List.getElem?_eq_getElem (by rw [h.1]; exact hj)⟩
set_option maxHeartbeats 1000000 in
theorem l_toRs (a : Option Addr) (n cap : Nat) (L H : Nat → Int) (w : World) (hn : n ≤ 1048576) (hr : RngAt w a n L H w.heap.size) :
    Calls Tryd.prog 61 #[.slice a n cap] w fun e w' => e = .returned (.slice (some ⟨w.heap.size, 0, none⟩) n n) ∧
      RngAt w' (some ⟨w.heap.size, 0, none⟩) n L H w'.heap.size ∧ Below w.heap.size w w' := by
  obtain ⟨i0, hi, hz0, hz1, hz2⟩ := info_parts infoR
  have HR := hide hr
  clear hr
  go_enter Tryd.func61, Tryd.ntmps61
  go_wp2_with (at_make; refine wpList_make_full _ rfl _ _ 51 rfl w.heap.size 55 i0 (.agg #[.int .i64 0, .int .i64 0]) 2 Tryd.underlying51 hi hz0 hz1 .i64 .i64 _ _ n rfl rfl rfl rfl (by rw [hz2]; omega) (by unfold maxLen; omega) (Nat.le_refl _) ?_; intro w1 hown hgrow)
  have hb1 : Below w.heap.size w w1 := (Below.refl _ _).grown hgrow (Nat.le_refl _) (fun k h => by cases h)
  clear hgrow
  go_loopw [4] (fun i wr => ∃ k : Nat, k ≤ n ∧ i = .int .i64 k ∧ (∃ xs, wr.ownsRow w.heap.size 55 2 (.slice (some ⟨w.heap.size, 0, none⟩) n n) n xs ∧ Pairs xs k L H) ∧ Below w.heap.size w wr) (fun i _ => n - (intOf i).toNat)
  case atStart => exact ⟨0, Nat.zero_le _, rfl, ⟨_, hown, fun j h => by omega⟩, hb1⟩
  case round =>
    clear hown hb1
    obtain ⟨k, hk, rfl, ⟨xs, hown, hp⟩, hb⟩ := hrel
    by_cases hlt : k < n
    · obtain ⟨b, off, rfl, hbs, hc⟩ := HR.out (by omega)
      have hc1 : wr.cell? ⟨b, off + k * 2, none⟩ = some (.int .i64 (L k)) := (hb.cell hbs).trans (hc k hlt).1
      have hc2 : wr.cell? ⟨b, off + k * 2 + 1, none⟩ = some (.int .i64 (H k)) := (hb.cell hbs).trans (hc k hlt).2
      have HP := hide hp
      have HB := hide hb
      have HO := hide hown
      clear hp hb hc hown
      go_wp2_with (go_at_call 77; refine (l_toR _ _ _).mono ?_; rintro e w2 ⟨rfl, hb2⟩; have hown2 := own_after HO.out hb2; have hf0 := hown2.frozenAt (k * 2); have hf1 := hown2.frozenAt (k * 2 + 1); obtain ⟨x0, hx0⟩ := own_some hown2 (k * 2) (by omega); obtain ⟨x1, hx1⟩ := own_some hown2 (k * 2 + 1) (by omega); replace HB := hide (HB.out.trans (hb2.mono HB.out.size)); replace HO := hide hown2; clear hown2 hb2)
      go_roundw
      case rel =>
        refine ⟨k + 1, by omega, by go_num, ⟨_, ((HO.out.stored (k * 2) (.int .i64 (L k))).1.stored (k * 2 + 1) (.int .i64 (H k))).1, pairs_step HP.out hlt HO.out.1⟩, (HB.out.setCell (Nat.le_refl _) _).setCell (Nat.le_refl _) _⟩
      case measure => simp [intOf]; omega
    · have hkn : k = n := by omega
      subst hkn
      go_wp2
      go_ret
      exact ⟨rfl, own_rng hown hp, hb⟩
theorem l_szRsBig (a : Option Addr) (n c : Nat) (left : Int) (w : World) (hn : n ≤ maxLen) (h0 : 0 ≤ left) (h1 : left ≤ 1048576) (h : left < n) : Calls Tryd.prog 57 #[.slice a n c, .int .i64 left] w fun e w' => e = .returned (.int .i64 (-1)) ∧ w' = w := by
  unfold maxLen at hn
  go_enter Tryd.func57, Tryd.ntmps57
  go_wp2
  go_ret
  exact ⟨rfl, rfl⟩
theorem l_szRsOk (a : Option Addr) (n c : Nat) (left : Int) (w : World) (hn : n ≤ maxLen) (h0 : 0 ≤ left) (h1 : left ≤ 1048576) (h : (n : Int) ≤ left) : Calls Tryd.prog 57 #[.slice a n c, .int .i64 left] w fun e w' => e = .returned (.int .i64 (left - n)) ∧ w' = w := by
  unfold maxLen at hn
  go_enter Tryd.func57, Tryd.ntmps57
  go_wp2
  go_ret
  exact ⟨rfl, rfl⟩
/-- A node as a value. -/
def nodeV (kd : Int) (nt : Bool) (a : Option Addr) (n c : Nat) (A B mn mx : Int) : Value := .agg #[.int .i64 kd, .bool nt, .slice a n c, .int .i64 A, .int .i64 B, .int .i64 mn, .int .i64 mx]
theorem l_szNBig (kd : Int) (nt : Bool) (a : Option Addr) (n c : Nat) (A B mn mx : Int) (left : Int) (w : World) (hn : n ≤ maxLen) (h0 : 0 ≤ left) (h1 : left ≤ 1048576) (h : left < n) : Calls Tryd.prog 35 #[.agg #[.int .i64 kd, .bool nt, .slice a n c, .int .i64 A, .int .i64 B, .int .i64 mn, .int .i64 mx], .int .i64 left] w fun e w' => e = .returned (.int .i64 (-1)) ∧ Below w.heap.size w w' := by
  go_enter Tryd.func35, Tryd.ntmps35
  go_wp2_with (go_at_call 57; refine (l_szRsBig _ _ _ _ _ hn h0 h1 h).mono ?_; rintro e w' ⟨rfl, rfl⟩)
  go_ret
  exact ⟨rfl, (Below.refl _ _).alloc (Nat.le_refl _) _⟩
theorem l_szNOk (kd : Int) (nt : Bool) (a : Option Addr) (n c : Nat) (A B mn mx : Int) (left : Int) (w : World) (hn : n ≤ maxLen) (h0 : 0 ≤ left) (h1 : left ≤ 1048576) (h : (n : Int) ≤ left) : Calls Tryd.prog 35 #[.agg #[.int .i64 kd, .bool nt, .slice a n c, .int .i64 A, .int .i64 B, .int .i64 mn, .int .i64 mx], .int .i64 left] w fun e w' => e = .returned (.int .i64 (left - n)) ∧ Below w.heap.size w w' := by
  go_enter Tryd.func35, Tryd.ntmps35
  go_wp2_with (go_at_call 57; refine (l_szRsOk _ _ _ _ _ hn h0 h1 h).mono ?_; rintro e w' ⟨rfl, rfl⟩)
  go_ret
  exact ⟨rfl, (Below.refl _ _).alloc (Nat.le_refl _) _⟩
theorem l_eqR (l h : Int) (w : World) : Calls Tryd.prog 74 #[.agg #[.int .i64 l, .int .i64 h], .agg #[.int .i64 l, .int .i64 h]] w fun e w' => e = .returned (.bool true) ∧ Below w.heap.size w w' := by
  go_enter Tryd.func74, Tryd.ntmps74
  go_wp2
  go_ret
  exact ⟨rfl, ((Below.refl _ _).alloc (Nat.le_refl _) _).alloc (by simp) _⟩
end Go.Proofs.YtibagghpimadfaaDoor
