/-
  Texts put together: Ints, BtI, PaI.
-/
import Derived.Test.YteeglkkgkjmjpaaDoorT1
import Derived.Test.YteeglkkgkjmjpaaDoorChecked
import Derived.WalkKit
import Derived.Below
import Derived.OwnWalk
import Derived.Laws.OwnMore
import Derived.RegionTactic
import Derived.Deep.QuietTactic
import Derived.BigQuiet
import Derived.Deep.Draws
import Derived.KernelRfl
import Derived.Laws.Bits64b
import Derived.Laws.BitsAllLaws
/-
  Contracts of the laws' helpers on rows of int64: a copy in new memory, and whether two rows are alike; nothing that was there is written.
-/
namespace Go.Proofs.YteeglkkgkjmjpaaDoor
open Go.RowKit
set_option linter.unusedVariables false
set_option linter.unusedSimpArgs false

theorem info64 : (Tryd.prog.info? 2).map (fun i => (i.zero, i.size, i.bytes)) = some (some (.int .i64 0), 1, 8) := by kernel_rfl

/-- What is laid of a row of int64: its first 'n' cells hold 'xs', in a block below 'B'. -/
def RowAt (k : IntKind) (w : World) (a : Option Addr) (xs : List Int) (B : Nat) : Prop :=
  xs ≠ [] → ∃ b off, a = some ⟨b, off, none⟩ ∧ b < B ∧ ∀ j, j < xs.length → w.cell? ⟨b, off + j, none⟩ = some (.int k (xs[j]?.getD 0))

theorem set_step (xs : List Int) (n k : Nat) (hn : xs.length = n) (hk : k < n) :
    ((xs.take k ++ List.replicate (n - k) 0).map (Value.int .i64)).set k (.int .i64 (xs[k]?.getD 0)) = (xs.take (k + 1) ++ List.replicate (n - (k + 1)) 0).map (Value.int .i64) := by
  apply List.ext_getElem
  · simp; omega
  · intro i h1 h2
    simp at h1 h2
    simp only [List.getElem_set, List.getElem_map, List.getElem_append, List.getElem_take, List.length_take, List.getElem_replicate]
    by_cases e : k = i
    · subst e
      simp [List.getElem?_eq_getElem (show k < xs.length by omega), show k < min (k + 1) xs.length by omega]
    · simp only [e, if_false]
      by_cases h : i < k
      · simp [show i < min k xs.length by omega, show i < min (k + 1) xs.length by omega]
      · simp [show ¬ i < min k xs.length by omega, show ¬ i < min (k + 1) xs.length by omega]

set_option maxHeartbeats 1000000 in
theorem to_ints (a : Option Addr) (n cap : Nat) (xs : List Int) (w : World) (hx : xs.length = n) (hn : n ≤ 1048576) (hr : RowAt .i64 w a xs w.heap.size) :
    Calls Tryd.prog 60 #[.slice a n cap] w fun e w' => e = .returned (.slice (some ⟨w.heap.size, 0, none⟩) n n) ∧
      w'.ownsRow w.heap.size 2 1 (.slice (some ⟨w.heap.size, 0, none⟩) n n) n (xs.map (Value.int .i64)) ∧ Below w.heap.size w w' := by
  obtain ⟨i0, hi, hz0, hz1, hz2⟩ := info_parts info64
  obtain ⟨B, hB⟩ : ∃ B, B = w.heap.size := ⟨_, rfl⟩
  have HX : Hid (xs.length = n) := hx
  have HR : Hid (RowAt .i64 w a xs w.heap.size) := hr
  clear hx hr
  go_enter Tryd.func60, Tryd.ntmps60
  go_wp2_with (at_make; refine wpList_make_full _ rfl _ _ 29 rfl w.heap.size 2 i0 (.int .i64 0) 1 Tryd.underlying29 hi hz0 hz1 .i64 .i64 _ _ n rfl rfl rfl rfl (by rw [hz2]; omega) (by unfold maxLen; omega) (Nat.le_refl _) ?_; intro w1 hown hgrow)
  have hown0 : w1.ownsRow w.heap.size 2 1 (.slice (some ⟨w.heap.size, 0, none⟩) n n) n ((xs.take 0 ++ List.replicate (n - 0) 0).map (Value.int .i64)) := by
    have e : (madeCells (Value.int .i64 0).cells (n * 1)).toList = (xs.take 0 ++ List.replicate (n - 0) 0).map (Value.int .i64) := by
      rw [show (Value.int .i64 0).cells = #[Value.int .i64 0] from rfl, toList_madeCells_one]; simp
    rw [← e]; exact hown
  have hb1 : Below w.heap.size w w1 := (Below.refl _ _).grown hgrow (Nat.le_refl _) (fun k h => by cases h)
  clear hown hgrow
  go_loopw [4] (fun i wr => ∃ k : Nat, k ≤ n ∧ i = .int .i64 k ∧ wr.ownsRow w.heap.size 2 1 (.slice (some ⟨w.heap.size, 0, none⟩) n n) n ((xs.take k ++ List.replicate (n - k) 0).map (Value.int .i64)) ∧ Below w.heap.size w wr) (fun i _ => n - (intOf i).toNat)
  case atStart => exact ⟨0, Nat.zero_le _, rfl, hown0, hb1⟩
  case round =>
    obtain ⟨k, hk, rfl, hown, hb⟩ := hrel
    clear hown0 hb1
    by_cases hlt : k < n
    · obtain ⟨b, off, rfl, hbs, hc⟩ := HR.out (fun e => by have := HX.out; rw [e] at this; simp at this; omega)
      have hc1 : wr.cell? ⟨b, off + k, none⟩ = some (.int .i64 (xs[k]?.getD 0)) := (hb.cell hbs).trans (hc k (by rw [HX.out]; exact hlt))
      have hst := hown.stored k (.int .i64 (xs[k]?.getD 0))
      have hfr := hown.frozenAt k
      have hcc : ∃ v, wr.cell? ⟨w.heap.size, k, none⟩ = some v := by
        rw [hown.cellAt k (by omega)]
        have hl : k < ((xs.take k ++ List.replicate (n - k) 0).map (Value.int .i64)).length := by have := HX.out; simp; omega
        exact ⟨_, List.getElem?_eq_getElem hl⟩
      obtain ⟨v0, hcv⟩ := hcc
      have HST := hide hst
      have HB := hide hb
      clear hst hown hc hb hB
      go_wp2
      go_roundw
      case rel =>
        refine ⟨k + 1, by omega, by go_num, ?_, HB.out.setCell (Nat.le_refl _) _⟩
        rw [← set_step xs n k HX.out hlt]
        exact HST.out.1
      case measure => simp [intOf]; omega
    · have hkn : k = n := by omega
      subst hkn
      have hfull : xs.take k ++ List.replicate (k - k) 0 = xs := by have := HX.out; subst this; simp
      rw [hfull] at hown
      go_wp2
      go_ret
      exact ⟨rfl, hown, hb⟩

theorem get_ext (xs ys : List Int) (h : xs.length = ys.length) (hk : ∀ j, j < xs.length → xs[j]?.getD 0 = ys[j]?.getD 0) : xs = ys := by
  apply List.ext_getElem h
  intro i h1 h2
  have := hk i h1
  simpa [List.getElem?_eq_getElem h1, List.getElem?_eq_getElem h2] using this
theorem rowAt_cell {k : IntKind} {w : World} {a : Option Addr} {xs : List Int} {B : Nat} (h : RowAt k w a xs B) (j : Nat) (hj : j < xs.length) : ∃ b off, a = some ⟨b, off, none⟩ ∧ b < B ∧ ∀ j, j < xs.length → w.cell? ⟨b, off + j, none⟩ = some (.int k (xs[j]?.getD 0)) :=
  h (fun e => by rw [e] at hj; simp at hj)
theorem eqB_f (xs ys : List Int) (h : xs ≠ ys) : false = decide (xs = ys) := (decide_eq_false h).symm
theorem eqB_t (xs ys : List Int) (h : xs = ys) : true = decide (xs = ys) := (decide_eq_true h).symm

set_option maxHeartbeats 1000000 in
theorem eq_ints (a1 a2 : Option Addr) (n m c1 c2 : Nat) (xs ys : List Int) (w : World) (hx : xs.length = n) (hy : ys.length = m) (hn : n ≤ 1048576) (hm : m ≤ 1048576) (h1 : RowAt .i64 w a1 xs w.heap.size) (h2 : RowAt .i64 w a2 ys w.heap.size) :
    Calls Tryd.prog 17 #[.slice a1 n c1, .slice a2 m c2] w fun e w' => e = .returned (.bool (decide (xs = ys))) ∧ ∃ q, w' = w.drewN q := by
  have HX : Hid (xs.length = n) := hx
  have HY : Hid (ys.length = m) := hy
  have H1 : Hid (RowAt .i64 w a1 xs w.heap.size) := h1
  have H2 : Hid (RowAt .i64 w a2 ys w.heap.size) := h2
  clear hx hy h1 h2
  by_cases hnm : n = m
  · subst hnm
    go_enter Tryd.func17, Tryd.ntmps17
    go_wp2
    go_loopw [5] (fun i wr => ∃ k : Nat, k ≤ n ∧ i = .int .i64 k ∧ (∃ q, wr = w.drewN q) ∧ ∀ j, j < k → xs[j]?.getD 0 = ys[j]?.getD 0) (fun i _ => n - (intOf i).toNat)
    case atStart => exact ⟨0, Nat.zero_le _, rfl, ⟨0, rfl⟩, fun j h => by omega⟩
    case round =>
      obtain ⟨k, hk, rfl, ⟨q, rfl⟩, hsame⟩ := hrel
      have HS := hide hsame
      clear hsame
      by_cases hlt : k < n
      · obtain ⟨b, off, rfl, hbs, hc⟩ := rowAt_cell H1.out k (by rw [HX.out]; exact hlt)
        obtain ⟨b', off', rfl, hbs', hc'⟩ := rowAt_cell H2.out k (by rw [HY.out]; exact hlt)
        have hc1 := hc k (by rw [HX.out]; exact hlt)
        have hc2 := hc' k (by rw [HY.out]; exact hlt)
        have hi : (k : Int) < (n : Int) := by omega
        have hi0 : (0 : Int) ≤ (k : Int) := by omega
        clear hc hc'
        cases hb : (xs[k]?.getD 0 != ys[k]?.getD 0)
        · go_wp2
          go_quiet (fail)
          go_wp2
          go_roundw
          case rel =>
            refine ⟨k + 1, by omega, by go_num, ⟨q + nq, by simp⟩, fun j hj => ?_⟩
            by_cases e : j = k
            · subst e; simpa using hb
            · exact HS.out j (by omega)
          case measure => simp [intOf]; omega
        · go_wp2
          go_quiet (fail)
          go_wp2
          go_ret
          exact ⟨ret_bool (eqB_f _ _ (fun e => by rw [e] at hb; simp at hb)), q + nq, by simp⟩
      · go_wp2
        go_ret
        exact ⟨ret_bool (eqB_t _ _ (get_ext xs ys (by rw [HX.out, HY.out]) (fun j hj => HS.out j (by have := HX.out; omega)))), _, rfl⟩
  · have hne : ((n : Int) != (m : Int)) = true := by simp; omega
    go_enter Tryd.func17, Tryd.ntmps17
    go_wp2
    go_ret
    exact ⟨ret_bool (eqB_f _ _ (fun e => by have := HX.out; have := HY.out; subst e; omega)), 0, rfl⟩

/-- Numbers from 'k' on, as many as 'n'. -/
def upFrom (k : Int) (n : Nat) : List Int := (List.range n).map fun (j : Nat) => k + (j : Int)
theorem upFrom_len (k : Int) (n : Nat) : (upFrom k n).length = n := by simp [upFrom]
theorem upFrom_at (k : Int) (n j : Nat) (h : j < n) : (upFrom k n)[j]?.getD 0 = k + j := by
  simp [upFrom, List.getElem?_map, List.getElem?_range h]
theorem mark_step (xs : List Int) (k : Int) (n j : Nat) (hn : xs.length = n) (hj : j < n) :
    ((upFrom k j ++ xs.drop j).map (Value.int .i64)).set j (.int .i64 (k + j)) = (upFrom k (j + 1) ++ xs.drop (j + 1)).map (Value.int .i64) := by
  apply List.ext_getElem
  · simp [upFrom]; omega
  · intro i h1 h2
    simp [upFrom] at h1 h2
    simp only [List.getElem_set, List.getElem_map, List.getElem_append, upFrom, List.length_map, List.length_range, List.getElem_range, List.getElem_drop]
    by_cases e : j = i
    · subst e
      simp
    · simp only [e, if_false]
      by_cases h : i < j
      · simp [h, show i < j + 1 by omega]
      · have h' : ¬ i < j + 1 := by omega
        simp only [h, h', dif_neg, not_false_eq_true]
        congr 2
        omega
set_option maxHeartbeats 1000000 in
theorem mark_ints (B g n c : Nat) (xs : List Int) (w : World) (hx : xs.length = n) (hn : n ≤ 1048576) (hBg : B ≤ g) (hown : w.ownsRow B 2 1 (.slice (some ⟨g, 0, none⟩) n c) n (xs.map (Value.int .i64))) :
    Calls Tryd.prog 19 #[.slice (some ⟨g, 0, none⟩) n c, .int .i64 1] w fun e w' => e = .returned (.int .i64 (1 + n)) ∧
      w'.ownsRow B 2 1 (.slice (some ⟨g, 0, none⟩) n c) n ((upFrom 1 n).map (Value.int .i64)) ∧ Below B w w' ∧ ∀ k, k ≠ g → w'.heap[k]? = w.heap[k]? := by
  have HX := hide hx
  have H0 : w.ownsRow B 2 1 (.slice (some ⟨g, 0, none⟩) n c) n ((upFrom 1 0 ++ xs.drop 0).map (Value.int .i64)) := by simpa [upFrom] using hown
  have HO := hide H0
  clear hown H0 hx
  go_enter Tryd.func19, Tryd.ntmps19
  go_wp2
  go_loopw [1, 5] (fun k i wr => ∃ j : Nat, j ≤ n ∧ i = .int .i64 j ∧ k = .int .i64 (1 + j) ∧ wr.ownsRow B 2 1 (.slice (some ⟨g, 0, none⟩) n c) n ((upFrom 1 j ++ xs.drop j).map (Value.int .i64)) ∧ Below B w wr ∧ ∀ k, k ≠ g → wr.heap[k]? = w.heap[k]?) (fun _ i _ => n - (intOf i).toNat)
  case atStart => exact ⟨0, Nat.zero_le _, rfl, rfl, HO.out, Below.refl _ _, fun _ _ => rfl⟩
  case round =>
    obtain ⟨j, hj, rfl, rfl, hown, hb, hoth⟩ := hrel
    by_cases hlt : j < n
    · have hst := hide (hown.stored j (.int .i64 (1 + j)))
      have hfr := hown.frozenAt j
      have hcc : ∃ v, wr.cell? ⟨g, j, none⟩ = some v := by
        rw [hown.cellAt j (by omega)]
        have hl : j < ((upFrom 1 j ++ xs.drop j).map (Value.int .i64)).length := by have := HX.out; simp [upFrom]; omega
        exact ⟨_, List.getElem?_eq_getElem hl⟩
      obtain ⟨v0, hcv⟩ := hcc
      have HB := hide hb
      have HT := hide hoth
      clear hown hb hoth
      go_wp2
      go_roundw
      case rel =>
        refine ⟨j + 1, by omega, by go_num, by go_num, ?_, HB.out.setCell hBg _, fun k hk => (Below.heap_setCell _ _ _ k hk).trans (HT.out k hk)⟩
        rw [← mark_step xs 1 n j HX.out hlt]
        exact hst.out.1
      case measure => simp [intOf]; omega
    · have hkn : j = n := by omega
      subst hkn
      have hfull : upFrom 1 j ++ xs.drop j = upFrom 1 j := by have := HX.out; subst this; simp
      rw [hfull] at hown
      have HO2 := hide hown
      have HB := hide hb
      have HT := hide hoth
      clear hown hb hoth
      go_wp2
      go_ret
      exact ⟨rfl, HO2.out, HB.out, HT.out⟩

set_option maxHeartbeats 1000000 in
theorem held_ints (a : Option Addr) (n c : Nat) (w : World) (hn : n ≤ 1048576) (hr : RowAt .i64 w a (upFrom 1 n) w.heap.size) :
    Calls Tryd.prog 20 #[.slice a n c, .int .i64 1] w fun e w' => e = .returned (.int .i64 (1 + n)) ∧ ∃ q, w' = w.drewN q := by
  have HR := hide hr
  clear hr
  go_enter Tryd.func20, Tryd.ntmps20
  go_wp2
  go_loopw [1, 5] (fun k i wr => ∃ j : Nat, j ≤ n ∧ i = .int .i64 j ∧ k = .int .i64 (1 + j) ∧ ∃ q, wr = w.drewN q) (fun _ i _ => n - (intOf i).toNat)
  case atStart => exact ⟨0, Nat.zero_le _, rfl, rfl, 0, rfl⟩
  case round =>
    obtain ⟨j, hj, rfl, rfl, q, rfl⟩ := hrel
    by_cases hlt : j < n
    · obtain ⟨b, off, rfl, hbs, hc⟩ := rowAt_cell HR.out j (by rw [upFrom_len]; exact hlt)
      have hc1 := hc j (by rw [upFrom_len]; exact hlt)
      rw [upFrom_at 1 n j hlt] at hc1
      have hi : (j : Int) < (n : Int) := by omega
      clear hc
      go_wp2
      go_roundw
      case rel => exact ⟨j + 1, by omega, by go_num, by go_num, q, rfl⟩
      case measure => simp [intOf]; omega
    · have hkn : j = n := by omega
      subst hkn
      go_wp2
      go_ret
      exact ⟨rfl, q, rfl⟩
end Go.Proofs.YteeglkkgkjmjpaaDoor

/-
  Contracts: sets told by bits (the program's).
-/
namespace Go.Proofs.YteeglkkgkjmjpaaDoor
open Go.RowKit
set_option linter.unusedVariables false
set_option linter.unusedSimpArgs false
/-- A row of numbers in memory of one's own. -/
def IntR (B : Nat) (w : World) (ad : Option Addr) (c : Nat) (L : List Int) : Prop := w.ownsRow B 2 1 (.slice ad L.length c) L.length (L.map (Value.int .i64))
theorem gOne_list (k : IntKind) (z : Int) : ∀ u ∈ [Value.int k z], u.oneCell' = true := by
  intro u hu
  simp at hu
  subst hu
  rfl
theorem intR_nil (B : Nat) (w : World) : IntR B w none 0 [] := ⟨rfl, .inl ⟨rfl, rfl⟩⟩
theorem intR_put {B : Nat} {w2 : World} {ad : Option Addr} {c : Nat} {L : List Int} {z : Int} (h : w2.ownsRow B 2 1 (.slice ad (L.length + 1) c) (L.length + 1) (L.map (Value.int .i64) ++ [.int .i64 z])) : IntR B w2 ad c (L ++ [z]) := by
  unfold IntR
  rw [List.length_append, List.length_singleton, List.map_append]
  exact h
/-- The library's table stands. -/
def TzT (w : World) : Prop := TabAt 0 Lib.deBruijn64tab w
theorem tzT_go {w w' : World} {B : Nat} (h : TzT w) (hb : Below B w w') (hB : w.heap.size ≤ B) : TzT w' := fun j hj => (hb.cell (p := ⟨0, j, none⟩) (Nat.lt_of_lt_of_le (World.block_lt_of_cell? _ _ (h j hj)) hB)).trans (h j hj)
theorem i_only (n : Nat) (w : World) (hn : n ≤ 40) : Calls Tryd.prog 41 #[.int .i64 n] w fun e w' => e = .returned (.int .u64 ((2 ^ n : Nat) : Int)) ∧ w' = w := by
  have hs : IntKind.u64.wrap ((2 : Int) ^ n) = ((2 ^ n : Nat) : Int) := by
    have : (2 ^ n : Nat) ≤ 2 ^ 40 := Nat.pow_le_pow_right (by decide) hn
    have e : ((2 : Int) ^ n) = ((2 ^ n : Nat) : Int) := by rw [Int.natCast_pow]; rfl
    rw [e, IntKind.wrap_u64]
    obtain ⟨q, hq⟩ : ∃ q, (2 ^ n : Nat) = q := ⟨_, rfl⟩
    rw [hq] at this ⊢
    have h40 : (2 ^ 40 : Nat) = 1099511627776 := by decide
    omega
  have hn0 : (0 : Int) ≤ (n : Int) := by omega
  go_enter Tryd.func41, Tryd.ntmps41
  go_wp2
  go_ret
  exact ⟨rfl, rfl⟩
set_option maxRecDepth 100000 in
set_option maxHeartbeats 2000000 in
theorem i_list (x : Nat) (w : World) (hx : x < 18446744073709551616) (hT : TzT w) :
    Calls Tryd.prog 45 #[.int .u64 x] w fun e w' => ∃ ad c, e = .returned (.slice ad (bts x).length c) ∧ IntR w.heap.size w' ad c (bts x) ∧ Below w.heap.size w w' := by
  obtain ⟨i0, hi, hz0, hz1, hz2⟩ := info_parts info64
  have HT := hide hT
  have hxl := bts_len hx
  clear hT
  go_enter Tryd.func45, Tryd.ntmps45
  go_wp2
  go_loopw [3, 4] (fun lv rv wr => ∃ (r : Nat) (L : List Int) (ad : Option Addr) (c : Nat), r ≤ x ∧ rv = .int .u64 r ∧ lv = .slice ad L.length c ∧ IntR w.heap.size wr ad c L ∧ Below w.heap.size w wr ∧ Hid (L ++ bts r = bts x)) (fun _ rv _ => (intOf rv).toNat)
  case atStart => exact ⟨x, [], none, 0, Nat.le_refl _, rfl, rfl, intR_nil _ _, Below.refl _ _, hide rfl⟩
  case round =>
    obtain ⟨r, L, ad, c, hr, rfl, rfl, ho, hb, HE⟩ := hrel
    have HO := hide ho
    have HB := hide hb
    have hsz : w.heap.size ≤ wr.heap.size := hb.size
    have hLl : L.length ≤ 64 := by have := congrArg List.length HE.out; rw [List.length_append] at this; omega
    by_cases h0 : r = 0
    · subst h0
      have e : L = bts x := by have := HE.out; rw [bts_zero, List.append_nil] at this; exact this
      subst e
      clear ho hb
      go_wp2
      go_ret
      exact ⟨ad, c, rfl, HO.out, HB.out⟩
    · have hne : ((r : Int) == 0) = false := by rw [beq_eq_false_iff_ne]; omega
      have HST := hide (bts_step h0)
      have hcl := cut_lt h0
      have CT := hide (Any7.bits_TrailingZeros64 Tryd.lays29 r (by omega) wr (fun _ => tzT_go HT.out HB.out (Nat.le_refl _)))
      have hra : bits .and .u64 (r : Int) ((r : Int) - 1) = (cutB r : Int) := by rw [show (r : Int) - 1 = ((r - 1 : Nat) : Int) by omega, bits_and_u64_nat r (r - 1) (by omega) (by omega)]; rfl
      have hrw : IntKind.u64.wrap ((r : Int) - 1) = (r : Int) - 1 := by rw [IntKind.wrap_u64]; omega
      clear ho hb
      obtain ⟨z, hz⟩ : ∃ z, (Lib.ctz 64 r : Int) = z := ⟨_, rfl⟩
      rw [hz] at HST CT
      clear hz
      go_wp2_with (first
        | (go_at_call 68; refine CT.out.mono ?_; rintro e w9 ⟨rfl, h9⟩; rw [h9]; clear h9 w9)
        | (at_builtin; refine wpList_append_own _ rfl (.tmp 12) (.tmp 15) 29 rfl w.heap.size 2 i0 (.int .i64 0) 1 8 Tryd.underlying29 hi hz0 hz1 hz2 rfl (by decide) (.slice ad L.length c) L.length (L.map (Value.int .i64)) rfl (HO.out.alloc _) ⟨wr.heap.size, 0, none⟩ 1 1 [.int .i64 z] rfl rfl (fun j u hj => gOne_new wr _ _ j u hj) (gOne_list _ _) (by unfold maxLen; omega) (by omega) (by simp; omega) ?_; intro v2 w2 hown2 hgrow2 _; obtain ⟨ad2, c2', hv2⟩ := gOwn_shape hown2; rw [hv2] at hown2 ⊢; clear hv2; have HB3 := hide (gBelow_one HB.out HO.out hgrow2); have HO2 := hide hown2; clear hown2 hgrow2))
      go_roundw
      case rel => exact ⟨cutB r, L ++ [z], ad2, c2', by omega, by go_num, by rw [List.length_append, List.length_singleton], intR_put HO2.out, HB3.out, hide (by rw [List.append_assoc, List.singleton_append, ← HST.out]; exact HE.out)⟩
      case measure => simp [intOf]; omega
end Go.Proofs.YteeglkkgkjmjpaaDoor

/-
  Contracts: what parts of a model tell (the program's).
-/
namespace Go.Proofs.YteeglkkgkjmjpaaDoor
open Go.RowKit
set_option linter.unusedVariables false
set_option linter.unusedSimpArgs false
/-- What a part tells. -/
def paV (e : Bool) (f l : Nat) : Value := .agg #[.bool e, .int .u64 (f : Int), .int .u64 (l : Int)]
def thF (e1 : Bool) (f1 f2 : Nat) : Nat := if e1 = true then f1 ||| f2 else f1
def thL (e2 : Bool) (l2 l1 : Nat) : Nat := if e2 = true then l2 ||| l1 else l2
set_option maxRecDepth 100000 in
set_option maxHeartbeats 4000000 in
theorem i_then (e1 : Bool) (f1 l1 : Nat) (e2 : Bool) (f2 l2 : Nat) (w : World) (h1 : f1 < 18446744073709551616) (h2 : l1 < 18446744073709551616) (h3 : f2 < 18446744073709551616) (h4 : l2 < 18446744073709551616) :
    Calls Tryd.prog 76 #[paV e1 f1 l1, paV e2 f2 l2] w fun e w' => e = .returned (paV (e1 && e2) (thF e1 f1 f2) (thL e2 l2 l1)) ∧ Below w.heap.size w w' := by
  have b1 : bits .or .u64 (f1 : Int) (f2 : Int) = ((f1 ||| f2 : Nat) : Int) := u64_or_nat f1 f2 h1 h3
  have b2 : bits .or .u64 (l2 : Int) (l1 : Int) = ((l2 ||| l1 : Nat) : Int) := u64_or_nat l2 l1 h4 h2
  unfold paV
  cases e1 <;> cases e2
  all_goals
    go_enter Tryd.func76, Tryd.ntmps76
    go_wp2
    refine bodyPost_ret (v := .agg #[_, _, _]) (by simp [results, Tryd.results76, go_sem, b1, b2]; first | done | exact ⟨rfl, rfl, rfl⟩) rfl ⟨?_, ?_⟩
    rotate_left
    · iterate 4 (refine Below.alloc ?_ (by simp; try omega) _)
      exact Below.refl _ _
    · first | rfl | simp [thF, thL, b1, b2]
set_option maxRecDepth 100000 in
set_option maxHeartbeats 4000000 in
theorem i_or (e1 : Bool) (f1 l1 : Nat) (e2 : Bool) (f2 l2 : Nat) (w : World) (h1 : f1 < 18446744073709551616) (h2 : l1 < 18446744073709551616) (h3 : f2 < 18446744073709551616) (h4 : l2 < 18446744073709551616) :
    Calls Tryd.prog 64 #[paV e1 f1 l1, paV e2 f2 l2] w fun e w' => e = .returned (paV (e1 || e2) (f1 ||| f2) (l1 ||| l2)) ∧ Below w.heap.size w w' := by
  have b1 : bits .or .u64 (f1 : Int) (f2 : Int) = ((f1 ||| f2 : Nat) : Int) := u64_or_nat f1 f2 h1 h3
  have b2 : bits .or .u64 (l1 : Int) (l2 : Int) = ((l1 ||| l2 : Nat) : Int) := u64_or_nat l1 l2 h2 h4
  unfold paV
  cases e1 <;> cases e2
  all_goals
    go_enter Tryd.func64, Tryd.ntmps64
    go_wp2
    refine bodyPost_ret (v := .agg #[_, _, _]) (by simp [results, Tryd.results64, go_sem, b1, b2]; first | done | exact ⟨rfl, rfl, rfl⟩) rfl ⟨?_, ?_⟩
    rotate_left
    · iterate 3 (refine Below.alloc ?_ (by simp; try omega) _)
      exact Below.refl _ _
    · first | rfl | simp [b1, b2]
end Go.Proofs.YteeglkkgkjmjpaaDoor
