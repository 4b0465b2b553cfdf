/-
  Contracts of the laws' helpers on rows of Mark: how much they hold, a copy in new memory, and that two rows that are alike are told so; how such a row lies.
-/
import Derived.Test.YtfoheoidfcbopaaDoorGen
import Derived.Test.YtfoheoidfcbopaaDoorChecked
import Derived.WalkKit
import Derived.ProofKit
import Derived.Below
import Derived.OwnWalk
import Derived.Laws.OwnMore
import Derived.RegionTactic
import Derived.Deep.QuietTactic
import Derived.Deep.RegionWith
import Derived.BigQuiet
import Derived.Deep.Draws
import Derived.Deep.RegionHeld3
import Derived.Deep.SlicePairs
import Derived.Lib.SmallJoins
import Derived.KernelRfl
namespace Go.Proofs.YtfoheoidfcbopaaDoor
open Go.RowKit Go.Joins
set_option linter.unusedVariables false
set_option linter.unusedSimpArgs false
theorem ret_iI {a b : Int} (h : a = b) : Ending.returned (.int .i64 a) = .returned (.int .i64 b) := by rw [h]
def sumN (f : Nat → Nat) : Nat → Nat
  | 0 => 0
  | k + 1 => sumN f k + f k
theorem sumN_le (f : Nat → Nat) {a b : Nat} (h : a ≤ b) : sumN f a ≤ sumN f b := by
  induction b with
  | zero => have : a = 0 := by omega
            subst this; exact Nat.le_refl _
  | succ b ih =>
    by_cases e : a = b + 1
    · subst e; exact Nat.le_refl _
    · have := ih (by omega)
      show sumN f a ≤ sumN f b + f b
      omega
theorem sumN_at (f : Nat → Nat) {a b : Nat} (h : a < b) : sumN f a + f a ≤ sumN f b := sumN_le f (a := a + 1) h
/-- What is left of 'left' when 'x' is taken away; -1: not so much was there. -/
def dn (left : Int) (x : Nat) : Int := if (x : Int) ≤ left then left - x else -1
theorem dn_yes {left : Int} {x : Nat} (h : (x : Int) ≤ left) : dn left x = left - x := by unfold dn; rw [if_pos h]
theorem dn_no {left : Int} {x : Nat} (h : ¬ (x : Int) ≤ left) : dn left x = -1 := by unfold dn; rw [if_neg h]
theorem own_someN {w : World} {B g n t size : Nat} {xs : List Value} (h : w.ownsRow B t size (.slice (some ⟨g, 0, none⟩) n n) n xs) (j : Nat) (hj : j < n * size) : ∃ v, w.cell? ⟨g, j, none⟩ = some v := by
  rw [h.cellAt j hj]
  exact ⟨_, List.getElem?_eq_getElem (by rw [h.1]; exact hj)⟩
/-- A row of them. -/
structure Mk where
  n : Nat
  G : Nat → Bool
  DC : Nat → Int
  VL : Nat → ByteArray
  NL : Nat → Bool
  GV : Nat → Bool
def MkAt (w : World) (a : Option Addr) (M : Mk) (B : Nat) : Prop := 0 < M.n → ∃ b off, a = some ⟨b, off, none⟩ ∧ b < B ∧ ∀ j, j < M.n → w.cell? ⟨b, off + j * 5, none⟩ = some (.bool (M.G j)) ∧ w.cell? ⟨b, off + j * 5 + 1, none⟩ = some (.int .i64 (M.DC j)) ∧ w.cell? ⟨b, off + j * 5 + 2, none⟩ = some (.string (M.VL j)) ∧ w.cell? ⟨b, off + j * 5 + 3, none⟩ = some (.bool (M.NL j)) ∧ w.cell? ⟨b, off + j * 5 + 4, none⟩ = some (.bool (M.GV j))
theorem mkAt_go {w w' : World} {a : Option Addr} {M : Mk} {B : Nat} (h : MkAt w a M B) (k : Below B w w') : MkAt w' a M B := fun h0 => by
  obtain ⟨b, off, e, hb, hc⟩ := h h0
  refine ⟨b, off, e, hb, fun j hj => ?_⟩
  obtain ⟨h0, h1, h2, h3, h4⟩ := hc j hj
  exact ⟨(k.cell (p := ⟨b, off + j * 5, none⟩) hb).trans h0, (k.cell (p := ⟨b, off + j * 5 + 1, none⟩) hb).trans h1, (k.cell (p := ⟨b, off + j * 5 + 2, none⟩) hb).trans h2, (k.cell (p := ⟨b, off + j * 5 + 3, none⟩) hb).trans h3, (k.cell (p := ⟨b, off + j * 5 + 4, none⟩) hb).trans h4⟩
theorem mkAt_up {w : World} {a : Option Addr} {M : Mk} {B B' : Nat} (h : MkAt w a M B) (k : B ≤ B') : MkAt w a M B' := fun h0 => by
  obtain ⟨b, off, e, hb, hc⟩ := h h0
  exact ⟨b, off, e, Nat.lt_of_lt_of_le hb k, hc⟩
def MkSz (M : Mk) : Prop := M.n ≤ maxLen ∧ ∀ j, j < M.n → (M.VL j).size ≤ maxLen
def mkSz (M : Mk) (j : Nat) : Nat := (M.VL j).size
def mkTot (M : Mk) : Nat := M.n + sumN (mkSz M) M.n
theorem mk_sz {M : Mk} (h : mkTot M ≤ 1048576) : M.n ≤ 1048576 ∧ ∀ j, j < M.n → mkSz M j ≤ 1048576 := by
  unfold mkTot at h
  refine ⟨by omega, fun j hj => ?_⟩
  have h1 := sumN_at (mkSz M) hj
  omega
set_option maxHeartbeats 1000000 in
theorem l_toMk (x0 : Bool) (x1 : Int) (x2 : ByteArray) (x3 : Bool) (x4 : Bool) (w : World) : Calls Tryd.prog 14 #[.agg #[.bool x0, .int .i64 x1, .string x2, .bool x3, .bool x4]] w fun e w' => e = .returned (.agg #[.bool x0, .int .i64 x1, .string x2, .bool x3, .bool x4]) ∧ Below w.heap.size w w' := by
  go_enter Tryd.func14, Tryd.ntmps14
  go_wp2
  refine bodyPost_ret (v := .agg #[.bool x0, .int .i64 x1, .string x2, .bool x3, .bool x4]) (by simp [results, Tryd.results14, go_sem]) rfl ⟨rfl, ?_⟩
  exact (((Below.refl _ _).alloc (Nat.le_refl _) _).alloc (by simp) _).alloc (by simp; omega) _
/-- Of a row of cells the first k are those of M. -/
def MkCut (xs : List Value) (k : Nat) (M : Mk) : Prop := ∀ j, j < k → xs[j * 5]? = some (.bool (M.G j)) ∧ xs[j * 5 + 1]? = some (.int .i64 (M.DC j)) ∧ xs[j * 5 + 2]? = some (.string (M.VL j)) ∧ xs[j * 5 + 3]? = some (.bool (M.NL j)) ∧ xs[j * 5 + 4]? = some (.bool (M.GV j))
theorem mkCut_step {xs : List Value} {k n : Nat} {M : Mk} (h : MkCut xs k M) (hk : k < n) (hl : xs.length = n * 5) : MkCut ((((((xs.set (k * 5) (.bool (M.G k))).set (k * 5 + 1) (.int .i64 (M.DC k))).set (k * 5 + 2) (.string (M.VL k))).set (k * 5 + 3) (.bool (M.NL k))).set (k * 5 + 4) (.bool (M.GV k)))) (k + 1) M := by
  intro j hj
  simp only [List.getElem?_set, List.length_set]
  by_cases e : j = k
  · subst e
    refine ⟨?_, ?_, ?_, ?_, ?_⟩
    all_goals
      repeat (first | rw [if_pos rfl, if_pos (by omega)] | rw [if_neg (by omega)])
  · obtain ⟨h0, h1, h2, h3, h4⟩ := h j (by omega)
    refine ⟨?_, ?_, ?_, ?_, ?_⟩
    all_goals
      repeat rw [if_neg (by omega)]
      assumption
theorem own_mk {w : World} {B g n t : Nat} {xs : List Value} {M : Mk} (hn : M.n = n) (h : w.ownsRow B t 5 (.slice (some ⟨g, 0, none⟩) n n) n xs) (hp : MkCut xs n M) : MkAt w (some ⟨g, 0, none⟩) M w.heap.size := fun h0 => by
  have hg : g < w.heap.size := (h.lt g rfl).2
  refine ⟨g, 0, rfl, hg, fun j hj => ?_⟩
  obtain ⟨h0, h1, h2, h3, h4⟩ := hp j (by omega)
  refine ⟨?_, ?_, ?_, ?_, ?_⟩
  · rw [Nat.zero_add, h.cellAt (j * 5) (by omega)]; exact h0
  · rw [Nat.zero_add, h.cellAt (j * 5 + 1) (by omega)]; exact h1
  · rw [Nat.zero_add, h.cellAt (j * 5 + 2) (by omega)]; exact h2
  · rw [Nat.zero_add, h.cellAt (j * 5 + 3) (by omega)]; exact h3
  · rw [Nat.zero_add, h.cellAt (j * 5 + 4) (by omega)]; exact h4
theorem infoMk : (Tryd.prog.info? 32).map (fun i => (i.zero, i.size, i.bytes)) = some (some (.agg #[.bool false, .int .i64 0, .string ⟨#[]⟩, .bool false, .bool false]), 5, 40) := by kernel_rfl
set_option maxHeartbeats 2000000 in
theorem l_toMks (M : Mk) (n : Nat) (a : Option Addr) (cap : Nat) (w : World) (hM : M.n = n) (hn : n ≤ 1048576) (hr : MkAt w a M w.heap.size) :
    Calls Tryd.prog 6 #[.slice a n cap] w fun e w' => ∃ g, e = .returned (.slice (some ⟨g, 0, none⟩) n n) ∧ w.heap.size ≤ g ∧ MkAt w' (some ⟨g, 0, none⟩) M w'.heap.size ∧ Below w.heap.size w w' := by
  obtain ⟨i0, hi, hz0, hz1, hz2⟩ := info_parts infoMk
  have HM := hide hM
  have HR := hide hr
  clear hr hM
  go_enter Tryd.func6, Tryd.ntmps6
  go_wp2_with (at_make; refine wpList_make_full _ rfl _ _ 25 rfl w.heap.size 32 i0 (.agg #[.bool false, .int .i64 0, .string ⟨#[]⟩, .bool false, .bool false]) 5 Tryd.underlying25 hi hz0 hz1 .i64 .i64 _ _ n rfl rfl rfl rfl (by rw [hz2]; omega) (by unfold maxLen; omega) (Nat.le_refl _) ?_; intro w1 hown hgrow)
  have hb1 : Below w.heap.size w w1 := (Below.refl _ _).grown hgrow (Nat.le_refl _) (fun k h => by cases h)
  clear hgrow
  go_loopw [4] (fun i wr => ∃ k : Nat, k ≤ n ∧ i = .int .i64 k ∧ (∃ xs, wr.ownsRow w.heap.size 32 5 (.slice (some ⟨w.heap.size, 0, none⟩) n n) n xs ∧ MkCut xs k M) ∧ Below w.heap.size w wr) (fun i _ => n - (intOf i).toNat)
  case atStart => exact ⟨0, Nat.zero_le _, rfl, ⟨_, hown, fun j h => by omega⟩, hb1⟩
  case round =>
    clear hown hb1
    obtain ⟨k, hk, rfl, ⟨xs, hown, hp⟩, hb⟩ := hrel
    by_cases hlt : k < n
    · obtain ⟨b, off, rfl, hbs, hc⟩ := HR.out (by rw [HM.out]; omega)
      obtain ⟨h0, h1, h2, h3, h4⟩ := hc k (by rw [HM.out]; omega)
      have c0 := (hb.cell (p := ⟨b, off + k * 5, none⟩) hbs).trans h0
      have c1 := (hb.cell (p := ⟨b, off + k * 5 + 1, none⟩) hbs).trans h1
      have c2 := (hb.cell (p := ⟨b, off + k * 5 + 2, none⟩) hbs).trans h2
      have c3 := (hb.cell (p := ⟨b, off + k * 5 + 3, none⟩) hbs).trans h3
      have c4 := (hb.cell (p := ⟨b, off + k * 5 + 4, none⟩) hbs).trans h4
      have HP := hide hp
      have HB := hide hb
      have HO := hide hown
      clear hp hb hc hown h0 h1 h2 h3 h4
      go_wp2_with (go_at_call 14; refine (l_toMk _ _ _ _ _ _).mono ?_; rintro e w2 ⟨rfl, hb2⟩; have hown2 := gOwn_after HO.out hb2; have hf0 := hown2.frozenAt (k * 5); obtain ⟨y0, hy0⟩ := own_someN hown2 (k * 5) (by omega); have hf1 := hown2.frozenAt (k * 5 + 1); obtain ⟨y1, hy1⟩ := own_someN hown2 (k * 5 + 1) (by omega); have hf2 := hown2.frozenAt (k * 5 + 2); obtain ⟨y2, hy2⟩ := own_someN hown2 (k * 5 + 2) (by omega); have hf3 := hown2.frozenAt (k * 5 + 3); obtain ⟨y3, hy3⟩ := own_someN hown2 (k * 5 + 3) (by omega); have hf4 := hown2.frozenAt (k * 5 + 4); obtain ⟨y4, hy4⟩ := own_someN hown2 (k * 5 + 4) (by omega); replace HB := hide (HB.out.trans (hb2.mono HB.out.size)); replace HO := hide hown2; clear hown2 hb2)
      go_roundw
      case rel =>
        refine ⟨k + 1, by omega, by go_num, ⟨_, (((((HO.out.stored (k * 5) (.bool (M.G k))).1.stored (k * 5 + 1) (.int .i64 (M.DC k))).1.stored (k * 5 + 2) (.string (M.VL k))).1.stored (k * 5 + 3) (.bool (M.NL k))).1.stored (k * 5 + 4) (.bool (M.GV k))).1, mkCut_step HP.out hlt HO.out.1⟩, ?_⟩
        iterate 5 (refine Below.setCell ?_ (Nat.le_refl w.heap.size) _)
        exact HB.out
      case measure => simp [intOf]; omega
    · have hkn : k = n := by omega
      subst hkn
      go_wp2
      go_ret
      exact ⟨_, rfl, Nat.le_refl _, own_mk HM.out hown hp, hb⟩
set_option maxHeartbeats 1000000 in
theorem l_szMk (x0 : Bool) (x1 : Int) (x2 : ByteArray) (x3 : Bool) (x4 : Bool) (left : Int) (w : World) (hs : x2.size ≤ maxLen) (h0 : 0 ≤ left) (h1 : left ≤ 1048576) : Calls Tryd.prog 9 #[.agg #[.bool x0, .int .i64 x1, .string x2, .bool x3, .bool x4], .int .i64 left] w fun e w' => e = .returned (.int .i64 (dn left (x2.size))) ∧ Below w.heap.size w w' := by
  unfold maxLen at hs
  by_cases p2 : (x2.size : Int) ≤ left
  · have hd := hide (dn_yes (left := left) (x := x2.size) (by omega))
    go_enter Tryd.func9, Tryd.ntmps9
    go_wp2
    go_ret
    exact ⟨ret_iI (by rw [hd.out]; try omega), (Below.refl _ _).alloc (Nat.le_refl _) _⟩
  · have hd := hide (dn_no (left := left) (x := x2.size) (by omega))
    go_enter Tryd.func9, Tryd.ntmps9
    go_wp2
    go_ret
    exact ⟨ret_iI (by rw [hd.out]), (Below.refl _ _).alloc (Nat.le_refl _) _⟩
set_option maxHeartbeats 1000000 in
theorem l_szMks (M : Mk) (n : Nat) (a : Option Addr) (c : Nat) (w : World) (hM : M.n = n) (hz : MkSz M) (hr : MkAt w a M w.heap.size) :
    Calls Tryd.prog 4 #[.slice a n c, .int .i64 1048576] w fun e w' => e = .returned (.int .i64 (dn 1048576 (mkTot M))) ∧ Below w.heap.size w w' := by
  have HM := hide hM
  have HZ := hide hz
  have HR := hide hr
  have hn : n ≤ maxLen := by rw [← hM]; exact hz.1
  unfold maxLen at hn
  clear hr hz hM
  by_cases hb0 : (1048576 : Int) < (n : Int)
  · have hd := hide (dn_no (left := 1048576) (x := mkTot M) (by unfold mkTot; rw [HM.out]; omega))
    go_enter Tryd.func4, Tryd.ntmps4
    go_wp2
    go_ret
    exact ⟨ret_iI (by rw [hd.out]), Below.refl _ _⟩
  · go_enter Tryd.func4, Tryd.ntmps4
    go_wp2
    go_loopw [1, 5] (fun l i wr => ∃ k : Nat, k ≤ n ∧ i = .int .i64 k ∧ l = .int .i64 (1048576 - (n : Int) - (sumN (mkSz M) k : Int)) ∧ (n : Int) + (sumN (mkSz M) k : Int) ≤ 1048576 ∧ Below w.heap.size w wr) (fun _ i _ => n - (intOf i).toNat)
    case atStart => exact ⟨0, Nat.zero_le _, rfl, by simp [sumN], by show (n : Int) + ((0 : Nat) : Int) ≤ _; omega, Below.refl _ _⟩
    case round =>
      obtain ⟨k, hk, rfl, rfl, hle, hb⟩ := hrel
      by_cases hlt : k < n
      · obtain ⟨b, off, rfl, hbs, hc⟩ := HR.out (by rw [HM.out]; omega)
        obtain ⟨h0, h1, h2, h3, h4⟩ := hc k (by rw [HM.out]; omega)
        have c0 := (hb.cell (p := ⟨b, off + k * 5, none⟩) hbs).trans h0
        have c1 := (hb.cell (p := ⟨b, off + k * 5 + 1, none⟩) hbs).trans h1
        have c2 := (hb.cell (p := ⟨b, off + k * 5 + 2, none⟩) hbs).trans h2
        have c3 := (hb.cell (p := ⟨b, off + k * 5 + 3, none⟩) hbs).trans h3
        have c4 := (hb.cell (p := ⟨b, off + k * 5 + 4, none⟩) hbs).trans h4
        have HZK := hide (HZ.out.2 k (by rw [HM.out]; omega))
        have HB := hide hb
        obtain ⟨q, hq⟩ : ∃ q, sumN (mkSz M) k = q := ⟨_, rfl⟩
        obtain ⟨T, hT⟩ : ∃ T, (M.VL k).size = T := ⟨_, rfl⟩
        have hq1 : sumN (mkSz M) (k + 1) = q + T := by rw [← hq, ← hT]; rfl
        have HQ1 := hide hq1
        have HT := hide hT
        rw [hq] at hle ⊢
        have HLE := hide (sumN_le (mkSz M) (a := k + 1) (b := n) (by omega))
        clear hq hq1 hb hc hT h0 h1 h2 h3 h4
        by_cases hbig : (T : Int) ≤ 1048576 - (n : Int) - (q : Int)
        · have hbig2 : (0 : Int) ≤ 1048576 - (n : Int) - (q : Int) - (T : Int) := by omega
          go_wp2_with (go_at_call 9; refine (l_szMk _ _ _ _ _ _ _ HZK.out (by omega) (by omega)).mono ?_; rintro e w2 ⟨rfl, hb2⟩; rw [HT.out, dn_yes hbig]; have HB2 := hide (HB.out.trans (hb2.mono HB.out.size)); clear hb2)
          go_roundw
          case rel => exact ⟨k + 1, by omega, by go_num, by rw [HQ1.out]; go_num, by rw [HQ1.out]; omega, HB2.out⟩
          case measure => simp [intOf]; omega
        · have hd := hide (dn_no (left := 1048576) (x := mkTot M) (by have := HLE.out; rw [HQ1.out] at this; unfold mkTot; rw [HM.out]; omega))
          go_wp2_with (go_at_call 9; refine (l_szMk _ _ _ _ _ _ _ HZK.out (by omega) (by omega)).mono ?_; rintro e w2 ⟨rfl, hb2⟩; rw [HT.out, dn_no hbig]; have HB2 := hide (HB.out.trans (hb2.mono HB.out.size)); clear hb2)
          go_ret
          exact ⟨ret_iI (by rw [hd.out]), HB2.out⟩
      · have hkn : k = n := by omega
        subst hkn
        have hd := hide (dn_yes (left := 1048576) (x := mkTot M) (by unfold mkTot; rw [HM.out]; omega))
        go_wp2
        go_ret
        exact ⟨ret_iI (by rw [hd.out]; unfold mkTot; rw [HM.out]; omega), hb⟩
theorem l_eqMk (x0 : Bool) (x1 : Int) (x2 : ByteArray) (x3 : Bool) (x4 : Bool) (w : World) : Calls Tryd.prog 18 #[.agg #[.bool x0, .int .i64 x1, .string x2, .bool x3, .bool x4], .agg #[.bool x0, .int .i64 x1, .string x2, .bool x3, .bool x4]] w fun e w' => e = .returned (.bool true) ∧ Below w.heap.size w w' := by
  go_enter Tryd.func18, Tryd.ntmps18
  go_wp2
  go_ret
  exact ⟨rfl, ((Below.refl _ _).alloc (Nat.le_refl _) _).alloc (by simp) _⟩
def EQMk (w w' : World) (b o b' o' : Nat) (M : Mk) (k : Nat) : Prop := Below w.heap.size w w' ∧ (b < w.heap.size ∧ b' < w.heap.size) ∧ (w'.cell? ⟨b, o, none⟩ = some (.bool (M.G k)) ∧ w'.cell? ⟨b, o + 1, none⟩ = some (.int .i64 (M.DC k)) ∧ w'.cell? ⟨b, o + 2, none⟩ = some (.string (M.VL k)) ∧ w'.cell? ⟨b, o + 3, none⟩ = some (.bool (M.NL k)) ∧ w'.cell? ⟨b, o + 4, none⟩ = some (.bool (M.GV k))) ∧ (w'.cell? ⟨b', o', none⟩ = some (.bool (M.G k)) ∧ w'.cell? ⟨b', o' + 1, none⟩ = some (.int .i64 (M.DC k)) ∧ w'.cell? ⟨b', o' + 2, none⟩ = some (.string (M.VL k)) ∧ w'.cell? ⟨b', o' + 3, none⟩ = some (.bool (M.NL k)) ∧ w'.cell? ⟨b', o' + 4, none⟩ = some (.bool (M.GV k)))
theorem eqmk_go {w w1 w2 : World} {b o b' o' : Nat} {M : Mk} {k : Nat} (x : EQMk w w1 b o b' o' M k) (h : Below w1.heap.size w1 w2) : EQMk w w2 b o b' o' M k := by
  obtain ⟨hb, ⟨hA, hC⟩, ⟨h0, h1, h2, h3, h4⟩, ⟨g0, g1, g2, g3, g4⟩⟩ := x
  have hh := h.mono hb.size
  exact ⟨hb.trans hh, ⟨hA, hC⟩, ⟨(hh.cell (p := ⟨b, o, none⟩) hA).trans h0, (hh.cell (p := ⟨b, o + 1, none⟩) hA).trans h1, (hh.cell (p := ⟨b, o + 2, none⟩) hA).trans h2, (hh.cell (p := ⟨b, o + 3, none⟩) hA).trans h3, (hh.cell (p := ⟨b, o + 4, none⟩) hA).trans h4⟩, ⟨(hh.cell (p := ⟨b', o', none⟩) hC).trans g0, (hh.cell (p := ⟨b', o' + 1, none⟩) hC).trans g1, (hh.cell (p := ⟨b', o' + 2, none⟩) hC).trans g2, (hh.cell (p := ⟨b', o' + 3, none⟩) hC).trans g3, (hh.cell (p := ⟨b', o' + 4, none⟩) hC).trans g4⟩⟩
theorem eqmk_drew {w w1 : World} {b o b' o' : Nat} {M : Mk} {k : Nat} (x : EQMk w w1 b o b' o' M k) : EQMk w w1.drew b o b' o' M k := eqmk_go x ⟨rfl, rfl, rfl, Nat.le_refl _, fun _ _ => rfl⟩
theorem eqmk_all {w w1 : World} {b o b' o' : Nat} {M : Mk} {k : Nat} (x : EQMk w w1 b o b' o' M k) : EQMk w w1 b o b' o' M k ∧ (w1.cell? ⟨b, o, none⟩ = some (.bool (M.G k)) ∧ w1.cell? ⟨b, o + 1, none⟩ = some (.int .i64 (M.DC k)) ∧ w1.cell? ⟨b, o + 2, none⟩ = some (.string (M.VL k)) ∧ w1.cell? ⟨b, o + 3, none⟩ = some (.bool (M.NL k)) ∧ w1.cell? ⟨b, o + 4, none⟩ = some (.bool (M.GV k))) ∧ (w1.cell? ⟨b', o', none⟩ = some (.bool (M.G k)) ∧ w1.cell? ⟨b', o' + 1, none⟩ = some (.int .i64 (M.DC k)) ∧ w1.cell? ⟨b', o' + 2, none⟩ = some (.string (M.VL k)) ∧ w1.cell? ⟨b', o' + 3, none⟩ = some (.bool (M.NL k)) ∧ w1.cell? ⟨b', o' + 4, none⟩ = some (.bool (M.GV k))) := ⟨x, x.2.2.1, x.2.2.2⟩
set_option maxRecDepth 100000 in
set_option maxHeartbeats 4000000 in
theorem l_eqMks (M : Mk) (n : Nat) (a1 a2 : Option Addr) (c1 c2 : Nat) (w : World) (hM : M.n = n) (hn : n ≤ 1048576) (h1 : MkAt w a1 M w.heap.size) (h2 : MkAt w a2 M w.heap.size) :
    Calls Tryd.prog 8 #[.slice a1 n c1, .slice a2 n c2] w fun e w' => e = .returned (.bool true) ∧ Below w.heap.size w w' := by
  have HM := hide hM
  have H1 := hide h1
  have H2 := hide h2
  clear h1 h2 hM
  go_enter Tryd.func8, Tryd.ntmps8
  go_wp2
  go_loopw [5] (fun i wr => ∃ k : Nat, k ≤ n ∧ i = .int .i64 k ∧ Below w.heap.size w wr) (fun i _ => n - (intOf i).toNat)
  case atStart => exact ⟨0, Nat.zero_le _, rfl, Below.refl _ _⟩
  case round =>
    obtain ⟨k, hk, rfl, hb⟩ := hrel
    by_cases hlt : k < n
    · obtain ⟨b, off, rfl, hbs, hc⟩ := H1.out (by rw [HM.out]; omega)
      obtain ⟨b', off', rfl, hbs', hc'⟩ := H2.out (by rw [HM.out]; omega)
      obtain ⟨h0, h1, h2, h3, h4⟩ := hc k (by rw [HM.out]; omega)
      obtain ⟨g0, g1, g2, g3, g4⟩ := hc' k (by rw [HM.out]; omega)
      have X : Hid (EQMk w wr b (off + k * 5) b' (off' + k * 5) M k) := ⟨hb, ⟨hbs, hbs'⟩, ⟨(hb.cell (p := ⟨b, off + k * 5, none⟩) hbs).trans h0, (hb.cell (p := ⟨b, off + k * 5 + 1, none⟩) hbs).trans h1, (hb.cell (p := ⟨b, off + k * 5 + 2, none⟩) hbs).trans h2, (hb.cell (p := ⟨b, off + k * 5 + 3, none⟩) hbs).trans h3, (hb.cell (p := ⟨b, off + k * 5 + 4, none⟩) hbs).trans h4⟩, ⟨(hb.cell (p := ⟨b', off' + k * 5, none⟩) hbs').trans g0, (hb.cell (p := ⟨b', off' + k * 5 + 1, none⟩) hbs').trans g1, (hb.cell (p := ⟨b', off' + k * 5 + 2, none⟩) hbs').trans g2, (hb.cell (p := ⟨b', off' + k * 5 + 3, none⟩) hbs').trans g3, (hb.cell (p := ⟨b', off' + k * 5 + 4, none⟩) hbs').trans g4⟩⟩
      have hi : (k : Int) < (n : Int) := by omega
      have hi0 : (0 : Int) ≤ (k : Int) := by omega
      clear hc hc' hb h0 h1 h2 h3 h4 g0 g1 g2 g3 g4
      go_wp2
      go_region_held3 (fun w' => EQMk w w' b (off + k * 5) b' (off' + k * 5) M k ∧ (w'.cell? ⟨b, off + k * 5, none⟩ = some (.bool (M.G k)) ∧ w'.cell? ⟨b, off + k * 5 + 1, none⟩ = some (.int .i64 (M.DC k)) ∧ w'.cell? ⟨b, off + k * 5 + 2, none⟩ = some (.string (M.VL k)) ∧ w'.cell? ⟨b, off + k * 5 + 3, none⟩ = some (.bool (M.NL k)) ∧ w'.cell? ⟨b, off + k * 5 + 4, none⟩ = some (.bool (M.GV k))) ∧ (w'.cell? ⟨b', off' + k * 5, none⟩ = some (.bool (M.G k)) ∧ w'.cell? ⟨b', off' + k * 5 + 1, none⟩ = some (.int .i64 (M.DC k)) ∧ w'.cell? ⟨b', off' + k * 5 + 2, none⟩ = some (.string (M.VL k)) ∧ w'.cell? ⟨b', off' + k * 5 + 3, none⟩ = some (.bool (M.NL k)) ∧ w'.cell? ⟨b', off' + k * 5 + 4, none⟩ = some (.bool (M.GV k)))) (first | assumption | exact eqmk_all (eqmk_drew X.out) | exact eqmk_all X.out) (first | (go_at_call 18; refine (l_eqMk _ _ _ _ _ _).mono ?_; rintro e w2 ⟨rfl, hb2⟩; have X2 := hide (eqmk_go (eqmk_drew X.out) hb2); replace X := X2; clear X2 hb2))
      all_goals
        go_wp2
        go_roundw
        case rel => exact ⟨k + 1, by omega, by go_num, X.out.1⟩
        case measure => simp [intOf]; omega
    · go_wp2
      go_ret
      exact ⟨rfl, hb⟩
end Go.Proofs.YtfoheoidfcbopaaDoor
