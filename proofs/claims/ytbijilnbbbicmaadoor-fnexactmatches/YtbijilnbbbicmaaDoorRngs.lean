/-
  Contracts of the laws' helpers on rows of ranges: a copy in new memory; two rows that are alike are told so; a node's copy.
-/
import Derived.Test.YtbijilnbbbicmaaDoorRng
namespace Go.Proofs.YtbijilnbbbicmaaDoor
open Go.RowKit
set_option linter.unusedVariables false
set_option linter.unusedSimpArgs false
/-- Of a row of cells the first k pairs are L and H. -/
def Pairs (xs : List Value) (k : Nat) (L H : Nat → Int) : Prop := ∀ j, j < k → xs[j * 2]? = some (.int .i64 (L j)) ∧ xs[j * 2 + 1]? = some (.int .i64 (H j))
theorem pairs_step {xs : List Value} {k n : Nat} {L H : Nat → Int} (h : Pairs xs k L H) (hk : k < n) (hl : xs.length = n * 2) :
    Pairs ((xs.set (k * 2) (.int .i64 (L k))).set (k * 2 + 1) (.int .i64 (H k))) (k + 1) L H := by
  intro j hj
  simp only [List.getElem?_set, List.length_set]
  by_cases e : j = k
  · subst e
    refine ⟨?_, ?_⟩
    · rw [if_neg (by omega), if_pos rfl, if_pos (by omega)]
    · rw [if_pos rfl, if_pos (by omega)]
  · have hj' := h j (by omega)
    refine ⟨?_, ?_⟩
    · rw [if_neg (by omega), if_neg (by omega)]; exact hj'.1
    · rw [if_neg (by omega), if_neg (by omega)]; exact hj'.2
theorem own_rng {w : World} {B g n t : Nat} {xs : List Value} {L H : Nat → Int} (h : w.ownsRow B t 2 (.slice (some ⟨g, 0, none⟩) n n) n xs) (hp : Pairs xs n L H) : RngAt w (some ⟨g, 0, none⟩) n L H w.heap.size := fun h0 => by
  have hg : g < w.heap.size := (h.lt g rfl).2
  refine ⟨g, 0, rfl, hg, fun j hj => ?_⟩
  refine ⟨?_, ?_⟩
  · rw [Nat.zero_add, h.cellAt (j * 2) (by omega)]; exact (hp j hj).1
  · rw [Nat.zero_add, h.cellAt (j * 2 + 1) (by omega)]; exact (hp j hj).2
theorem own_after {w w' : World} {B e size n : Nat} {v : Value} {xs : List Value} (h : w.ownsRow B e size v n xs) (hb : Below w.heap.size w w') : w'.ownsRow B e size v n xs := by
  obtain ⟨hl, h⟩ := h
  refine ⟨hl, ?_⟩
  rcases h with h | ⟨g, cap, cur, hv, hg, hh, h1, h2, h3, h4⟩
  · exact .inl h
  · have hlt : g < w.heap.size := (Array.getElem?_eq_some_iff.1 hh).1
    exact .inr ⟨g, cap, cur, hv, hg, (hb.block g hlt).trans hh, h1, h2, h3, h4⟩
theorem own_some {w : World} {B g n t : Nat} {xs : List Value} (h : w.ownsRow B t 2 (.slice (some ⟨g, 0, none⟩) n n) n xs) (j : Nat) (hj : j < n * 2) : ∃ v, w.cell? ⟨g, j, none⟩ = some v := by
  rw [h.cellAt j hj]
  exact ⟨_, List.getElem?_eq_getElem (by rw [h.1]; exact hj)⟩
set_option maxHeartbeats 1000000 in
theorem l_toRs (a : Option Addr) (n cap : Nat) (L H : Nat → Int) (w : World) (hn : n ≤ 1048576) (hr : RngAt w a n L H w.heap.size) :
    Calls Tryd.prog 24 #[.slice a n cap] w fun e w' => e = .returned (.slice (some ⟨w.heap.size, 0, none⟩) n n) ∧
      RngAt w' (some ⟨w.heap.size, 0, none⟩) n L H w'.heap.size ∧ Below w.heap.size w w' := by
  obtain ⟨i0, hi, hz0, hz1, hz2⟩ := info_parts infoR
  have HR := hide hr
  clear hr
  go_enter Tryd.func24, Tryd.ntmps24
  go_wp2_with (at_make; refine wpList_make_full _ rfl _ _ 39 rfl w.heap.size 73 i0 (.agg #[.int .i64 0, .int .i64 0]) 2 Tryd.underlying39 hi hz0 hz1 .i64 .i64 _ _ n rfl rfl rfl rfl (by rw [hz2]; omega) (by unfold maxLen; omega) (Nat.le_refl _) ?_; intro w1 hown hgrow)
  have hb1 : Below w.heap.size w w1 := (Below.refl _ _).grown hgrow (Nat.le_refl _) (fun k h => by cases h)
  clear hgrow
  go_loopw [4] (fun i wr => ∃ k : Nat, k ≤ n ∧ i = .int .i64 k ∧ (∃ xs, wr.ownsRow w.heap.size 73 2 (.slice (some ⟨w.heap.size, 0, none⟩) n n) n xs ∧ Pairs xs k L H) ∧ Below w.heap.size w wr) (fun i _ => n - (intOf i).toNat)
  case atStart => exact ⟨0, Nat.zero_le _, rfl, ⟨_, hown, fun j h => by omega⟩, hb1⟩
  case round =>
    clear hown hb1
    obtain ⟨k, hk, rfl, ⟨xs, hown, hp⟩, hb⟩ := hrel
    by_cases hlt : k < n
    · obtain ⟨b, off, rfl, hbs, hc⟩ := HR.out (by omega)
      have hc1 : wr.cell? ⟨b, off + k * 2, none⟩ = some (.int .i64 (L k)) := (hb.cell hbs).trans (hc k hlt).1
      have hc2 : wr.cell? ⟨b, off + k * 2 + 1, none⟩ = some (.int .i64 (H k)) := (hb.cell hbs).trans (hc k hlt).2
      have HP := hide hp
      have HB := hide hb
      have HO := hide hown
      clear hp hb hc hown
      go_wp2_with (go_at_call 35; refine (l_toR _ _ _).mono ?_; rintro e w2 ⟨rfl, hb2⟩; have hown2 := own_after HO.out hb2; have hf0 := hown2.frozenAt (k * 2); have hf1 := hown2.frozenAt (k * 2 + 1); obtain ⟨x0, hx0⟩ := own_some hown2 (k * 2) (by omega); obtain ⟨x1, hx1⟩ := own_some hown2 (k * 2 + 1) (by omega); replace HB := hide (HB.out.trans (hb2.mono HB.out.size)); replace HO := hide hown2; clear hown2 hb2)
      go_roundw
      case rel =>
        refine ⟨k + 1, by omega, by go_num, ⟨_, ((HO.out.stored (k * 2) (.int .i64 (L k))).1.stored (k * 2 + 1) (.int .i64 (H k))).1, pairs_step HP.out hlt HO.out.1⟩, (HB.out.setCell (Nat.le_refl _) _).setCell (Nat.le_refl _) _⟩
      case measure => simp [intOf]; omega
    · have hkn : k = n := by omega
      subst hkn
      go_wp2
      go_ret
      exact ⟨rfl, own_rng hown hp, hb⟩
theorem l_szRsBig (a : Option Addr) (n c : Nat) (left : Int) (w : World) (hn : n ≤ maxLen) (h0 : 0 ≤ left) (h1 : left ≤ 1048576) (h : left < n) : Calls Tryd.prog 18 #[.slice a n c, .int .i64 left] w fun e w' => e = .returned (.int .i64 (-1)) ∧ w' = w := by
  unfold maxLen at hn
  go_enter Tryd.func18, Tryd.ntmps18
  go_wp2
  go_ret
  exact ⟨rfl, rfl⟩
theorem l_szRsOk (a : Option Addr) (n c : Nat) (left : Int) (w : World) (hn : n ≤ maxLen) (h0 : 0 ≤ left) (h1 : left ≤ 1048576) (h : (n : Int) ≤ left) : Calls Tryd.prog 18 #[.slice a n c, .int .i64 left] w fun e w' => e = .returned (.int .i64 (left - n)) ∧ w' = w := by
  unfold maxLen at hn
  go_enter Tryd.func18, Tryd.ntmps18
  go_wp2
  go_ret
  exact ⟨rfl, rfl⟩
/-- A node as a value. -/
def nodeV (kd : Int) (nt : Bool) (a : Option Addr) (n c : Nat) (A B mn mx : Int) : Value := .agg #[.int .i64 kd, .bool nt, .slice a n c, .int .i64 A, .int .i64 B, .int .i64 mn, .int .i64 mx]
theorem l_szNBig (kd : Int) (nt : Bool) (a : Option Addr) (n c : Nat) (A B mn mx : Int) (left : Int) (w : World) (hn : n ≤ maxLen) (h0 : 0 ≤ left) (h1 : left ≤ 1048576) (h : left < n) : Calls Tryd.prog 9 #[.agg #[.int .i64 kd, .bool nt, .slice a n c, .int .i64 A, .int .i64 B, .int .i64 mn, .int .i64 mx], .int .i64 left] w fun e w' => e = .returned (.int .i64 (-1)) ∧ Below w.heap.size w w' := by
  go_enter Tryd.func9, Tryd.ntmps9
  go_wp2_with (go_at_call 18; refine (l_szRsBig _ _ _ _ _ hn h0 h1 h).mono ?_; rintro e w' ⟨rfl, rfl⟩)
  go_ret
  exact ⟨rfl, (Below.refl _ _).alloc (Nat.le_refl _) _⟩
theorem l_szNOk (kd : Int) (nt : Bool) (a : Option Addr) (n c : Nat) (A B mn mx : Int) (left : Int) (w : World) (hn : n ≤ maxLen) (h0 : 0 ≤ left) (h1 : left ≤ 1048576) (h : (n : Int) ≤ left) : Calls Tryd.prog 9 #[.agg #[.int .i64 kd, .bool nt, .slice a n c, .int .i64 A, .int .i64 B, .int .i64 mn, .int .i64 mx], .int .i64 left] w fun e w' => e = .returned (.int .i64 (left - n)) ∧ Below w.heap.size w w' := by
  go_enter Tryd.func9, Tryd.ntmps9
  go_wp2_with (go_at_call 18; refine (l_szRsOk _ _ _ _ _ hn h0 h1 h).mono ?_; rintro e w' ⟨rfl, rfl⟩)
  go_ret
  exact ⟨rfl, (Below.refl _ _).alloc (Nat.le_refl _) _⟩
theorem l_eqR (l h : Int) (w : World) : Calls Tryd.prog 44 #[.agg #[.int .i64 l, .int .i64 h], .agg #[.int .i64 l, .int .i64 h]] w fun e w' => e = .returned (.bool true) ∧ Below w.heap.size w w' := by
  go_enter Tryd.func44, Tryd.ntmps44
  go_wp2
  go_ret
  exact ⟨rfl, ((Below.refl _ _).alloc (Nat.le_refl _) _).alloc (by simp) _⟩
end Go.Proofs.YtbijilnbbbicmaaDoor
