/-
  Contract: where a node's piece begins and how much it weighs, by the program, at every node whose fields are right.
-/
import Derived.Test.YtbijilnbbbicmaaDoorRxSp2
namespace Go.Proofs.YtbijilnbbbicmaaDoor
open Go.RowKit Go.Joins
set_option linter.unusedVariables false
set_option linter.unusedSimpArgs false
section
variable (X : Rx) (k : Nat) (a : Option Addr) (c : Nat) (ad : Option Addr) (cp : Nat) (w : World)
theorem i_spanSome (hk : k ≤ 120) (hr : RngAt w a k (tI X) (wtX X) w.heap.size) (hn : nodeX X k = true) (f : Nat) (h : trX X k = some f) :
    Calls Tryd.prog 26 #[.slice a k c, .agg #[.int .i64 (X.K k), .bool (X.NT k), .slice ad (X.NR k) cp, .int .i64 (X.A k), .int .i64 (X.B k), .int .i64 (X.MN k), .int .i64 (X.MX k)]] w fun e w' => e = .returned (.tuple #[.agg #[.int .i64 f, .int .i64 (wtX X k)], .bool true]) ∧ Below w.heap.size w w' := by
  by_cases h2 : X.K k = 3 ∨ X.K k = 4
  · have h2b : twoK X.K k = true := decide_eq_true h2
    have ht := h
    unfold trX at ht
    rw [tr_two _ _ _ _ h2b] at ht
    split at ht
    · cases ht
    · rename_i hnB
      cases hr1 : tr (twoK X.K) (cntK X.K) X.A X.B (k - 1) with
      | none => rw [hr1] at ht; cases ht
      | some q =>
        rw [hr1] at ht
        dsimp only at ht
        split at ht
        · cases ht
        · rename_i hcA
          have hq := tr_le _ _ _ _ hr1
          have hw := wt_two _ _ _ _ (muX X) h2b hnB hr1 hcA ht
          exact i_spanYes2 X k a c ad cp w hk hr h2 (q - 1) (by omega) (by omega) (by rw [tI_some (f := q) hr1]; omega) (by omega) f (wtX X k) (tI_some ht) hw.symm
  · by_cases h5 : X.K k = 5
    · have h2b : ¬ twoK X.K k = true := by unfold twoK; simpa using h2
      have h5b : cntK X.K k = true := decide_eq_true h5
      have ht := h
      unfold trX at ht
      rw [tr_cnt _ _ _ _ h2b h5b] at ht
      split at ht
      · cases ht
      · rename_i hnA
        have hw := wt_cnt _ _ _ _ (muX X) h2b h5b hnA ht
        exact i_spanYes5 X k a c ad cp w hk hr h5 (by omega) (by omega) (node_cnt hn h5) f (wtX X k) (tI_some ht) hw.symm
    · have h2b : ¬ twoK X.K k = true := by unfold twoK; simpa using h2
      have h5b : ¬ cntK X.K k = true := by unfold cntK; simpa using h5
      have hw : wtX X k = 1 := wt_leaf _ _ _ _ (muX X) h2b h5b
      have ht := h
      unfold trX at ht
      rw [tr_leaf _ _ _ _ h2b h5b] at ht
      obtain rfl := Option.some.inj ht
      rw [hw]
      exact i_spanLeaf X k a c ad cp w hk h2 h5
theorem i_spanNone (hk : k ≤ 120) (hr : RngAt w a k (tI X) (wtX X) w.heap.size) (hs : ∀ j, j < k → (trX X j).isSome = true) (h : trX X k = none) :
    Calls Tryd.prog 26 #[.slice a k c, .agg #[.int .i64 (X.K k), .bool (X.NT k), .slice ad (X.NR k) cp, .int .i64 (X.A k), .int .i64 (X.B k), .int .i64 (X.MN k), .int .i64 (X.MX k)]] w fun e w' => e = .returned (.tuple #[.agg #[.int .i64 0, .int .i64 0], .bool false]) ∧ Below w.heap.size w w' := by
  by_cases h2 : X.K k = 3 ∨ X.K k = 4
  · have h2b : twoK X.K k = true := decide_eq_true h2
    refine i_spanNo2 X k a c ad cp w hk hr h2 ?_ ?_
    · have ht := h
      unfold trX at ht
      rw [tr_two _ _ _ _ h2b] at ht
      split at ht
      · rename_i hnB
        rcases hnB with e | e
        · exact .inl (by omega)
        · exact .inr (.inl e)
      · rename_i hnB
        cases hr1 : tr (twoK X.K) (cntK X.K) X.A X.B (k - 1) with
        | none =>
          have := hs (k - 1) (by omega)
          unfold trX at this
          rw [hr1] at this; cases this
        | some q =>
          rw [hr1] at ht
          dsimp only at ht
          have hq := tr_le _ _ _ _ hr1
          have hT : tI X (k - 1) = q := tI_some hr1
          split at ht
          · rename_i hcA
            rcases hcA with e | e
            · exact .inr (.inr (.inl (by rw [hT]; omega)))
            · exact .inr (.inr (.inr (by rw [hT]; exact e)))
          · have := hs (q - 1) (by omega)
            unfold trX at this
            rw [ht] at this; cases this
    · intro h1
      have hs1 := hs (k - 1) (by omega)
      cases hr1 : trX X (k - 1) with
      | none => rw [hr1] at hs1; cases hs1
      | some q =>
        have hq := tr_le _ _ _ _ (show tr (twoK X.K) (cntK X.K) X.A X.B (k - 1) = some q from hr1)
        rw [tI_some hr1]
        omega
  · have h2b : ¬ twoK X.K k = true := by unfold twoK; simpa using h2
    by_cases h5 : X.K k = 5
    · have h5b : cntK X.K k = true := decide_eq_true h5
      have ht := h
      unfold trX at ht
      rw [tr_cnt _ _ _ _ h2b h5b] at ht
      split at ht
      · rename_i hnA
        exact i_spanNo5 X k a c ad cp w hk h5 hnA
      · have := hs (k - 1) (by omega)
        unfold trX at this
        rw [ht] at this; cases this
    · have h5b : ¬ cntK X.K k = true := by unfold cntK; simpa using h5
      have ht := h
      unfold trX at ht
      rw [tr_leaf _ _ _ _ h2b h5b] at ht
      cases ht
end
theorem own_shape2 {w : World} {B : Nat} {e : TypeId} {v : Value} {n : Nat} {xs : List Value} (h : w.ownsRow B e 2 v n xs) : ∃ ad cap, v = .slice ad n cap := by
  rcases h.2 with ⟨hv, h0⟩ | ⟨g, cap, cur, hv, rest⟩
  · exact ⟨none, 0, by rw [hv, h0]⟩
  · exact ⟨_, _, hv⟩
theorem own_rng2 {w : World} {B n c t : Nat} {ad : Option Addr} {xs : List Value} {L H : Nat → Int} (h : w.ownsRow B t 2 (.slice ad n c) n xs) (hp : Pairs xs n L H) : RngAt w ad n L H w.heap.size := fun h0 => by
  rcases h.2 with ⟨hv, h0'⟩ | ⟨g, cap, cur, hv, hB, hg, rest⟩
  · omega
  · simp only [Value.slice.injEq] at hv
    obtain ⟨rfl, _, rfl⟩ := hv
    refine ⟨g, 0, rfl, (h.lt g rfl).2, fun j hj => ?_⟩
    refine ⟨?_, ?_⟩
    · rw [Nat.zero_add, h.cellAt (j * 2) (by omega)]; exact (hp j hj).1
    · rw [Nat.zero_add, h.cellAt (j * 2 + 1) (by omega)]; exact (hp j hj).2
theorem pairs_snoc {xs : List Value} {k : Nat} {L H : Nat → Int} {x y : Int} (h : Pairs xs k L H) (hl : xs.length = k * 2) (hx : L k = x) (hy : H k = y) : Pairs (xs ++ [.int .i64 x, .int .i64 y]) (k + 1) L H := by
  intro j hj
  by_cases e : j = k
  · subst e
    refine ⟨?_, ?_⟩
    · rw [List.getElem?_append_right (by omega), show j * 2 - xs.length = 0 by omega, hx]; rfl
    · rw [List.getElem?_append_right (by omega), show j * 2 + 1 - xs.length = 1 by omega, hy]; rfl
  · have hj' := h j (by omega)
    refine ⟨?_, ?_⟩
    · rw [List.getElem?_append_left (by omega)]; exact hj'.1
    · rw [List.getElem?_append_left (by omega)]; exact hj'.2
theorem two_new (w : World) (x y : Int) (T : TypeId) (j : Nat) (u : Value) (hj : [Value.int .i64 x, Value.int .i64 y][j]? = some u) : (w.alloc (.cells #[.int .i64 x, .int .i64 y] T)).cell? ((⟨w.heap.size, 0, none⟩ : Addr).add j) = some u := by
  match j, hj with
  | 0, hj => simp at hj; subst hj; simp [Addr.add]
  | 1, hj => simp at hj; subst hj; simp [Addr.add]
theorem two_list (x y : Int) : ∀ u ∈ [Value.int .i64 x, Value.int .i64 y], u.oneCell' = true := by
  intro u hu
  simp at hu
  rcases hu with rfl | rfl <;> rfl
end Go.Proofs.YtbijilnbbbicmaaDoor
