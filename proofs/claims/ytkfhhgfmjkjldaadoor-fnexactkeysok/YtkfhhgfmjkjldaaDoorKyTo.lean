/-
  Contracts of the laws' helpers on rows of keys: the copy of a row.
-/
import Derived.Test.YtkfhhgfmjkjldaaDoorKyEq
namespace Go.Proofs.YtkfhhgfmjkjldaaDoor
open Go.RowKit Go.Joins
set_option linter.unusedVariables false
set_option linter.unusedSimpArgs false
/-- Of a row of cells the first k keys are those of L, each with its texts in a block of its own above g. -/
def SixN (w : World) (g : Nat) (xs : List Value) (k : Nat) (L : List Ky) : Prop := ∀ j, j < k → ∃ G, g < G ∧ (xs[j * 6]? = some (.string (kyA L j).nm) ∧ xs[j * 6 + 1]? = some (.int .i64 (kyA L j).kd) ∧ xs[j * 6 + 2]? = some (.string (kyA L j).on) ∧ xs[j * 6 + 3]? = some (.string (kyA L j).pa) ∧ xs[j * 6 + 4]? = some (.slice (some ⟨G, 0, none⟩) (kyA L j).fl.length (kyA L j).fl.length) ∧ xs[j * 6 + 5]? = some (.string (kyA L j).re)) ∧ TxAt w (some ⟨G, 0, none⟩) (kyA L j).fl w.heap.size
theorem sixN_go {w w' : World} {g k : Nat} {xs : List Value} {L : List Ky} (h : SixN w g xs k L) (hb : Below w.heap.size w w') : SixN w' g xs k L := fun j hj => by
  obtain ⟨G, hG, hc, hr⟩ := h j hj
  exact ⟨G, hG, hc, tx_up (tx_go hr hb) hb.size⟩
theorem sixN_set {w : World} {g k o : Nat} {xs : List Value} {L : List Ky} (h : SixN w g xs k L) (v : Value) : SixN (w.setCell ⟨g, o, none⟩ v) g xs k L := fun j hj => by
  obtain ⟨G, hG, hc, hr⟩ := h j hj
  refine ⟨G, hG, hc, ?_⟩
  rw [heap_setCell_size]
  exact tx_set hr _ _ (by show g ≠ G; omega)
theorem sixN_step {w : World} {g k n G : Nat} {xs : List Value} {L : List Ky} (h : SixN w g xs k L) (hk : k < n) (hl : xs.length = n * 6) (hG : g < G) (hr : TxAt w (some ⟨G, 0, none⟩) (kyA L k).fl w.heap.size) :
    SixN w g ((((((xs.set (k * 6) (.string (kyA L k).nm)).set (k * 6 + 1) (.int .i64 (kyA L k).kd)).set (k * 6 + 2) (.string (kyA L k).on)).set (k * 6 + 3) (.string (kyA L k).pa)).set (k * 6 + 4) (.slice (some ⟨G, 0, none⟩) (kyA L k).fl.length (kyA L k).fl.length)).set (k * 6 + 5) (.string (kyA L k).re)) (k + 1) L := by
  intro j hj
  simp only [List.getElem?_set, List.length_set]
  by_cases e : j = k
  · subst e
    refine ⟨G, hG, ⟨?_, ?_, ?_, ?_, ?_, ?_⟩, hr⟩
    all_goals
      repeat (first | rw [if_pos rfl, if_pos (by omega)] | rw [if_neg (by omega)])
  · obtain ⟨G', hG', ⟨h0, h1, h2, h3, h4, h5⟩, hr'⟩ := h j (by omega)
    refine ⟨G', hG', ⟨?_, ?_, ?_, ?_, ?_, ?_⟩, hr'⟩
    all_goals
      repeat rw [if_neg (by omega)]
      assumption
theorem own_ky {w : World} {B g n t : Nat} {xs : List Value} {L : List Ky} (hn : L.length = n) (h : w.ownsRow B t 6 (.slice (some ⟨g, 0, none⟩) n n) n xs) (hp : SixN w g xs n L) : KyAt w (some ⟨g, 0, none⟩) L w.heap.size := fun h0 => by
  have hg : g < w.heap.size := (h.lt g rfl).2
  refine ⟨g, 0, rfl, hg, fun j hj => ?_⟩
  obtain ⟨G, hG, ⟨h0, h1, h2, h3, h4, h5⟩, hr⟩ := hp j (by omega)
  refine ⟨some ⟨G, 0, none⟩, (kyA L j).fl.length, ⟨?_, ?_, ?_, ?_, ?_, ?_⟩, hr, Nat.le_refl _⟩
  · rw [Nat.zero_add, h.cellAt (j * 6) (by omega)]; exact h0
  · rw [Nat.zero_add, h.cellAt (j * 6 + 1) (by omega)]; exact h1
  · rw [Nat.zero_add, h.cellAt (j * 6 + 2) (by omega)]; exact h2
  · rw [Nat.zero_add, h.cellAt (j * 6 + 3) (by omega)]; exact h3
  · rw [Nat.zero_add, h.cellAt (j * 6 + 4) (by omega)]; exact h4
  · rw [Nat.zero_add, h.cellAt (j * 6 + 5) (by omega)]; exact h5
theorem infoK : (Tryd.prog.info? 33).map (fun i => (i.zero, i.size, i.bytes)) = some (some (.agg #[.string ⟨#[]⟩, .int .i64 0, .string ⟨#[]⟩, .string ⟨#[]⟩, .slice none 0 0, .string ⟨#[]⟩]), 6, 96) := by kernel_rfl
set_option maxRecDepth 100000 in
set_option maxHeartbeats 8000000 in
theorem l_toKs (L : List Ky) (n : Nat) (a : Option Addr) (cap : Nat) (w : World) (hX : L.length = n) (hn : n ≤ 1048576) (hnr : ∀ j, j < n → (kyA L j).fl.length ≤ 1048576) (hr : KyAt w a L w.heap.size) :
    Calls Tryd.prog 6 #[.slice a n cap] w fun e w' => ∃ g, e = .returned (.slice (some ⟨g, 0, none⟩) n n) ∧ w.heap.size ≤ g ∧ KyAt w' (some ⟨g, 0, none⟩) L w'.heap.size ∧ Below w.heap.size w w' := by
  obtain ⟨i0, hi, hz0, hz1, hz2⟩ := info_parts infoK
  have HX := hide hX
  have HNR := hide hnr
  have HR := hide hr
  clear hr hnr hX
  go_enter Tryd.func6, Tryd.ntmps6
  go_wp2_with (at_make; refine wpList_make_full _ rfl _ _ 25 rfl w.heap.size 33 i0 (.agg #[.string ⟨#[]⟩, .int .i64 0, .string ⟨#[]⟩, .string ⟨#[]⟩, .slice none 0 0, .string ⟨#[]⟩]) 6 Tryd.underlying25 hi hz0 hz1 .i64 .i64 _ _ n rfl rfl rfl rfl (by rw [hz2]; omega) (by unfold maxLen; omega) (Nat.le_refl _) ?_; intro w1 hown hgrow)
  have hb1 : Below w.heap.size w w1 := (Below.refl _ _).grown hgrow (Nat.le_refl _) (fun k h => by cases h)
  clear hgrow
  go_loopw [4] (fun i wr => ∃ k : Nat, k ≤ n ∧ i = .int .i64 k ∧ (∃ xs, wr.ownsRow w.heap.size 33 6 (.slice (some ⟨w.heap.size, 0, none⟩) n n) n xs ∧ SixN wr w.heap.size xs k L) ∧ Below w.heap.size w wr) (fun i _ => n - (intOf i).toNat)
  case atStart => exact ⟨0, Nat.zero_le _, rfl, ⟨_, hown, fun j h => by omega⟩, hb1⟩
  case round =>
    clear hown hb1
    obtain ⟨k, hk, rfl, ⟨xs, hown, hp⟩, hb⟩ := hrel
    by_cases hlt : k < n
    · obtain ⟨b, off, rfl, hbs, hrow⟩ := HR.out (fun e => by have := HX.out; rw [e] at this; simp at this; omega)
      obtain ⟨ad, cp, hc, hrg, -⟩ := hrow k (by rw [HX.out]; omega)
      obtain ⟨c0, c1, c2, c3, c4, c5⟩ := kyC_go hc hbs hb
      have hnk := HNR.out k hlt
      have hlt2 : w.heap.size < wr.heap.size := (hown.lt w.heap.size rfl).2
      have HP := hide hp
      have HB := hide hb
      have HO := hide hown
      have HG := hide (tx_up (tx_go hrg hb) hb.size)
      clear hp hb hc hown hrg hrow
      go_wp2_with (go_at_call 14; refine (l_toK _ _ _ _ _ (kyA L k).fl _ _ _ _ rfl hnk HG.out).mono ?_; rintro e w2 ⟨G, rfl, hG, hr2, hb2⟩; have hown2 := own_after HO.out hb2; have hf0 := hown2.frozenAt (k * 6); obtain ⟨x0, hx0⟩ := own_someN hown2 (k * 6) (by omega); have hf1 := hown2.frozenAt (k * 6 + 1); obtain ⟨x1, hx1⟩ := own_someN hown2 (k * 6 + 1) (by omega); have hf2 := hown2.frozenAt (k * 6 + 2); obtain ⟨x2, hx2⟩ := own_someN hown2 (k * 6 + 2) (by omega); have hf3 := hown2.frozenAt (k * 6 + 3); obtain ⟨x3, hx3⟩ := own_someN hown2 (k * 6 + 3) (by omega); have hf4 := hown2.frozenAt (k * 6 + 4); obtain ⟨x4, hx4⟩ := own_someN hown2 (k * 6 + 4) (by omega); have hf5 := hown2.frozenAt (k * 6 + 5); obtain ⟨x5, hx5⟩ := own_someN hown2 (k * 6 + 5) (by omega); replace HB := hide (HB.out.trans (hb2.mono HB.out.size)); replace HO := hide hown2; replace HP := hide (sixN_go HP.out hb2); have HG2 := hide hr2; have HGl := hide hG; clear hown2 hb2 hr2 hG)
      go_roundw
      case rel =>
        refine ⟨k + 1, by omega, by go_num, ⟨_, ((((((HO.out.stored (k * 6) (.string (kyA L k).nm)).1.stored (k * 6 + 1) (.int .i64 (kyA L k).kd)).1.stored (k * 6 + 2) (.string (kyA L k).on)).1.stored (k * 6 + 3) (.string (kyA L k).pa)).1.stored (k * 6 + 4) (.slice (some ⟨G, 0, none⟩) (kyA L k).fl.length (kyA L k).fl.length)).1.stored (k * 6 + 5) (.string (kyA L k).re)).1, ?_⟩, ?_⟩
        · have h := sixN_step HP.out hlt HO.out.1 (Nat.lt_of_lt_of_le hlt2 HGl.out) HG2.out
          replace h := sixN_set (o := k * 6) h (.string (kyA L k).nm)
          replace h := sixN_set (o := k * 6 + 1) h (.int .i64 (kyA L k).kd)
          replace h := sixN_set (o := k * 6 + 2) h (.string (kyA L k).on)
          replace h := sixN_set (o := k * 6 + 3) h (.string (kyA L k).pa)
          replace h := sixN_set (o := k * 6 + 4) h (.slice (some ⟨G, 0, none⟩) (kyA L k).fl.length (kyA L k).fl.length)
          replace h := sixN_set (o := k * 6 + 5) h (.string (kyA L k).re)
          exact h
        · iterate 6 (refine Below.setCell ?_ (Nat.le_refl w.heap.size) _)
          exact HB.out
      case measure => simp [intOf]; omega
    · have hkn : k = n := by omega
      subst hkn
      go_wp2
      go_ret
      exact ⟨_, rfl, Nat.le_refl _, own_ky HX.out hown hp, hb⟩
end Go.Proofs.YtkfhhgfmjkjldaaDoor
