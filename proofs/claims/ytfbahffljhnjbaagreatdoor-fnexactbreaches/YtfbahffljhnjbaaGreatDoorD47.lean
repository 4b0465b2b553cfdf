/-
  Texts put together: BrK, KdLaw0.
-/
import Derived.Test.YtfbahffljhnjbaaGreatDoorD43
import Derived.Test.YtfbahffljhnjbaaGreatDoorD44
import Derived.Test.YtfbahffljhnjbaaGreatDoorD46
import Derived.Test.YtfbahffljhnjbaaGreatDoorD16
/-
  Contracts of the laws' helpers on rows of keys: the size from any count on, a copy with its shape, marks on all of its places.
-/
namespace Go.Proofs.YtfbahffljhnjbaaGreatDoor
open Go.RowKit Go.Joins
set_option linter.unusedVariables false
set_option linter.unusedSimpArgs false
/-- Block G has m cells. -/
def ShT (w : World) (G m : Nat) : Prop := ∃ cs T, w.heap[G]? = some (.cells cs T (0, 0)) ∧ cs.size = m
theorem shT_chg {lo hi : Nat} {w w' : World} {G m : Nat} (h : ShT w G m) (k : Chg lo hi w w') : ShT w' G m := by
  obtain ⟨cs, T, h1, h2⟩ := h
  obtain ⟨cs', h3, h4⟩ := k.shape G cs T h1
  exact ⟨cs', T, h3, by omega⟩
theorem shT_cell {w : World} {G m : Nat} (h : ShT w G m) (i : Nat) (hi : i < m) : (∃ v, w.cell? ⟨G, i, none⟩ = some v) ∧ w.frozen? ⟨G, i, none⟩ = false := by
  obtain ⟨cs, T, h1, h2⟩ := h
  refine ⟨⟨cs[i]'(by omega), ?_⟩, by simp [World.frozen?, h1]⟩
  rw [cell_of_row w G i _ T (0, 0) h1, Array.getElem?_eq_getElem (by omega)]
theorem own_shT {w : World} {B g n t : Nat} {xs : List Value} (h : w.ownsRow B t 1 (.slice (some ⟨g, 0, none⟩) n n) n xs) : ShT w g n := by
  rcases h.2 with ⟨hv, -⟩ | ⟨g', cap, cur, hv, -, hg, -, -, hs, -⟩
  · cases hv
  · simp only [Value.slice.injEq, Option.some.injEq, Addr.mk.injEq] at hv
    obtain ⟨⟨rfl, -⟩, -, rfl⟩ := hv
    exact ⟨cur, t, hg, by omega⟩
/-- Block g has n keys, each with its texts in a block of its own. -/
def ShK (w : World) (g n : Nat) (FC : Nat → Nat) (lo hi : Nat) : Prop := ∃ cs T, w.heap[g]? = some (.cells cs T (0, 0)) ∧ cs.size = n * 6 ∧ (lo ≤ g ∧ g < hi) ∧ ∀ j, j < n → ∃ G, (lo ≤ G ∧ G < hi ∧ G ≠ g) ∧ cs[j * 6 + 4]? = some (.slice (some ⟨G, 0, none⟩) (FC j) (FC j)) ∧ ShT w G (FC j)
theorem shK_go {w w' : World} {g n lo hi lo' hi' : Nat} {FC : Nat → Nat} (h : ShK w g n FC lo hi) (k : Chg lo' hi' w w') (hg : g < lo' ∨ hi' ≤ g) : ShK w' g n FC lo hi := by
  obtain ⟨cs, T, h1, h2, h3, h4⟩ := h
  refine ⟨cs, T, (k.block g (Array.getElem?_eq_some_iff.1 h1).1 hg).trans h1, h2, h3, fun j hj => ?_⟩
  obtain ⟨G, q1, q2, q3⟩ := h4 j hj
  exact ⟨G, q1, q2, shT_chg q3 k⟩
theorem shK_set {w : World} {g n lo hi i : Nat} {FC : Nat → Nat} (h : ShK w g n FC lo hi) (v : Value) (hi' : ∀ j, j * 6 + 4 ≠ i) : ShK (w.setCell ⟨g, i, none⟩ v) g n FC lo hi := by
  obtain ⟨cs, T, h1, h2, h3, h4⟩ := h
  refine ⟨_, T, block_setCell h1 v, by simpa using h2, h3, fun j hj => ?_⟩
  obtain ⟨G, q1, q2, q3⟩ := h4 j hj
  refine ⟨G, q1, ?_, shT_chg q3 (chg_set (lo := g) (hi := g + 1) g i v (Nat.le_refl _) (by omega))⟩
  rw [Array.getElem?_setIfInBounds_ne (by have := hi' j; omega)]
  exact q2
theorem shK_cell {w : World} {g n lo hi : Nat} {FC : Nat → Nat} (h : ShK w g n FC lo hi) (i : Nat) (hi' : i < n * 6) : (∃ v, w.cell? ⟨g, i, none⟩ = some v) ∧ w.frozen? ⟨g, i, none⟩ = false := by
  obtain ⟨cs, T, h1, h2, -⟩ := h
  refine ⟨⟨cs[i]'(by omega), ?_⟩, by simp [World.frozen?, h1]⟩
  rw [cell_of_row w g i _ T (0, 0) h1, Array.getElem?_eq_getElem (by omega)]
theorem shK_at {w : World} {g n lo hi : Nat} {FC : Nat → Nat} (h : ShK w g n FC lo hi) (j : Nat) (hj : j < n) : ∃ G, (lo ≤ G ∧ G < hi ∧ G ≠ g) ∧ w.cell? ⟨g, j * 6 + 4, none⟩ = some (.slice (some ⟨G, 0, none⟩) (FC j) (FC j)) ∧ ShT w G (FC j) := by
  obtain ⟨cs, T, h1, h2, -, h4⟩ := h
  obtain ⟨G, q1, q2, q3⟩ := h4 j hj
  exact ⟨G, q1, by rw [cell_of_row w g _ _ T (0, 0) h1]; exact q2, q3⟩
theorem shK_in {w : World} {g n lo hi : Nat} {FC : Nat → Nat} (h : ShK w g n FC lo hi) : lo ≤ g ∧ g < hi := by
  obtain ⟨cs, T, -, -, h3, -⟩ := h
  exact h3
/-- Of a row of cells the first k keys have their texts in a block of its own above g. -/
def QShK (w : World) (g : Nat) (xs : List Value) (k : Nat) (L : List Ky) : Prop := ∀ j, j < k → ∃ G, g < G ∧ G < w.heap.size ∧ xs[j * 6 + 4]? = some (.slice (some ⟨G, 0, none⟩) (kyA L j).fl.length (kyA L j).fl.length) ∧ ShT w G (kyA L j).fl.length
theorem qshK_go {w w' : World} {g k : Nat} {xs : List Value} {L : List Ky} (h : QShK w g xs k L) (hb : Below w.heap.size w w') : QShK w' g xs k L := fun j hj => by
  obtain ⟨G, h1, h2, h3, h4⟩ := h j hj
  exact ⟨G, h1, Nat.lt_of_lt_of_le h2 hb.size, h3, shT_chg h4 (chg_below (lo := 0) (hi := 0) hb)⟩
theorem qshK_set {w : World} {g k o : Nat} {xs : List Value} {L : List Ky} (h : QShK w g xs k L) (v : Value) : QShK (w.setCell ⟨g, o, none⟩ v) g xs k L := fun j hj => by
  obtain ⟨G, h1, h2, h3, h4⟩ := h j hj
  exact ⟨G, h1, by rw [heap_setCell_size]; exact h2, h3, shT_chg h4 (chg_set (lo := 0) (hi := g + 1) g o v (Nat.zero_le _) (by omega))⟩
theorem qshK_step {w : World} {g k n G : Nat} {xs : List Value} {L : List Ky} (h : QShK w g xs k L) (hk : k < n) (hl : xs.length = n * 6) (hG : g < G) (hG2 : G < w.heap.size) (hs : ShT w G (kyA L k).fl.length) :
    QShK w g ((((((xs.set (k * 6) (.string (kyA L k).nm)).set (k * 6 + 1) (.int .i64 (kyA L k).kd)).set (k * 6 + 2) (.string (kyA L k).on)).set (k * 6 + 3) (.string (kyA L k).pa)).set (k * 6 + 4) (.slice (some ⟨G, 0, none⟩) (kyA L k).fl.length (kyA L k).fl.length)).set (k * 6 + 5) (.string (kyA L k).re)) (k + 1) L := by
  intro j hj
  simp only [List.getElem?_set, List.length_set]
  by_cases e : j = k
  · subst e
    refine ⟨G, hG, hG2, ?_, hs⟩
    repeat (first | rw [if_pos rfl, if_pos (by omega)] | rw [if_neg (by omega)])
  · obtain ⟨G', h1, h2, h3, h4⟩ := h j (by omega)
    refine ⟨G', h1, h2, ?_, h4⟩
    repeat rw [if_neg (by omega)]
    exact h3
theorem own_shK {w : World} {B g n t : Nat} {xs : List Value} {L : List Ky} (h : w.ownsRow B t 6 (.slice (some ⟨g, 0, none⟩) n n) n xs) (hq : QShK w g xs n L) : ShK w g n (fun j => (kyA L j).fl.length) g w.heap.size := by
  have hgl := (h.lt g rfl).2
  have hlen := h.1
  rcases h.2 with ⟨hv, -⟩ | ⟨g', cap, cur, hv, -, hg, -, -, hs, ht⟩
  · cases hv
  · simp only [Value.slice.injEq, Option.some.injEq, Addr.mk.injEq] at hv
    obtain ⟨⟨rfl, -⟩, -, rfl⟩ := hv
    refine ⟨cur, t, hg, hs, ⟨Nat.le_refl _, hgl⟩, fun j hj => ?_⟩
    obtain ⟨G, h1, h2, h3, h4⟩ := hq j hj
    refine ⟨G, ⟨by omega, h2, by omega⟩, ?_, h4⟩
    have e : cur.toList = xs := by rw [← ht, List.take_of_length_le (by simp; omega)]
    rw [← Array.getElem?_toList, e]
    exact h3
set_option maxHeartbeats 4000000 in
theorem l_szKsL (lf : Int) (L : List Ky) (n : Nat) (a : Option Addr) (c : Nat) (w : World) (h0 : 0 ≤ lf) (h1 : lf ≤ 1048576) (hD : L.length = n) (hz : KySz L) (hr : KyAt w a L w.heap.size) :
    Calls Tryz.prog 21 #[.slice a n c, .int .i64 lf] w fun e w' => e = .returned (.int .i64 (dn lf (kyTot L))) ∧ Below w.heap.size w w' := by
  have HD := hide hD
  have HZ := hide hz
  have HR := hide hr
  have hn : n ≤ maxLen := by rw [← hD]; exact hz.1
  unfold maxLen at hn
  clear hr hz hD
  by_cases hb0 : lf < (n : Int)
  · have hd := hide (dn_no (left := lf) (x := kyTot L) (by unfold kyTot; rw [HD.out]; omega))
    go_enter Tryz.func21, Tryz.ntmps21
    go_wp2
    go_ret
    exact ⟨ret_iI (by rw [hd.out]), Below.refl _ _⟩
  · obtain ⟨f, hf⟩ : ∃ f, (fun j => kyS (kyA L j)) = f := ⟨_, rfl⟩
    have HF : Hid (kyTot L = n + sumN f n) := hide (by unfold kyTot; rw [HD.out, hf])
    have HFA : Hid (∀ k, kyS (kyA L k) = f k) := hide (fun k => by rw [← hf])
    clear hf
    go_enter Tryz.func21, Tryz.ntmps21
    go_wp2
    go_loopw [1, 5] (fun l i wr => ∃ k : Nat, k ≤ n ∧ i = .int .i64 k ∧ l = .int .i64 (lf - (n : Int) - (sumN f k : Int)) ∧ (n : Int) + (sumN f k : Int) ≤ lf ∧ Below w.heap.size w wr) (fun _ i _ => n - (intOf i).toNat)
    case atStart => exact ⟨0, Nat.zero_le _, rfl, by simp [sumN], by show (n : Int) + ((0 : Nat) : Int) ≤ _; omega, Below.refl _ _⟩
    case round =>
      obtain ⟨k, hk, rfl, rfl, hle, hb⟩ := hrel
      by_cases hlt : k < n
      · obtain ⟨b, off, rfl, hbs, hrow⟩ := HR.out (fun e => by have := HD.out; rw [e] at this; simp at this; omega)
        obtain ⟨ad, cp, hc, hat, -⟩ := hrow k (by rw [HD.out]; omega)
        have hzk := HZ.out.2 k (by rw [HD.out]; omega)
        have hfk := HFA.out k
        obtain ⟨x, hx⟩ : ∃ x, kyA L k = x := ⟨_, rfl⟩
        rw [hx] at hc hat hzk hfk
        obtain ⟨c0, c1, c2, c3, c4, c5⟩ := kyC_go hc hbs hb
        have HB := hide hb
        have CK := hide (fun l h0 h1 => l_szK x ad cp l wr hzk (tx_up (tx_go hat hb) hb.size) h0 h1)
        rw [hfk] at CK
        obtain ⟨q, hq⟩ : ∃ q, sumN f k = q := ⟨_, rfl⟩
        obtain ⟨T, hT⟩ : ∃ T, f k = T := ⟨_, rfl⟩
        have hq1 : sumN f (k + 1) = q + T := by rw [← hq, ← hT]; rfl
        have HQ1 := hide hq1
        rw [hT] at CK
        rw [hq] at hle ⊢
        have HLE := hide (sumN_le f (a := k + 1) (b := n) (by omega))
        clear hq hq1 hb hc hrow hat hzk hfk hT hx
        by_cases hbig : (T : Int) ≤ lf - (n : Int) - (q : Int)
        · have hbig2 : (0 : Int) ≤ lf - (n : Int) - (q : Int) - (T : Int) := by omega
          go_wp2_with (go_at_call 11; refine (CK.out _ (by omega) (by omega)).mono ?_; rintro e w2 ⟨rfl, hb2⟩; rw [dn_yes hbig]; have HB2 := hide (HB.out.trans (hb2.mono HB.out.size)); clear hb2)
          go_roundw
          case rel => exact ⟨k + 1, by omega, by go_num, by rw [HQ1.out]; go_num, by rw [HQ1.out]; omega, HB2.out⟩
          case measure => simp [intOf]; omega
        · have hd := hide (dn_no (left := lf) (x := kyTot L) (by have := HLE.out; rw [HQ1.out] at this; rw [HF.out]; omega))
          go_wp2_with (go_at_call 11; refine (CK.out _ (by omega) (by omega)).mono ?_; rintro e w2 ⟨rfl, hb2⟩; rw [dn_no hbig]; have HB2 := hide (HB.out.trans (hb2.mono HB.out.size)); clear hb2)
          go_ret
          exact ⟨ret_iI (by rw [hd.out]), HB2.out⟩
      · have hkn : k = n := by omega
        subst hkn
        have hd := hide (dn_yes (left := lf) (x := kyTot L) (by rw [HF.out]; omega))
        go_wp2
        go_ret
        exact ⟨ret_iI (by rw [hd.out, HF.out]; omega), hb⟩
set_option maxRecDepth 100000 in
set_option maxHeartbeats 8000000 in
theorem l_toKs2 (L : List Ky) (n : Nat) (a : Option Addr) (cap : Nat) (w : World) (hX : L.length = n) (hn : n ≤ 1048576) (hnr : ∀ j, j < n → (kyA L j).fl.length ≤ 1048576) (hr : KyAt w a L w.heap.size) :
    Calls Tryz.prog 23 #[.slice a n cap] w fun e w' => ∃ g, e = .returned (.slice (some ⟨g, 0, none⟩) n n) ∧ w.heap.size ≤ g ∧ KyAt w' (some ⟨g, 0, none⟩) L w'.heap.size ∧ ShK w' g n (fun j => (kyA L j).fl.length) w.heap.size w'.heap.size ∧ Below w.heap.size w w' := by
  obtain ⟨i0, hi, hz0, hz1, hz2⟩ := info_parts infoK
  have HX := hide hX
  have HNR := hide hnr
  have HR := hide hr
  clear hr hnr hX
  go_enter Tryz.func23, Tryz.ntmps23
  go_wp2_with (at_make; refine wpList_make_full _ rfl _ _ 49 rfl w.heap.size 37 i0 (.agg #[.string ⟨#[]⟩, .int .i64 0, .string ⟨#[]⟩, .string ⟨#[]⟩, .slice none 0 0, .string ⟨#[]⟩]) 6 Tryz.underlying49 hi hz0 hz1 .i64 .i64 _ _ n rfl rfl rfl rfl (by rw [hz2]; omega) (by unfold maxLen; omega) (Nat.le_refl _) ?_; intro w1 hown hgrow)
  have hb1 : Below w.heap.size w w1 := (Below.refl _ _).grown hgrow (Nat.le_refl _) (fun k h => by cases h)
  clear hgrow
  go_loopw [4] (fun i wr => ∃ k : Nat, k ≤ n ∧ i = .int .i64 k ∧ (∃ xs, wr.ownsRow w.heap.size 37 6 (.slice (some ⟨w.heap.size, 0, none⟩) n n) n xs ∧ SixN wr w.heap.size xs k L ∧ QShK wr w.heap.size xs k L) ∧ Below w.heap.size w wr) (fun i _ => n - (intOf i).toNat)
  case atStart => exact ⟨0, Nat.zero_le _, rfl, ⟨_, hown, fun j h => by omega, fun j h => by omega⟩, hb1⟩
  case round =>
    clear hown hb1
    obtain ⟨k, hk, rfl, ⟨xs, hown, hp, hqs⟩, hb⟩ := hrel
    by_cases hlt : k < n
    · obtain ⟨b, off, rfl, hbs, hrow⟩ := HR.out (fun e => by have := HX.out; rw [e] at this; simp at this; omega)
      obtain ⟨ad, cp, hc, hrg, -⟩ := hrow k (by rw [HX.out]; omega)
      obtain ⟨c0, c1, c2, c3, c4, c5⟩ := kyC_go hc hbs hb
      have hnk := HNR.out k hlt
      have hlt2 : w.heap.size < wr.heap.size := (hown.lt w.heap.size rfl).2
      have HP := hide hp
      have HQ := hide hqs
      have HB := hide hb
      have HO := hide hown
      have HG := hide (tx_up (tx_go hrg hb) hb.size)
      clear hp hb hc hown hrg hrow hqs
      go_wp2_with (go_at_call 13; refine (l_toKO _ _ _ _ _ (kyA L k).fl _ _ _ _ rfl hnk HG.out).mono ?_; rintro e w2 ⟨G, rfl, hG, hoq, hb2⟩; have hr2 := tx_own hoq; have HSA := hide (own_shT hoq); have HG9 := hide (hoq.lt G rfl).2; replace HQ := hide (qshK_go HQ.out hb2); clear hoq; have hown2 := own_after HO.out hb2; have hf0 := hown2.frozenAt (k * 6); obtain ⟨x0, hx0⟩ := own_someN hown2 (k * 6) (by omega); have hf1 := hown2.frozenAt (k * 6 + 1); obtain ⟨x1, hx1⟩ := own_someN hown2 (k * 6 + 1) (by omega); have hf2 := hown2.frozenAt (k * 6 + 2); obtain ⟨x2, hx2⟩ := own_someN hown2 (k * 6 + 2) (by omega); have hf3 := hown2.frozenAt (k * 6 + 3); obtain ⟨x3, hx3⟩ := own_someN hown2 (k * 6 + 3) (by omega); have hf4 := hown2.frozenAt (k * 6 + 4); obtain ⟨x4, hx4⟩ := own_someN hown2 (k * 6 + 4) (by omega); have hf5 := hown2.frozenAt (k * 6 + 5); obtain ⟨x5, hx5⟩ := own_someN hown2 (k * 6 + 5) (by omega); replace HB := hide (HB.out.trans (hb2.mono HB.out.size)); replace HO := hide hown2; replace HP := hide (sixN_go HP.out hb2); have HG2 := hide hr2; have HGl := hide hG; clear hown2 hb2 hr2 hG)
      go_roundw
      case rel =>
        refine ⟨k + 1, by omega, by go_num, ⟨_, ((((((HO.out.stored (k * 6) (.string (kyA L k).nm)).1.stored (k * 6 + 1) (.int .i64 (kyA L k).kd)).1.stored (k * 6 + 2) (.string (kyA L k).on)).1.stored (k * 6 + 3) (.string (kyA L k).pa)).1.stored (k * 6 + 4) (.slice (some ⟨G, 0, none⟩) (kyA L k).fl.length (kyA L k).fl.length)).1.stored (k * 6 + 5) (.string (kyA L k).re)).1, ?_, ?_⟩, ?_⟩
        · have h := sixN_step HP.out hlt HO.out.1 (Nat.lt_of_lt_of_le hlt2 HGl.out) HG2.out
          replace h := sixN_set (o := k * 6) h (.string (kyA L k).nm)
          replace h := sixN_set (o := k * 6 + 1) h (.int .i64 (kyA L k).kd)
          replace h := sixN_set (o := k * 6 + 2) h (.string (kyA L k).on)
          replace h := sixN_set (o := k * 6 + 3) h (.string (kyA L k).pa)
          replace h := sixN_set (o := k * 6 + 4) h (.slice (some ⟨G, 0, none⟩) (kyA L k).fl.length (kyA L k).fl.length)
          replace h := sixN_set (o := k * 6 + 5) h (.string (kyA L k).re)
          exact h
        · have h := qshK_step HQ.out hlt HO.out.1 (Nat.lt_of_lt_of_le hlt2 HGl.out) HG9.out HSA.out
          replace h := qshK_set (o := k * 6) h (.string (kyA L k).nm)
          replace h := qshK_set (o := k * 6 + 1) h (.int .i64 (kyA L k).kd)
          replace h := qshK_set (o := k * 6 + 2) h (.string (kyA L k).on)
          replace h := qshK_set (o := k * 6 + 3) h (.string (kyA L k).pa)
          replace h := qshK_set (o := k * 6 + 4) h (.slice (some ⟨G, 0, none⟩) (kyA L k).fl.length (kyA L k).fl.length)
          replace h := qshK_set (o := k * 6 + 5) h (.string (kyA L k).re)
          exact h
        · iterate 6 (refine Below.setCell ?_ (Nat.le_refl w.heap.size) _)
          exact HB.out
      case measure => simp [intOf]; omega
    · have hkn : k = n := by omega
      subst hkn
      go_wp2
      go_ret
      exact ⟨_, rfl, Nat.le_refl _, own_ky HX.out hown hp, own_shK hown hqs, hb⟩
set_option maxRecDepth 100000 in
set_option maxHeartbeats 4000000 in
theorem l_markTs (G m : Nat) (k : Int) (w : World) (hm : m ≤ 1048576) (h0 : 1 ≤ k) (h1 : k ≤ 1073741824) (hs : ShT w G m) :
    Calls Tryz.prog 49 #[.slice (some ⟨G, 0, none⟩) m m, .int .i64 k] w fun e w' => e = .returned (.int .i64 (k + m)) ∧ Chg G (G + 1) w w' := by
  have HS := hide hs
  clear hs
  go_enter Tryz.func49, Tryz.ntmps49
  go_wp2
  go_loopw [1, 5] (fun kv iv wr => ∃ i : Nat, i ≤ m ∧ iv = .int .i64 i ∧ kv = .int .i64 (k + i) ∧ Chg G (G + 1) w wr) (fun _ iv _ => m - (intOf iv).toNat)
  case atStart => exact ⟨0, Nat.zero_le _, rfl, by simp, Chg.refl _ _ _⟩
  case round =>
    obtain ⟨i, hi, rfl, rfl, hc⟩ := hrel
    have HC := hide hc
    clear hc
    by_cases hlt : i < m
    · have hmi : (i : Int) < (m : Int) := by omega
      go_wp2_with fail
      refine (l_mt _ _ (by omega) (by omega)).mono ?_
      rintro e w2 ⟨s2, rfl, hb2⟩
      have HC2 := hide (HC.out.trans (chg_below hb2))
      obtain ⟨⟨v0, hv0⟩, hf0⟩ := shT_cell (shT_chg HS.out HC2.out) i (by omega)
      clear hb2
      go_wp2
      go_roundw
      case rel => exact ⟨i + 1, by omega, by go_num, by go_num, HC2.out.trans (chg_set G i (.string s2) (Nat.le_refl _) (by omega))⟩
      case measure => simp [intOf]; omega
    · have him : i = m := by omega
      subst him
      go_wp2
      go_ret
      exact ⟨rfl, HC.out⟩
set_option maxRecDepth 100000 in
set_option maxHeartbeats 8000000 in
theorem l_markKs (g n cap : Nat) (FC : Nat → Nat) (lo hi : Nat) (s : Int) (w : World) (hn : n ≤ 1048576) (hfc : sumN FC n ≤ 1048576) (h0 : 1 ≤ s) (h1 : s ≤ 6000000) (hs : ShK w g n FC lo hi) :
    Calls Tryz.prog 27 #[.slice (some ⟨g, 0, none⟩) n cap, .int .i64 s] w fun e w' => ∃ k : Int, e = .returned (.int .i64 k) ∧ 1 ≤ k ∧ Chg lo hi w w' := by
  have HS := hide hs
  have hin := shK_in hs
  clear hs
  go_enter Tryz.func27, Tryz.ntmps27
  go_wp2
  go_loopw [1, 5] (fun kv iv wr => ∃ (i : Nat) (x : Int), i ≤ n ∧ iv = .int .i64 i ∧ kv = .int .i64 x ∧ 1 ≤ x ∧ x ≤ s + 5 * i + (sumN FC i : Int) ∧ ShK wr g n FC lo hi ∧ Chg lo hi w wr) (fun _ iv _ => n - (intOf iv).toNat)
  case atStart => exact ⟨0, s, Nat.zero_le _, rfl, rfl, by omega, by simp [sumN], HS.out, Chg.refl _ _ _⟩
  case round =>
    obtain ⟨i, x, hi', rfl, rfl, hx0, hx1, hI, hc⟩ := hrel
    by_cases hlt : i < n
    · have hsum := sumN_at FC hlt
      have hmi : (i : Int) < (n : Int) := by omega
      have HI := hide hI
      have HC := hide hc
      have hsx : sumN FC (i + 1) = sumN FC i + FC i := rfl
      have HSX := hide hsx
      obtain ⟨y, hy⟩ : ∃ y, sumN FC i = y := ⟨_, rfl⟩
      rw [hy] at hx1 hsum
      have HY := hide hy
      clear hI hc hsx hy
      go_wp2_with fail
      refine (l_mt _ _ (by omega) (by omega)).mono ?_
      rintro e w2 ⟨s2, rfl, hb2⟩
      have HI2 := hide (shK_go HI.out (chg_below (lo := 0) (hi := 0) hb2) (.inr (Nat.zero_le _)))
      have HC2 := hide (HC.out.trans (chg_below hb2))
      obtain ⟨⟨v0, hv0⟩, hf0⟩ := shK_cell HI2.out (i * 6) (by omega)
      have HI3 := hide (shK_set (i := i * 6) HI2.out (.string s2) (fun j => by omega))
      have HC3 := hide (HC2.out.trans (chg_set g (i * 6) (.string s2) hin.1 hin.2))
      obtain ⟨⟨v1, hv1⟩, hf1⟩ := shK_cell HI2.out (i * 6 + 1) (by omega)
      have HI4 := hide (shK_set (i := i * 6 + 1) HI3.out (.int .i64 (x + 1)) (fun j => by omega))
      have HC4 := hide (HC3.out.trans (chg_set g (i * 6 + 1) (.int .i64 (x + 1)) hin.1 hin.2))
      clear hb2
      go_wp2_with fail
      refine (l_mt _ _ (by omega) (by omega)).mono ?_
      rintro e w3 ⟨s3, rfl, hb3⟩
      have HI5 := hide (shK_go HI4.out (chg_below (lo := 0) (hi := 0) hb3) (.inr (Nat.zero_le _)))
      have HC5 := hide (HC4.out.trans (chg_below hb3))
      obtain ⟨⟨v2, hv2⟩, hf2⟩ := shK_cell HI5.out (i * 6 + 2) (by omega)
      clear hb3 hv0 hf0 hv1 hf1
      go_wp2_with fail
      have HI6 := hide (shK_set (i := i * 6 + 2) HI5.out (.string s3) (fun j => by omega))
      have HC6 := hide (HC5.out.trans (chg_set g (i * 6 + 2) (.string s3) hin.1 hin.2))
      refine (l_mt _ _ (by omega) (by omega)).mono ?_
      rintro e w4 ⟨s4, rfl, hb4⟩
      have HI7 := hide (shK_go HI6.out (chg_below (lo := 0) (hi := 0) hb4) (.inr (Nat.zero_le _)))
      have HC7 := hide (HC6.out.trans (chg_below hb4))
      obtain ⟨⟨v3, hv3⟩, hf3⟩ := shK_cell HI7.out (i * 6 + 3) (by omega)
      obtain ⟨G, hG, hcell, hsa⟩ := shK_at HI7.out i hlt
      have HSA := hide hsa
      clear hb4 hv2 hf2 hsa
      go_wp2_with fail
      have HI8 := hide (shK_set (i := i * 6 + 3) HI7.out (.string s4) (fun j => by omega))
      have HC8 := hide (HC7.out.trans (chg_set g (i * 6 + 3) (.string s4) hin.1 hin.2))
      refine (l_markTs G (FC i) _ _ (by omega) (by omega) (by omega) (shT_chg HSA.out (chg_set (lo := g) (hi := g + 1) g (i * 6 + 3) (.string s4) (Nat.le_refl _) (by omega)))).mono ?_
      rintro e w5 ⟨rfl, hc5⟩
      have HI9 := hide (shK_go HI8.out hc5 (by omega))
      have HC9 := hide (HC8.out.trans (hc5.wide hG.1 (by omega)))
      clear hc5 hv3 hf3 hcell
      go_wp2_with fail
      refine (l_mt _ _ (by omega) (by omega)).mono ?_
      rintro e w6 ⟨s6, rfl, hb6⟩
      have HI10 := hide (shK_go HI9.out (chg_below (lo := 0) (hi := 0) hb6) (.inr (Nat.zero_le _)))
      have HC10 := hide (HC9.out.trans (chg_below hb6))
      obtain ⟨⟨v5, hv5⟩, hf5⟩ := shK_cell HI10.out (i * 6 + 5) (by omega)
      clear hb6
      go_wp2
      go_roundw
      case rel => exact ⟨i + 1, _, by omega, by go_num, rfl, by omega, by rw [HSX.out, HY.out]; omega, shK_set (i := i * 6 + 5) HI10.out _ (fun j => by omega), HC10.out.trans (chg_set g (i * 6 + 5) _ hin.1 hin.2)⟩
      case measure => simp [intOf]; omega
    · have him : i = n := by omega
      subst him
      go_wp2
      go_ret
      exact ⟨x, rfl, by omega, hc⟩
end Go.Proofs.YtfbahffljhnjbaaGreatDoor

/-
  What a law over rows of numbers wants besides: rows that stay, a mark on a row.
-/
namespace Go.Proofs.YtfbahffljhnjbaaGreatDoor
open Go.RowKit
set_option linter.unusedVariables false
set_option linter.unusedSimpArgs false
theorem own_stays {w w' : World} {B X : Nat} {e : TypeId} {v : Value} {n : Nat} {xs : List Value} (h : w.ownsRow B e 1 v n xs) (hb : Below X w w') (hX : ∀ k, v.ownBlock = some k → k < X) : w'.ownsRow B e 1 v n xs := by
  refine ⟨h.1, ?_⟩
  rcases h.2 with hn | ⟨g, cap, cur, hv, hB, hg, rest⟩
  · exact .inl hn
  · refine .inr ⟨g, cap, cur, hv, hB, ?_, rest⟩
    rw [hb.block g (hX g (by rw [hv]; rfl))]; exact hg
theorem own_below' {w w' : World} {B : Nat} {e : TypeId} {v : Value} {n : Nat} {xs : List Value} (h : w.ownsRow B e 1 v n xs) (hb : Below w.heap.size w w') : w'.ownsRow B e 1 v n xs :=
  own_stays h hb (fun k hk => (h.lt k hk).2)
theorem eq_same (a1 a2 : Option Addr) (n c1 c2 : Nat) (xs : List Int) (w : World) (hx : xs.length = n) (hn : n ≤ 1048576) (h1 : RowAt .i64 w a1 xs w.heap.size) (h2 : RowAt .i64 w a2 xs w.heap.size) :
    Calls Tryz.prog 25 #[.slice a1 n c1, .slice a2 n c2] w fun e w' => e = .returned (.bool true) ∧ ∃ q, w' = w.drewN q := by
  refine (eq_ints a1 a2 n n c1 c2 xs xs w hx hx hn hn h1 h2).mono ?_
  rintro e w' ⟨rfl, h⟩
  exact ⟨by simp, h⟩
set_option maxHeartbeats 400000 in
theorem mark_none (a : Option Addr) (c : Nat) (w : World) :
    Calls Tryz.prog 28 #[.slice a 0 c, .int .i64 1] w fun e w' => e = .returned (.int .i64 1) ∧ w' = w := by
  go_enter Tryz.func28, Tryz.ntmps28
  go_wp2
  go_loop [1, 5] (fun k i => k = .int .i64 1 ∧ i = .int .i64 0) (fun _ _ => 0)
  case atStart => exact ⟨rfl, rfl⟩
  case round =>
    obtain ⟨rfl, rfl⟩ := hrel
    go_wp2
    go_ret
    exact ⟨rfl, rfl⟩
/-- A mark on every place of a row that the call owns, be it empty or not. -/
theorem mark_any (B : Nat) (ad : Option Addr) (n c : Nat) (xs : List Int) (w : World) (hx : xs.length = n) (hn : n ≤ 1048576) (hown : w.ownsRow B 2 1 (.slice ad n c) n (xs.map (Value.int .i64))) :
    Calls Tryz.prog 28 #[.slice ad n c, .int .i64 1] w fun e w' => e = .returned (.int .i64 (1 + n)) ∧
      w'.ownsRow B 2 1 (.slice ad n c) n ((upFrom 1 n).map (Value.int .i64)) ∧ Below B w w' := by
  by_cases h0 : n = 0
  · subst h0
    refine (mark_none ad c w).mono ?_
    rintro e w' ⟨rfl, rfl⟩
    have : xs = [] := List.length_eq_zero_iff.1 hx
    subst this
    exact ⟨rfl, hown, Below.refl _ _⟩
  · rcases hown.2 with ⟨hv, h0'⟩ | ⟨g, cap, cur, hv, hB, hg, rest⟩
    · exact absurd h0' h0
    · simp only [Value.slice.injEq] at hv
      obtain ⟨rfl, _, rfl⟩ := hv
      refine (mark_ints B g n c xs w hx hn hB hown).mono ?_
      rintro e w' ⟨rfl, h1, h2, _⟩
      exact ⟨rfl, h1, h2⟩
end Go.Proofs.YtfbahffljhnjbaaGreatDoor
