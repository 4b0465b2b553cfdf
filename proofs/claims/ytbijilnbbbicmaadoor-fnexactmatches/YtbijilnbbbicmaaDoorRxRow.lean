/-
  Contracts of the laws' helpers on rows of nodes: how much they hold, a copy in new memory.
-/
import Derived.Test.YtbijilnbbbicmaaDoorRngEq
namespace Go.Proofs.YtbijilnbbbicmaaDoor
open Go.RowKit Go.Joins
set_option linter.unusedVariables false
set_option linter.unusedSimpArgs false
/-- A row of nodes, as numbers. -/
structure Rx where
  len : Nat
  K : Nat → Int
  A : Nat → Int
  B : Nat → Int
  MN : Nat → Int
  MX : Nat → Int
  NT : Nat → Bool
  NR : Nat → Nat
  L : Nat → Nat → Int
  H : Nat → Nat → Int
def RxCells (w : World) (b o : Nat) (X : Rx) (j : Nat) (ad : Option Addr) (cp : Nat) : Prop := w.cell? ⟨b, o, none⟩ = some (.int .i64 (X.K j)) ∧ w.cell? ⟨b, o + 1, none⟩ = some (.bool (X.NT j)) ∧ w.cell? ⟨b, o + 2, none⟩ = some (.slice ad (X.NR j) cp) ∧ w.cell? ⟨b, o + 3, none⟩ = some (.int .i64 (X.A j)) ∧ w.cell? ⟨b, o + 4, none⟩ = some (.int .i64 (X.B j)) ∧ w.cell? ⟨b, o + 5, none⟩ = some (.int .i64 (X.MN j)) ∧ w.cell? ⟨b, o + 6, none⟩ = some (.int .i64 (X.MX j))
def RxRow (w : World) (b off : Nat) (X : Rx) (B : Nat) : Prop := ∀ j, j < X.len → ∃ ad cp, RxCells w b (off + j * 7) X j ad cp ∧ RngAt w ad (X.NR j) (X.L j) (X.H j) B
def RxAt (w : World) (a : Option Addr) (X : Rx) (B : Nat) : Prop := 0 < X.len → ∃ b off, a = some ⟨b, off, none⟩ ∧ b < B ∧ RxRow w b off X B
theorem rxCells_go {w w' : World} {b o : Nat} {X : Rx} {j : Nat} {ad : Option Addr} {cp B : Nat} (h : RxCells w b o X j ad cp) (hb : b < B) (k : Below B w w') : RxCells w' b o X j ad cp := by
  obtain ⟨h0, h1, h2, h3, h4, h5, h6⟩ := h
  exact ⟨(k.cell (p := ⟨b, o, none⟩) hb).trans h0, (k.cell (p := ⟨b, o + 1, none⟩) hb).trans h1, (k.cell (p := ⟨b, o + 2, none⟩) hb).trans h2, (k.cell (p := ⟨b, o + 3, none⟩) hb).trans h3, (k.cell (p := ⟨b, o + 4, none⟩) hb).trans h4, (k.cell (p := ⟨b, o + 5, none⟩) hb).trans h5, (k.cell (p := ⟨b, o + 6, none⟩) hb).trans h6⟩
theorem rxRow_go {w w' : World} {b off : Nat} {X : Rx} {B : Nat} (h : RxRow w b off X B) (hb : b < B) (k : Below B w w') : RxRow w' b off X B := fun j hj => by
  obtain ⟨ad, cp, hc, hr⟩ := h j hj
  exact ⟨ad, cp, rxCells_go hc hb k, rngAt_go hr k⟩
theorem rxRow_up {w : World} {b off : Nat} {X : Rx} {B B' : Nat} (h : RxRow w b off X B) (k : B ≤ B') : RxRow w b off X B' := fun j hj => by
  obtain ⟨ad, cp, hc, hr⟩ := h j hj
  exact ⟨ad, cp, hc, rngAt_up hr k⟩
theorem rxAt_go {w w' : World} {a : Option Addr} {X : Rx} {B : Nat} (h : RxAt w a X B) (k : Below B w w') : RxAt w' a X B := fun h0 => by
  obtain ⟨b, off, e, hb, hr⟩ := h h0
  exact ⟨b, off, e, hb, rxRow_go hr hb k⟩
theorem rxAt_up {w : World} {a : Option Addr} {X : Rx} {B B' : Nat} (h : RxAt w a X B) (k : B ≤ B') : RxAt w a X B' := fun h0 => by
  obtain ⟨b, off, e, hb, hr⟩ := h h0
  exact ⟨b, off, e, Nat.lt_of_lt_of_le hb k, rxRow_up hr k⟩
theorem ret_iI {a b : Int} (h : a = b) : Ending.returned (.int .i64 a) = .returned (.int .i64 b) := by rw [h]
def sumN (f : Nat → Nat) : Nat → Nat
  | 0 => 0
  | k + 1 => sumN f k + f k
theorem sumN_le (f : Nat → Nat) {a b : Nat} (h : a ≤ b) : sumN f a ≤ sumN f b := by
  induction b with
  | zero => have : a = 0 := by omega
            subst this; exact Nat.le_refl _
  | succ b ih =>
    by_cases e : a = b + 1
    · subst e; exact Nat.le_refl _
    · have := ih (by omega)
      show sumN f a ≤ sumN f b + f b
      omega
theorem sumN_at (f : Nat → Nat) {a b : Nat} (h : a < b) : sumN f a + f a ≤ sumN f b := sumN_le f (a := a + 1) h
def rxTot (X : Rx) : Nat := X.len + sumN X.NR X.len
def rxLeft (X : Rx) : Int := if rxTot X ≤ 1048576 then 1048576 - (rxTot X : Int) else -1
theorem rxLeft_no {X : Rx} (h : ¬ rxTot X ≤ 1048576) : rxLeft X = -1 := by unfold rxLeft; rw [if_neg h]
theorem rxLeft_yes {X : Rx} (h : rxTot X ≤ 1048576) : rxLeft X = 1048576 - (rxTot X : Int) := by unfold rxLeft; rw [if_pos h]
set_option maxHeartbeats 1000000 in
theorem l_szNs (X : Rx) (a : Option Addr) (c : Nat) (w : World) (hlen : X.len ≤ maxLen) (hnr : ∀ j, j < X.len → X.NR j ≤ maxLen) (hr : RxAt w a X w.heap.size) :
    Calls Tryd.prog 4 #[.slice a X.len c, .int .i64 1048576] w fun e w' => e = .returned (.int .i64 (rxLeft X)) ∧ Below w.heap.size w w' := by
  have HL := hide hlen
  have HNR := hide hnr
  have HR := hide hr
  unfold maxLen at hlen
  clear hr hnr
  obtain ⟨len, hX⟩ : ∃ len, X.len = len := ⟨_, rfl⟩
  have HX := hide hX
  rw [hX] at hlen ⊢
  clear hX
  by_cases h0 : 1048576 < len
  · have e : ¬ rxTot X ≤ 1048576 := by unfold rxTot; rw [HX.out]; omega
    go_enter Tryd.func4, Tryd.ntmps4
    go_wp2
    go_ret
    exact ⟨ret_iI (rxLeft_no e).symm, Below.refl _ _⟩
  · go_enter Tryd.func4, Tryd.ntmps4
    go_wp2
    go_loopw [1, 5] (fun l i wr => ∃ k : Nat, k ≤ len ∧ i = .int .i64 k ∧ l = .int .i64 (1048576 - (len : Int) - (sumN X.NR k : Int)) ∧ len + sumN X.NR k ≤ 1048576 ∧ Below w.heap.size w wr) (fun _ i _ => len - (intOf i).toNat)
    case atStart => exact ⟨0, Nat.zero_le _, rfl, by simp [sumN], by show len + 0 ≤ _; omega, Below.refl _ _⟩
    case round =>
      obtain ⟨k, hk, rfl, rfl, hs, hb⟩ := hrel
      by_cases hlt : k < len
      · obtain ⟨b, off, rfl, hbs, hrow⟩ := HR.out (by rw [HX.out]; omega)
        obtain ⟨ad, cp, hc, -⟩ := hrow k (by rw [HX.out]; omega)
        obtain ⟨c0, c1, c2, c3, c4, c5, c6⟩ := rxCells_go hc hbs hb
        have hnk := HNR.out k (by rw [HX.out]; omega)
        have HB := hide hb
        obtain ⟨q, hq⟩ : ∃ q, sumN X.NR k = q := ⟨_, rfl⟩
        have hq1 : sumN X.NR (k + 1) = q + X.NR k := by rw [← hq]; rfl
        have HQ1 := hide hq1
        rw [hq] at hs ⊢
        have HLE := hide (sumN_at X.NR hlt)
        clear hq hq1 hb hc hrow
        by_cases hbig : 1048576 - (len : Int) - (q : Int) < (X.NR k : Int)
        · go_wp2_with (go_at_call 9; refine (l_szNBig _ _ _ _ _ _ _ _ _ _ _ hnk (by omega) (by omega) (by omega)).mono ?_; rintro e w2 ⟨rfl, hb2⟩; have HB2 := hide (HB.out.trans (hb2.mono HB.out.size)); clear hb2)
          go_ret
          refine ⟨?_, HB2.out⟩
          have e : ¬ rxTot X ≤ 1048576 := by
            have h1 := sumN_le X.NR (a := k + 1) (b := len) (by omega)
            rw [HQ1.out] at h1
            unfold rxTot; rw [HX.out]; omega
          exact ret_iI (rxLeft_no e).symm
        · have hg : (0 : Int) ≤ 1048576 - (len : Int) - (q : Int) - (X.NR k : Int) := by omega
          go_wp2_with (go_at_call 9; refine (l_szNOk _ _ _ _ _ _ _ _ _ _ _ hnk (by omega) (by omega) (by omega)).mono ?_; rintro e w2 ⟨rfl, hb2⟩; have HB2 := hide (HB.out.trans (hb2.mono HB.out.size)); clear hb2)
          go_roundw
          case rel => exact ⟨k + 1, by omega, by go_num, by rw [HQ1.out]; go_num, by rw [HQ1.out]; omega, HB2.out⟩
          case measure => simp [intOf]; omega
      · have hkn : k = len := by omega
        subst hkn
        go_wp2
        go_ret
        refine ⟨?_, hb⟩
        have e : rxTot X = k + sumN X.NR k := by unfold rxTot; rw [HX.out]
        have h1 := rxLeft_yes (X := X) (by omega)
        exact ret_iI (by rw [h1, e]; omega)
/-- Of a row of cells the first k nodes are those of X, each with its ranges in a block of its own above g. -/
def Sept (w : World) (g : Nat) (xs : List Value) (k : Nat) (X : Rx) : Prop := ∀ j, j < k → ∃ G, g < G ∧ (xs[j * 7]? = some (.int .i64 (X.K j)) ∧ xs[j * 7 + 1]? = some (.bool (X.NT j)) ∧ xs[j * 7 + 2]? = some (.slice (some ⟨G, 0, none⟩) (X.NR j) (X.NR j)) ∧ xs[j * 7 + 3]? = some (.int .i64 (X.A j)) ∧ xs[j * 7 + 4]? = some (.int .i64 (X.B j)) ∧ xs[j * 7 + 5]? = some (.int .i64 (X.MN j)) ∧ xs[j * 7 + 6]? = some (.int .i64 (X.MX j))) ∧ RngAt w (some ⟨G, 0, none⟩) (X.NR j) (X.L j) (X.H j) w.heap.size
theorem sept_go {w w' : World} {g k : Nat} {xs : List Value} {X : Rx} (h : Sept w g xs k X) (hb : Below w.heap.size w w') : Sept w' g xs k X := fun j hj => by
  obtain ⟨G, hG, hc, hr⟩ := h j hj
  exact ⟨G, hG, hc, rngAt_up (rngAt_go hr hb) hb.size⟩
theorem sept_set {w : World} {g k o : Nat} {xs : List Value} {X : Rx} (h : Sept w g xs k X) (v : Value) : Sept (w.setCell ⟨g, o, none⟩ v) g xs k X := fun j hj => by
  obtain ⟨G, hG, hc, hr⟩ := h j hj
  refine ⟨G, hG, hc, ?_⟩
  rw [heap_setCell_size]
  exact rngAt_set hr _ _ (by show g ≠ G; omega)
theorem sept_step {w : World} {g k n G : Nat} {xs : List Value} {X : Rx} (h : Sept w g xs k X) (hk : k < n) (hl : xs.length = n * 7) (hG : g < G) (hr : RngAt w (some ⟨G, 0, none⟩) (X.NR k) (X.L k) (X.H k) w.heap.size) :
    Sept w g (((((((xs.set (k * 7) (.int .i64 (X.K k))).set (k * 7 + 1) (.bool (X.NT k))).set (k * 7 + 2) (.slice (some ⟨G, 0, none⟩) (X.NR k) (X.NR k))).set (k * 7 + 3) (.int .i64 (X.A k))).set (k * 7 + 4) (.int .i64 (X.B k))).set (k * 7 + 5) (.int .i64 (X.MN k))).set (k * 7 + 6) (.int .i64 (X.MX k))) (k + 1) X := by
  intro j hj
  simp only [List.getElem?_set, List.length_set]
  by_cases e : j = k
  · subst e
    refine ⟨G, hG, ⟨?_, ?_, ?_, ?_, ?_, ?_, ?_⟩, hr⟩
    all_goals
      repeat (first | rw [if_pos rfl, if_pos (by omega)] | rw [if_neg (by omega)])
  · obtain ⟨G', hG', ⟨h0, h1, h2, h3, h4, h5, h6⟩, hr'⟩ := h j (by omega)
    refine ⟨G', hG', ⟨?_, ?_, ?_, ?_, ?_, ?_, ?_⟩, hr'⟩
    all_goals
      repeat rw [if_neg (by omega)]
      assumption
theorem own_rx {w : World} {B g n t : Nat} {xs : List Value} {X : Rx} (hn : X.len = n) (h : w.ownsRow B t 7 (.slice (some ⟨g, 0, none⟩) n n) n xs) (hp : Sept w g xs n X) : RxAt w (some ⟨g, 0, none⟩) X w.heap.size := fun h0 => by
  have hg : g < w.heap.size := (h.lt g rfl).2
  refine ⟨g, 0, rfl, hg, fun j hj => ?_⟩
  obtain ⟨G, hG, ⟨h0, h1, h2, h3, h4, h5, h6⟩, hr⟩ := hp j (by omega)
  refine ⟨some ⟨G, 0, none⟩, X.NR j, ⟨?_, ?_, ?_, ?_, ?_, ?_, ?_⟩, hr⟩
  · rw [Nat.zero_add, h.cellAt (j * 7) (by omega)]; exact h0
  · rw [Nat.zero_add, h.cellAt (j * 7 + 1) (by omega)]; exact h1
  · rw [Nat.zero_add, h.cellAt (j * 7 + 2) (by omega)]; exact h2
  · rw [Nat.zero_add, h.cellAt (j * 7 + 3) (by omega)]; exact h3
  · rw [Nat.zero_add, h.cellAt (j * 7 + 4) (by omega)]; exact h4
  · rw [Nat.zero_add, h.cellAt (j * 7 + 5) (by omega)]; exact h5
  · rw [Nat.zero_add, h.cellAt (j * 7 + 6) (by omega)]; exact h6
theorem own_some7 {w : World} {B g n t : Nat} {xs : List Value} (h : w.ownsRow B t 7 (.slice (some ⟨g, 0, none⟩) n n) n xs) (j : Nat) (hj : j < n * 7) : ∃ v, w.cell? ⟨g, j, none⟩ = some v := by
  rw [h.cellAt j hj]
  exact ⟨_, List.getElem?_eq_getElem (by rw [h.1]; exact hj)⟩
set_option maxHeartbeats 2000000 in
theorem l_toN2 (kd : Int) (nt : Bool) (a : Option Addr) (n c : Nat) (A B mn mx : Int) (L H : Nat → Int) (w : World) (hn : n ≤ 1048576) (hr : RngAt w a n L H w.heap.size) :
    Calls Tryd.prog 13 #[.agg #[.int .i64 kd, .bool nt, .slice a n c, .int .i64 A, .int .i64 B, .int .i64 mn, .int .i64 mx]] w fun e w' => ∃ G, e = .returned (.agg #[.int .i64 kd, .bool nt, .slice (some ⟨G, 0, none⟩) n n, .int .i64 A, .int .i64 B, .int .i64 mn, .int .i64 mx]) ∧ w.heap.size ≤ G ∧
      RngAt w' (some ⟨G, 0, none⟩) n L H w'.heap.size ∧ Below w.heap.size w w' := by
  have HR := hide hr
  clear hr
  go_enter Tryd.func13, Tryd.ntmps13
  go_wp2_with (go_at_call 24; refine (l_toRs _ _ _ L H _ hn (rngAt_up (rngAt_go HR.out ((((Below.refl _ _).alloc (Nat.le_refl _) _).alloc (by simp) _).alloc (by simp; omega) _)) (by simp; omega))).mono ?_; rintro e w2 ⟨rfl, hr2, hb2⟩; obtain ⟨hN1, hN2, hN3, hB⟩ := three_nodes hb2; have HN2 := hide hN2; have HR2 := hide hr2; have HB := hide hB; obtain ⟨a0, a1, a2, a3, a4, a5, a6⟩ := nodeAt_cells hN1; obtain ⟨b0, b1, b2, b3, b4, b5, b6⟩ := nodeAt_cells hN2; obtain ⟨c0, c1, c2, c3, c4, c5, c6⟩ := nodeAt_cells hN3; have f0 := nodeAt_frozen hN2; have g0 := nodeAt_frozen hN3; clear hb2 hr2 hN1 hN2 hN3 hB)
  refine bodyPost_ret (v := .agg #[.int .i64 kd, .bool nt, .slice (some ⟨w.heap.size + 1 + 1 + 1, 0, none⟩) n n, .int .i64 A, .int .i64 B, .int .i64 mn, .int .i64 mx]) ?_ rfl ⟨_, rfl, by omega, ?_, ?_⟩
  · obtain ⟨T, hT⟩ := nodeAt_sets (kd' := kd) (nt' := nt) (a' := some ⟨w.heap.size + 1 + 1 + 1, 0, none⟩) (n' := n) (c' := n) (A' := A) (B' := B) (mn' := mn) (mx' := mx) (nodeAt_far (nodeAt_far (nodeAt_far (nodeAt_far (nodeAt_far HN2.out ⟨w.heap.size + 1 + 1, 2, none⟩ (.slice (some ⟨w.heap.size + 1 + 1 + 1, 0, none⟩) n n) (by simp)) ⟨w.heap.size + 1 + 1, 3, none⟩ (.int .i64 A) (by simp)) ⟨w.heap.size + 1 + 1, 4, none⟩ (.int .i64 B) (by simp)) ⟨w.heap.size + 1 + 1, 5, none⟩ (.int .i64 mn) (by simp)) ⟨w.heap.size + 1 + 1, 6, none⟩ (.int .i64 mx) (by simp))
    exact results_cell_row Tryd.results13 _ _ (w.heap.size + 1) T _ _ _ rfl hT Tryd.underlying41 rfl (by kernel_rfl)
  · have h := HR2.out
    simp only [heap_setCell_size]
    iterate 12 (refine rngAt_set ?_ _ _ (by simp))
    simpa using h
  · iterate 12 (refine Below.setCell ?_ (by simp; try omega) _)
    exact HB.out
theorem infoN : (Tryd.prog.info? 41).map (fun i => (i.zero, i.size, i.bytes)) = some (some (.agg #[.int .i64 0, .bool false, .slice none 0 0, .int .i64 0, .int .i64 0, .int .i64 0, .int .i64 0]), 7, 72) := by kernel_rfl
set_option maxRecDepth 100000 in
set_option maxHeartbeats 4000000 in
theorem l_toNs (X : Rx) (n : Nat) (a : Option Addr) (cap : Nat) (w : World) (hX : X.len = n) (hn : n ≤ 1048576) (hnr : ∀ j, j < n → X.NR j ≤ 1048576) (hr : RxAt w a X w.heap.size) :
    Calls Tryd.prog 6 #[.slice a n cap] w fun e w' => ∃ g, e = .returned (.slice (some ⟨g, 0, none⟩) n n) ∧ g < w'.heap.size ∧ RxAt w' (some ⟨g, 0, none⟩) X w'.heap.size ∧ Below w.heap.size w w' := by
  obtain ⟨i0, hi, hz0, hz1, hz2⟩ := info_parts infoN
  have HX := hide hX
  have HNR := hide hnr
  have HR := hide hr
  clear hr hnr hX
  go_enter Tryd.func6, Tryd.ntmps6
  go_wp2_with (at_make; refine wpList_make_full _ rfl _ _ 25 rfl w.heap.size 41 i0 (.agg #[.int .i64 0, .bool false, .slice none 0 0, .int .i64 0, .int .i64 0, .int .i64 0, .int .i64 0]) 7 Tryd.underlying25 hi hz0 hz1 .i64 .i64 _ _ n rfl rfl rfl rfl (by rw [hz2]; omega) (by unfold maxLen; omega) (Nat.le_refl _) ?_; intro w1 hown hgrow)
  have hb1 : Below w.heap.size w w1 := (Below.refl _ _).grown hgrow (Nat.le_refl _) (fun k h => by cases h)
  clear hgrow
  go_loopw [4] (fun i wr => ∃ k : Nat, k ≤ n ∧ i = .int .i64 k ∧ (∃ xs, wr.ownsRow w.heap.size 41 7 (.slice (some ⟨w.heap.size, 0, none⟩) n n) n xs ∧ Sept wr w.heap.size xs k X) ∧ Below w.heap.size w wr) (fun i _ => n - (intOf i).toNat)
  case atStart => exact ⟨0, Nat.zero_le _, rfl, ⟨_, hown, fun j h => by omega⟩, hb1⟩
  case round =>
    clear hown hb1
    obtain ⟨k, hk, rfl, ⟨xs, hown, hp⟩, hb⟩ := hrel
    by_cases hlt : k < n
    · obtain ⟨b, off, rfl, hbs, hrow⟩ := HR.out (by rw [HX.out]; omega)
      obtain ⟨ad, cp, hc, hrg⟩ := hrow k (by rw [HX.out]; omega)
      obtain ⟨c0, c1, c2, c3, c4, c5, c6⟩ := rxCells_go hc hbs hb
      have hnk := HNR.out k hlt
      have hlt2 : w.heap.size < wr.heap.size := (hown.lt w.heap.size rfl).2
      have HP := hide hp
      have HB := hide hb
      have HO := hide hown
      have HG := hide (rngAt_up (rngAt_go hrg hb) hb.size)
      clear hp hb hc hown hrg hrow
      go_wp2_with (go_at_call 13; refine (l_toN2 _ _ _ _ _ _ _ _ _ (X.L k) (X.H k) _ hnk HG.out).mono ?_; rintro e w2 ⟨G, rfl, hG, hr2, hb2⟩; have hown2 := own_after HO.out hb2; have hf0 := hown2.frozenAt (k * 7); obtain ⟨x0, hx0⟩ := own_some7 hown2 (k * 7) (by omega); have hf1 := hown2.frozenAt (k * 7 + 1); obtain ⟨x1, hx1⟩ := own_some7 hown2 (k * 7 + 1) (by omega); have hf2 := hown2.frozenAt (k * 7 + 2); obtain ⟨x2, hx2⟩ := own_some7 hown2 (k * 7 + 2) (by omega); have hf3 := hown2.frozenAt (k * 7 + 3); obtain ⟨x3, hx3⟩ := own_some7 hown2 (k * 7 + 3) (by omega); have hf4 := hown2.frozenAt (k * 7 + 4); obtain ⟨x4, hx4⟩ := own_some7 hown2 (k * 7 + 4) (by omega); have hf5 := hown2.frozenAt (k * 7 + 5); obtain ⟨x5, hx5⟩ := own_some7 hown2 (k * 7 + 5) (by omega); have hf6 := hown2.frozenAt (k * 7 + 6); obtain ⟨x6, hx6⟩ := own_some7 hown2 (k * 7 + 6) (by omega); replace HB := hide (HB.out.trans (hb2.mono HB.out.size)); replace HO := hide hown2; replace HP := hide (sept_go HP.out hb2); have HG2 := hide hr2; have HGl := hide hG; clear hown2 hb2 hr2 hG)
      go_roundw
      case rel =>
        refine ⟨k + 1, by omega, by go_num, ⟨_, (((((((HO.out.stored (k * 7) (.int .i64 (X.K k))).1.stored (k * 7 + 1) (.bool (X.NT k))).1.stored (k * 7 + 2) (.slice (some ⟨G, 0, none⟩) (X.NR k) (X.NR k))).1.stored (k * 7 + 3) (.int .i64 (X.A k))).1.stored (k * 7 + 4) (.int .i64 (X.B k))).1.stored (k * 7 + 5) (.int .i64 (X.MN k))).1.stored (k * 7 + 6) (.int .i64 (X.MX k))).1, ?_⟩, ?_⟩
        · have h := sept_step HP.out hlt HO.out.1 (Nat.lt_of_lt_of_le hlt2 HGl.out) HG2.out
          replace h := sept_set (o := k * 7) h (.int .i64 (X.K k))
          replace h := sept_set (o := k * 7 + 1) h (.bool (X.NT k))
          replace h := sept_set (o := k * 7 + 2) h (.slice (some ⟨G, 0, none⟩) (X.NR k) (X.NR k))
          replace h := sept_set (o := k * 7 + 3) h (.int .i64 (X.A k))
          replace h := sept_set (o := k * 7 + 4) h (.int .i64 (X.B k))
          replace h := sept_set (o := k * 7 + 5) h (.int .i64 (X.MN k))
          replace h := sept_set (o := k * 7 + 6) h (.int .i64 (X.MX k))
          exact h
        · iterate 7 (refine Below.setCell ?_ (Nat.le_refl w.heap.size) _)
          exact HB.out
      case measure => simp [intOf]; omega
    · have hkn : k = n := by omega
      subst hkn
      go_wp2
      go_ret
      exact ⟨_, rfl, (hown.lt w.heap.size rfl).2, own_rx HX.out hown hp, hb⟩
end Go.Proofs.YtbijilnbbbicmaaDoor
