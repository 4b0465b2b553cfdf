/-
  Texts put together: MkRow, StV.
-/
import Derived.Test.YtfbahffljhnjbaaGreatDoorD43
import Derived.Laws.BytesArg
/-
  Contracts of the laws' helpers: a copy of a row of items, with its shape; marks on all of its places.
-/
namespace Go.Proofs.YtfbahffljhnjbaaGreatDoor
open Go.RowKit Go.Joins
set_option linter.unusedVariables false
set_option linter.unusedSimpArgs false
set_option maxHeartbeats 1000000 in
theorem l_toAs2 (a : Option Addr) (n cap : Nat) (N V : Nat → ByteArray) (w : World) (hn : n ≤ 1048576) (hr : AtAt w a n N V w.heap.size) :
    Calls Tryz.prog 65 #[.slice a n cap] w fun e w' => e = .returned (.slice (some ⟨w.heap.size, 0, none⟩) n n) ∧
      AtAt w' (some ⟨w.heap.size, 0, none⟩) n N V w'.heap.size ∧ ShA w' w.heap.size n ∧ w.heap.size < w'.heap.size ∧ Below w.heap.size w w' := by
  obtain ⟨i0, hi, hz0, hz1, hz2⟩ := info_parts infoA
  have HR := hide hr
  clear hr
  go_enter Tryz.func65, Tryz.ntmps65
  go_wp2_with (at_make; refine wpList_make_full _ rfl _ _ 64 rfl w.heap.size 99 i0 (.agg #[.string ⟨#[]⟩, .string ⟨#[]⟩]) 2 Tryz.underlying64 hi hz0 hz1 .i64 .i64 _ _ n rfl rfl rfl rfl (by rw [hz2]; omega) (by unfold maxLen; omega) (Nat.le_refl _) ?_; intro w1 hown hgrow)
  have hb1 : Below w.heap.size w w1 := (Below.refl _ _).grown hgrow (Nat.le_refl _) (fun k h => by cases h)
  clear hgrow
  go_loopw [4] (fun i wr => ∃ k : Nat, k ≤ n ∧ i = .int .i64 k ∧ (∃ xs, wr.ownsRow w.heap.size 99 2 (.slice (some ⟨w.heap.size, 0, none⟩) n n) n xs ∧ PairsS xs k N V) ∧ Below w.heap.size w wr) (fun i _ => n - (intOf i).toNat)
  case atStart => exact ⟨0, Nat.zero_le _, rfl, ⟨_, hown, fun j h => by omega⟩, hb1⟩
  case round =>
    clear hown hb1
    obtain ⟨k, hk, rfl, ⟨xs, hown, hp⟩, hb⟩ := hrel
    by_cases hlt : k < n
    · obtain ⟨b, off, rfl, hbs, hc⟩ := HR.out (by omega)
      have hc1 : wr.cell? ⟨b, off + k * 2, none⟩ = some (.string (N k)) := (hb.cell hbs).trans (hc k hlt).1
      have hc2 : wr.cell? ⟨b, off + k * 2 + 1, none⟩ = some (.string (V k)) := (hb.cell hbs).trans (hc k hlt).2
      have HP := hide hp
      have HB := hide hb
      have HO := hide hown
      clear hp hb hc hown
      go_wp2_with (go_at_call 97; refine (l_toA _ _ _).mono ?_; rintro e w2 ⟨rfl, hb2⟩; have hown2 := own_after HO.out hb2; have hf0 := hown2.frozenAt (k * 2); have hf1 := hown2.frozenAt (k * 2 + 1); obtain ⟨x0, hx0⟩ := own_someN hown2 (k * 2) (by omega); obtain ⟨x1, hx1⟩ := own_someN hown2 (k * 2 + 1) (by omega); replace HB := hide (HB.out.trans (hb2.mono HB.out.size)); replace HO := hide hown2; clear hown2 hb2)
      go_roundw
      case rel =>
        refine ⟨k + 1, by omega, by go_num, ⟨_, ((HO.out.stored (k * 2) (.string (N k))).1.stored (k * 2 + 1) (.string (V k))).1, pairsS_step HP.out hlt HO.out.1⟩, (HB.out.setCell (Nat.le_refl _) _).setCell (Nat.le_refl _) _⟩
      case measure => simp [intOf]; omega
    · have hkn : k = n := by omega
      subst hkn
      go_wp2
      go_ret
      exact ⟨rfl, own_at hown hp, own_shA hown, (hown.lt _ rfl).2, hb⟩
set_option maxHeartbeats 2000000 in
theorem l_toI2 (up : Int) (nm tx : ByteArray) (a : Option Addr) (n c : Nat) (N V : Nat → ByteArray) (w : World) (hn : n ≤ 1048576) (hr : AtAt w a n N V w.heap.size) :
    Calls Tryz.prog 35 #[.agg #[.int .i64 up, .string nm, .string tx, .slice a n c]] w fun e w' => ∃ G, e = .returned (.agg #[.int .i64 up, .string nm, .string tx, .slice (some ⟨G, 0, none⟩) n n]) ∧ w.heap.size ≤ G ∧ G < w'.heap.size ∧ ShA w' G n ∧
      AtAt w' (some ⟨G, 0, none⟩) n N V w'.heap.size ∧ Below w.heap.size w w' := by
  have HR := hide hr
  clear hr
  go_enter Tryz.func35, Tryz.ntmps35
  go_wp2_with (go_at_call 65; refine (l_toAs2 _ _ _ N V _ hn (atAt_up (atAt_go HR.out ((((Below.refl _ _).alloc (Nat.le_refl _) _).alloc (by simp) _).alloc (by simp; omega) _)) (by simp; omega))).mono ?_; rintro e w2 ⟨rfl, hr2, hsh2, hlt2, hb2⟩; have HSH := hide hsh2; have HLT := hide hlt2; clear hsh2 hlt2; obtain ⟨hN1, hN2, hN3, hB⟩ := three_items hb2; have HN2 := hide hN2; have HR2 := hide hr2; have HB := hide hB; obtain ⟨a0, a1, a2, a3⟩ := itAt_cells hN1; obtain ⟨b0, b1, b2, b3⟩ := itAt_cells hN2; obtain ⟨c0, c1, c2, c3⟩ := itAt_cells hN3; have f0 := itAt_frozen hN2; have g0 := itAt_frozen hN3; clear hb2 hr2 hN1 hN2 hN3 hB)
  refine bodyPost_ret (v := .agg #[.int .i64 up, .string nm, .string tx, .slice (some ⟨w.heap.size + 1 + 1 + 1, 0, none⟩) n n]) ?_ rfl ⟨_, rfl, by omega, ?_, ?_, ?_, ?_⟩
  · obtain ⟨T, hT⟩ := itAt_sets (up' := up) (nm' := nm) (tx' := tx) (a' := some ⟨w.heap.size + 1 + 1 + 1, 0, none⟩) (n' := n) (c' := n) (itAt_far HN2.out ⟨w.heap.size + 1 + 1, 3, none⟩ (.slice (some ⟨w.heap.size + 1 + 1 + 1, 0, none⟩) n n) (by simp))
    exact results_cell_row Tryz.results35 _ _ (w.heap.size + 1) T _ _ _ rfl hT Tryz.underlying66 rfl (by kernel_rfl)
  · have h := HLT.out
    simp only [heap_setCell_size]
    simpa using h
  · have h := HSH.out
    have h' : ShA w2 (w.heap.size + 1 + 1 + 1) n := by simpa using h
    iterate 5 (refine shA_chg ?_ (chg_set (lo := 0) (hi := w.heap.size + 1 + 1 + 1) _ _ _ (Nat.zero_le _) (by omega)))
    exact h'
  · have h := HR2.out
    simp only [heap_setCell_size]
    iterate 5 (refine atAt_set ?_ _ _ (by simp))
    simpa using h
  · iterate 5 (refine Below.setCell ?_ (by simp; try omega) _)
    exact HB.out
/-- Of a row of cells the first k items have their attributes in a block of its own above g, with room for them. -/
def QSh (w : World) (g : Nat) (xs : List Value) (k : Nat) (D : Dc) : Prop := ∀ j, j < k → ∃ G, g < G ∧ G < w.heap.size ∧ xs[j * 4 + 3]? = some (.slice (some ⟨G, 0, none⟩) (D.AC j) (D.AC j)) ∧ ShA w G (D.AC j)
theorem qsh_go {w w' : World} {g k : Nat} {xs : List Value} {D : Dc} (h : QSh w g xs k D) (hb : Below w.heap.size w w') : QSh w' g xs k D := fun j hj => by
  obtain ⟨G, h1, h2, h3, h4⟩ := h j hj
  exact ⟨G, h1, Nat.lt_of_lt_of_le h2 hb.size, h3, shA_chg h4 (chg_below (lo := 0) (hi := 0) hb)⟩
theorem qsh_set {w : World} {g k o : Nat} {xs : List Value} {D : Dc} (h : QSh w g xs k D) (v : Value) : QSh (w.setCell ⟨g, o, none⟩ v) g xs k D := fun j hj => by
  obtain ⟨G, h1, h2, h3, h4⟩ := h j hj
  exact ⟨G, h1, by rw [heap_setCell_size]; exact h2, h3, shA_chg h4 (chg_set (lo := 0) (hi := g + 1) g o v (Nat.zero_le _) (by omega))⟩
theorem qsh_step {w : World} {g k n G : Nat} {xs : List Value} {D : Dc} (h : QSh w g xs k D) (hk : k < n) (hl : xs.length = n * 4) (hG : g < G) (hG2 : G < w.heap.size) (hs : ShA w G (D.AC k)) : QSh w g ((((xs.set (k * 4) (.int .i64 (D.U k))).set (k * 4 + 1) (.string (D.NM k))).set (k * 4 + 2) (.string (D.TX k))).set (k * 4 + 3) (.slice (some ⟨G, 0, none⟩) (D.AC k) (D.AC k))) (k + 1) D := by
  intro j hj
  simp only [List.getElem?_set, List.length_set]
  by_cases e : j = k
  · subst e
    refine ⟨G, hG, hG2, ?_, hs⟩
    repeat (first | rw [if_pos rfl, if_pos (by omega)] | rw [if_neg (by omega)])
  · obtain ⟨G', h1, h2, h3, h4⟩ := h j (by omega)
    refine ⟨G', h1, h2, ?_, h4⟩
    repeat rw [if_neg (by omega)]
    exact h3
theorem own_shI {w : World} {B g n t : Nat} {xs : List Value} {D : Dc} (h : w.ownsRow B t 4 (.slice (some ⟨g, 0, none⟩) n n) n xs) (hq : QSh w g xs n D) : ShI w g n D.AC g w.heap.size := by
  have hgl := (h.lt g rfl).2
  have hlen := h.1
  rcases h.2 with ⟨hv, -⟩ | ⟨g', cap, cur, hv, -, hg, -, -, hs, ht⟩
  · cases hv
  · simp only [Value.slice.injEq, Option.some.injEq, Addr.mk.injEq] at hv
    obtain ⟨⟨rfl, -⟩, -, rfl⟩ := hv
    refine ⟨cur, t, hg, hs, ⟨Nat.le_refl _, hgl⟩, fun j hj => ?_⟩
    obtain ⟨G, h1, h2, h3, h4⟩ := hq j hj
    refine ⟨G, ⟨by omega, h2, by omega⟩, ?_, h4⟩
    have e : cur.toList = xs := by rw [← ht, List.take_of_length_le (by simp; omega)]
    rw [← Array.getElem?_toList, e]
    exact h3
set_option maxRecDepth 100000 in
set_option maxHeartbeats 4000000 in
theorem l_toIs2 (D : Dc) (n : Nat) (a : Option Addr) (cap : Nat) (w : World) (hX : D.n = n) (hn : n ≤ 1048576) (hnr : ∀ j, j < n → D.AC j ≤ 1048576) (hr : DcAt w a D w.heap.size) :
    Calls Tryz.prog 8 #[.slice a n cap] w fun e w' => ∃ g, e = .returned (.slice (some ⟨g, 0, none⟩) n n) ∧ w.heap.size ≤ g ∧ DcAt w' (some ⟨g, 0, none⟩) D w'.heap.size ∧ ShI w' g n D.AC w.heap.size w'.heap.size ∧ Below w.heap.size w w' := by
  obtain ⟨i0, hi, hz0, hz1, hz2⟩ := info_parts infoI
  have HX := hide hX
  have HNR := hide hnr
  have HR := hide hr
  clear hr hnr hX
  go_enter Tryz.func8, Tryz.ntmps8
  go_wp2_with (at_make; refine wpList_make_full _ rfl _ _ 26 rfl w.heap.size 66 i0 (.agg #[.int .i64 0, .string ⟨#[]⟩, .string ⟨#[]⟩, .slice none 0 0]) 4 Tryz.underlying26 hi hz0 hz1 .i64 .i64 _ _ n rfl rfl rfl rfl (by rw [hz2]; omega) (by unfold maxLen; omega) (Nat.le_refl _) ?_; intro w1 hown hgrow)
  have hb1 : Below w.heap.size w w1 := (Below.refl _ _).grown hgrow (Nat.le_refl _) (fun k h => by cases h)
  clear hgrow
  go_loopw [4] (fun i wr => ∃ k : Nat, k ≤ n ∧ i = .int .i64 k ∧ (∃ xs, wr.ownsRow w.heap.size 66 4 (.slice (some ⟨w.heap.size, 0, none⟩) n n) n xs ∧ Quad wr w.heap.size xs k D ∧ QSh wr w.heap.size xs k D) ∧ Below w.heap.size w wr) (fun i _ => n - (intOf i).toNat)
  case atStart => exact ⟨0, Nat.zero_le _, rfl, ⟨_, hown, fun j h => by omega, fun j h => by omega⟩, hb1⟩
  case round =>
    clear hown hb1
    obtain ⟨k, hk, rfl, ⟨xs, hown, hp, hqs⟩, hb⟩ := hrel
    by_cases hlt : k < n
    · obtain ⟨b, off, rfl, hbs, hrow⟩ := HR.out (by rw [HX.out]; omega)
      obtain ⟨ad, cp, hc, hrg, -⟩ := hrow k (by rw [HX.out]; omega)
      obtain ⟨c0, c1, c2, c3⟩ := dcCells_go hc hbs hb
      have hnk := HNR.out k hlt
      have hlt2 : w.heap.size < wr.heap.size := (hown.lt w.heap.size rfl).2
      have HP := hide hp
      have HQ := hide hqs
      have HB := hide hb
      have HO := hide hown
      have HG := hide (atAt_up (atAt_go hrg hb) hb.size)
      clear hp hb hc hown hrg hrow hqs
      go_wp2_with (go_at_call 35; refine (l_toI2 _ _ _ _ _ _ (D.AN k) (D.AV k) _ hnk HG.out).mono ?_; rintro e w2 ⟨G, rfl, hG, hG9, hsA, hr2, hb2⟩; replace HQ := hide (qsh_go HQ.out hb2); have HSA := hide hsA; have HG9 := hide hG9; clear hsA hG9; have hown2 := own_after HO.out hb2; have hf0 := hown2.frozenAt (k * 4); obtain ⟨x0, hx0⟩ := own_someN hown2 (k * 4) (by omega); have hf1 := hown2.frozenAt (k * 4 + 1); obtain ⟨x1, hx1⟩ := own_someN hown2 (k * 4 + 1) (by omega); have hf2 := hown2.frozenAt (k * 4 + 2); obtain ⟨x2, hx2⟩ := own_someN hown2 (k * 4 + 2) (by omega); have hf3 := hown2.frozenAt (k * 4 + 3); obtain ⟨x3, hx3⟩ := own_someN hown2 (k * 4 + 3) (by omega); replace HB := hide (HB.out.trans (hb2.mono HB.out.size)); replace HO := hide hown2; replace HP := hide (quad_go HP.out hb2); have HG2 := hide hr2; have HGl := hide hG; clear hown2 hb2 hr2 hG)
      go_roundw
      case rel =>
        refine ⟨k + 1, by omega, by go_num, ⟨_, ((((HO.out.stored (k * 4) (.int .i64 (D.U k))).1.stored (k * 4 + 1) (.string (D.NM k))).1.stored (k * 4 + 2) (.string (D.TX k))).1.stored (k * 4 + 3) (.slice (some ⟨G, 0, none⟩) (D.AC k) (D.AC k))).1, ?_, ?_⟩, ?_⟩
        · have h := quad_step HP.out hlt HO.out.1 (Nat.lt_of_lt_of_le hlt2 HGl.out) HG2.out
          replace h := quad_set (o := k * 4) h (.int .i64 (D.U k))
          replace h := quad_set (o := k * 4 + 1) h (.string (D.NM k))
          replace h := quad_set (o := k * 4 + 2) h (.string (D.TX k))
          replace h := quad_set (o := k * 4 + 3) h (.slice (some ⟨G, 0, none⟩) (D.AC k) (D.AC k))
          exact h
        · have h := qsh_step HQ.out hlt HO.out.1 (Nat.lt_of_lt_of_le hlt2 HGl.out) HG9.out HSA.out
          replace h := qsh_set (o := k * 4) h (.int .i64 (D.U k))
          replace h := qsh_set (o := k * 4 + 1) h (.string (D.NM k))
          replace h := qsh_set (o := k * 4 + 2) h (.string (D.TX k))
          replace h := qsh_set (o := k * 4 + 3) h (.slice (some ⟨G, 0, none⟩) (D.AC k) (D.AC k))
          exact h
        · iterate 4 (refine Below.setCell ?_ (Nat.le_refl w.heap.size) _)
          exact HB.out
      case measure => simp [intOf]; omega
    · have hkn : k = n := by omega
      subst hkn
      go_wp2
      go_ret
      exact ⟨_, rfl, Nat.le_refl _, own_dc HX.out hown hp, own_shI hown hqs, hb⟩
theorem conv_new (w : World) (xs : List Int) :
    (convert 118 9 (.slice (some ⟨w.heap.size, 0, none⟩) xs.length xs.length)).run Tryz.prog (w.alloc (.cells (xs.map (Value.int .u8)).toArray 5)) = .ok (.string (strOfNums xs)) (w.alloc (.cells (xs.map (Value.int .u8)).toArray 5)) := by
  refine run_convert_bytes_arg _ 118 5 Tryz.underlying118 Tryz.underlying5 w.heap.size 0 xs.length xs.length xs rfl ?_ 9 Tryz.underlying9
  intro i hi
  rw [show (0 + i) = i by omega, cell_of_row _ w.heap.size i _ 5 (0, 0) (heap_alloc_new w _)]
  simp [List.getElem?_eq_getElem hi]
theorem one_size (x : Int) : (strOfNums [x]).size = 1 := rfl
set_option maxHeartbeats 1000000 in
theorem l_mt (k : Int) (w : World) (h0 : 1 ≤ k) (h1 : k ≤ 1099511627776) : Calls Tryz.prog 47 #[.int .i64 k] w fun e w' => ∃ s, e = .returned (.string s) ∧ Below w.heap.size w w' := by
  go_enter Tryz.func47, Tryz.ntmps47
  go_wp2
  go_loopw [0, 3] (fun kv sv wr => ∃ (x : Int) (s : ByteArray), kv = .int .i64 x ∧ sv = .string s ∧ 0 ≤ x ∧ (s.size : Int) + x ≤ k ∧ Below w.heap.size w wr) (fun kv _ _ => (intOf kv).toNat)
  case atStart => exact ⟨k, ⟨#[]⟩, rfl, rfl, by omega, by show ((0 : Nat) : Int) + k ≤ k; omega, Below.refl _ _⟩
  case round =>
    obtain ⟨x, s, rfl, rfl, hx0, hx1, hb⟩ := hrel
    by_cases hx : 0 < x
    · have hcv := conv_new wr [48 + x % 10]
      have hos := one_size (48 + x % 10)
      obtain ⟨o, ho⟩ : ∃ o, strOfNums [48 + x % 10] = o := ⟨_, rfl⟩
      rw [ho] at hcv hos
      simp only [List.map_cons, List.map_nil, List.length_cons, List.length_nil, Nat.zero_add] at hcv
      have hS1 : ¬ 9223372036854775807 < o.size + s.size := by omega
      have HOS := hide hos
      have HB := hide hb
      clear ho hos hb
      go_wp2
      go_roundw
      case rel => exact ⟨x / 10, o ++ s, rfl, rfl, by omega, by rw [ByteArray.size_append, HOS.out]; omega, HB.out.alloc HB.out.size _⟩
      case measure => simp [intOf]; omega
    · have hS1 : ¬ 9223372036854775807 < 1 + s.size := by omega
      go_wp2
      go_ret
      exact ⟨⟨_, rfl⟩, hb⟩
set_option maxHeartbeats 2000000 in
theorem l_markAs (G m : Nat) (k : Int) (w : World) (h0 : 1 ≤ k) (h1 : k + 2 * m ≤ 1073741824) (hs : ShA w G m) :
    Calls Tryz.prog 48 #[.slice (some ⟨G, 0, none⟩) m m, .int .i64 k] w fun e w' => e = .returned (.int .i64 (k + 2 * m)) ∧ Chg G (G + 1) w w' := by
  have HS := hide hs
  clear hs
  go_enter Tryz.func48, Tryz.ntmps48
  go_wp2
  go_loopw [1, 5] (fun kv iv wr => ∃ i : Nat, i ≤ m ∧ iv = .int .i64 i ∧ kv = .int .i64 (k + 2 * i) ∧ Chg G (G + 1) w wr) (fun _ iv _ => m - (intOf iv).toNat)
  case atStart => exact ⟨0, Nat.zero_le _, rfl, by simp, Chg.refl _ _ _⟩
  case round =>
    obtain ⟨i, hi, rfl, rfl, hc⟩ := hrel
    have HC := hide hc
    clear hc
    by_cases hlt : i < m
    · have hmi : (i : Int) < (m : Int) := by omega
      go_wp2_with fail
      refine (l_mt _ _ (by omega) (by omega)).mono ?_
      rintro e w2 ⟨s2, rfl, hb2⟩
      have HC2 := hide (HC.out.trans (chg_below hb2))
      obtain ⟨⟨v0, hv0⟩, hf0⟩ := shA_cell (shA_chg HS.out HC2.out) (i * 2) (by omega)
      clear hb2
      go_wp2_with fail
      refine (l_mt _ _ (by omega) (by omega)).mono ?_
      rintro e w3 ⟨s3, rfl, hb3⟩
      have HC3 := hide ((HC2.out.trans (chg_set G (i * 2) (.string s2) (Nat.le_refl _) (by omega))).trans (chg_below hb3))
      obtain ⟨⟨v1, hv1⟩, hf1⟩ := shA_cell (shA_chg HS.out HC3.out) (i * 2 + 1) (by omega)
      clear hb3 hv0 hf0
      go_wp2
      go_roundw
      case rel => exact ⟨i + 1, by omega, by go_num, by go_num, HC3.out.trans (chg_set G (i * 2 + 1) (.string s3) (Nat.le_refl _) (by omega))⟩
      case measure => simp [intOf]; omega
    · have him : i = m := by omega
      subst him
      go_wp2
      go_ret
      exact ⟨rfl, HC.out⟩
set_option maxRecDepth 100000 in
set_option maxHeartbeats 4000000 in
theorem l_markIs9 (g n cap : Nat) (AC : Nat → Nat) (lo hi : Nat) (w : World) (hn : n ≤ 1048576) (hac : sumN AC n ≤ 1048576) (hs : ShI w g n AC lo hi) :
    Calls Tryz.prog 17 #[.slice (some ⟨g, 0, none⟩) n cap, .int .i64 1] w fun e w' => ∃ k : Int, e = .returned (.int .i64 k) ∧ 1 ≤ k ∧ k ≤ 6000000 ∧ Chg lo hi w w' := by
  have HS := hide hs
  have hin := shI_in hs
  clear hs
  go_enter Tryz.func17, Tryz.ntmps17
  go_wp2
  go_loopw [1, 5] (fun kv iv wr => ∃ (i : Nat) (x : Int), i ≤ n ∧ iv = .int .i64 i ∧ kv = .int .i64 x ∧ 1 ≤ x ∧ x ≤ 1 + 3 * i + 2 * (sumN AC i : Int) ∧ ShI wr g n AC lo hi ∧ Chg lo hi w wr) (fun _ iv _ => n - (intOf iv).toNat)
  case atStart => exact ⟨0, 1, Nat.zero_le _, rfl, rfl, by omega, by simp [sumN], HS.out, Chg.refl _ _ _⟩
  case round =>
    obtain ⟨i, x, hi', rfl, rfl, hx0, hx1, hI, hc⟩ := hrel
    by_cases hlt : i < n
    · have hsum := sumN_at AC hlt
      have hmi : (i : Int) < (n : Int) := by omega
      obtain ⟨⟨v0, hv0⟩, hf0⟩ := shI_cell hI (i * 4) (by omega)
      have HI := hide hI
      have HC := hide hc
      have hsx : sumN AC (i + 1) = sumN AC i + AC i := rfl
      have HSX := hide hsx
      obtain ⟨y, hy⟩ : ∃ y, sumN AC i = y := ⟨_, rfl⟩
      rw [hy] at hx1 hsum
      have HY := hide hy
      clear hI hc hsx hy
      go_wp2_with fail
      have HI1 := hide (shI_set (i := i * 4) HI.out (.int .i64 x) (fun j => by omega))
      have HC1 := hide (HC.out.trans (chg_set g (i * 4) (.int .i64 x) hin.1 hin.2))
      refine (l_mt _ _ (by omega) (by omega)).mono ?_
      rintro e w2 ⟨s2, rfl, hb2⟩
      have HI2 := hide (shI_go HI1.out (chg_below (lo := 0) (hi := 0) hb2) (.inr (Nat.zero_le _)))
      have HC2 := hide (HC1.out.trans (chg_below hb2))
      obtain ⟨⟨v1, hv1⟩, hf1⟩ := shI_cell HI2.out (i * 4 + 1) (by omega)
      clear hb2 hv0 hf0
      go_wp2_with fail
      have HI3 := hide (shI_set (i := i * 4 + 1) HI2.out (.string s2) (fun j => by omega))
      have HC3 := hide (HC2.out.trans (chg_set g (i * 4 + 1) (.string s2) hin.1 hin.2))
      refine (l_mt _ _ (by omega) (by omega)).mono ?_
      rintro e w3 ⟨s3, rfl, hb3⟩
      have HI4 := hide (shI_go HI3.out (chg_below (lo := 0) (hi := 0) hb3) (.inr (Nat.zero_le _)))
      have HC4 := hide (HC3.out.trans (chg_below hb3))
      obtain ⟨⟨v2, hv2⟩, hf2⟩ := shI_cell HI4.out (i * 4 + 2) (by omega)
      obtain ⟨⟨v3, hv3⟩, hf3⟩ := shI_cell HI4.out (i * 4 + 3) (by omega)
      obtain ⟨G, hG, hcell, hsa⟩ := shI_at HI4.out i hlt
      have HSA := hide hsa
      clear hb3 hv1 hf1 hv3 hf3 hsa
      go_wp2_with fail
      have HI5 := hide (shI_set (i := i * 4 + 2) HI4.out (.string s3) (fun j => by omega))
      have HC5 := hide (HC4.out.trans (chg_set g (i * 4 + 2) (.string s3) hin.1 hin.2))
      refine (l_markAs G (AC i) _ _ (by omega) (by omega) (shA_chg HSA.out (chg_set (lo := g) (hi := g + 1) g (i * 4 + 2) (.string s3) (Nat.le_refl _) (by omega)))).mono ?_
      rintro e w4 ⟨rfl, hc4⟩
      have HI6 := hide (shI_go HI5.out hc4 (by omega))
      have HC6 := hide (HC5.out.trans (hc4.wide hG.1 (by omega)))
      clear hc4 hv2 hf2 hcell
      go_wp2
      go_roundw
      case rel => exact ⟨i + 1, _, by omega, by go_num, rfl, by omega, by rw [HSX.out, HY.out]; omega, HI6.out, HC6.out⟩
      case measure => simp [intOf]; omega
    · have him : i = n := by omega
      subst him
      go_wp2
      go_ret
      exact ⟨x, rfl, by omega, by omega, hc⟩
theorem l_markIs (g n cap : Nat) (AC : Nat → Nat) (lo hi : Nat) (w : World) (hn : n ≤ 1048576) (hac : sumN AC n ≤ 1048576) (hs : ShI w g n AC lo hi) :
    Calls Tryz.prog 17 #[.slice (some ⟨g, 0, none⟩) n cap, .int .i64 1] w fun e w' => ∃ k : Int, e = .returned (.int .i64 k) ∧ 0 ≤ k ∧ Chg lo hi w w' := by
  refine (l_markIs9 g n cap AC lo hi w hn hac hs).mono ?_
  rintro e w' ⟨k, h1, h2, h3, h4⟩
  exact ⟨k, h1, by omega, h4⟩
end Go.Proofs.YtfbahffljhnjbaaGreatDoor

/-
  Contract: the marks that the laws write into texts.
-/
namespace Go.Proofs.YtfbahffljhnjbaaGreatDoor
open Go.RowKit Go.Joins
set_option linter.unusedVariables false
set_option linter.unusedSimpArgs false
def mkF : Nat → Int → ByteArray → ByteArray
  | 0, x, s => s
  | f + 1, x, s => if 0 < x then mkF f (x / 10) (strOfNums [48 + x % 10] ++ s) else s
theorem mkF_more : ∀ (f g : Nat) (x : Int) (s : ByteArray), x < f → x < g → mkF f x s = mkF g x s
  | 0, 0, x, s, h1, h2 => rfl
  | 0, g + 1, x, s, h1, h2 => by rw [mkF, mkF, if_neg (by omega)]
  | f + 1, 0, x, s, h1, h2 => by rw [mkF, mkF, if_neg (by omega)]
  | f + 1, g + 1, x, s, h1, h2 => by
    rw [mkF, mkF]
    split
    · exact mkF_more f g _ _ (by omega) (by omega)
    · rfl
def mkX (x : Int) (s : ByteArray) : ByteArray := mkF (x.toNat + 1) x s
theorem mkX_no {x : Int} {s : ByteArray} (h : ¬ 0 < x) : mkX x s = s := by unfold mkX; rw [mkF, if_neg h]
theorem mkX_yes {x : Int} {s : ByteArray} (h : 0 < x) : mkX x s = mkX (x / 10) (strOfNums [48 + x % 10] ++ s) := by
  unfold mkX
  rw [mkF, if_pos h]
  exact mkF_more _ _ _ _ (by omega) (by omega)
def mkT (k : Int) : ByteArray := ⟨#[109]⟩ ++ mkX k ⟨#[]⟩
set_option maxHeartbeats 1000000 in
theorem l_mtV (k : Int) (w : World) (h0 : 1 ≤ k) (h1 : k ≤ 1099511627776) : Calls Tryz.prog 47 #[.int .i64 k] w fun e w' => e = .returned (.string (mkT k)) ∧ Below w.heap.size w w' := by
  go_enter Tryz.func47, Tryz.ntmps47
  go_wp2
  go_loopw [0, 3] (fun kv sv wr => ∃ (x : Int) (s : ByteArray), kv = .int .i64 x ∧ sv = .string s ∧ 0 ≤ x ∧ (s.size : Int) + x ≤ k ∧ Below w.heap.size w wr ∧ Hid (mkX x s = mkX k ⟨#[]⟩)) (fun kv _ _ => (intOf kv).toNat)
  case atStart => exact ⟨k, ⟨#[]⟩, rfl, rfl, by omega, by show ((0 : Nat) : Int) + k ≤ k; omega, Below.refl _ _, hide rfl⟩
  case round =>
    obtain ⟨x, s, rfl, rfl, hx0, hx1, hb, HM⟩ := hrel
    by_cases hx : 0 < x
    · have hcv := conv_new wr [48 + x % 10]
      have hos := one_size (48 + x % 10)
      have HM2 := hide ((mkX_yes hx (s := s)).symm.trans HM.out)
      obtain ⟨o, ho⟩ : ∃ o, strOfNums [48 + x % 10] = o := ⟨_, rfl⟩
      rw [ho] at hcv hos HM2
      simp only [List.map_cons, List.map_nil, List.length_cons, List.length_nil, Nat.zero_add] at hcv
      have hS1 : ¬ 9223372036854775807 < o.size + s.size := by omega
      have HOS := hide hos
      have HB := hide hb
      clear ho hos hb
      go_wp2
      go_roundw
      case rel => exact ⟨x / 10, o ++ s, rfl, rfl, by omega, by rw [ByteArray.size_append, HOS.out]; omega, HB.out.alloc HB.out.size _, HM2⟩
      case measure => simp [intOf]; omega
    · have hS1 : ¬ 9223372036854775807 < 1 + s.size := by omega
      have HV : Hid (mkT k = ⟨#[109]⟩ ++ s) := hide (by unfold mkT; rw [← HM.out, mkX_no hx])
      go_wp2
      go_ret
      exact ⟨by rw [HV.out]; rfl, hb⟩
end Go.Proofs.YtfbahffljhnjbaaGreatDoor
