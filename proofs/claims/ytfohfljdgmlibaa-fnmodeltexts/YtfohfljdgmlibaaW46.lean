/-
  Contracts of the laws' helpers: a copy of a row of model nodes, with its shape; marks on all of its places.
-/
import Derived.Test.YtfohfljdgmlibaaW45
import Derived.Laws.BytesArg
namespace Go.Proofs.Ytfohfljdgmlibaa
open Go.RowKit Go.Joins
set_option linter.unusedVariables false
set_option linter.unusedSimpArgs false
set_option maxHeartbeats 2000000 in
theorem l_toP2 (k : Int) (nm : ByteArray) (a : Option Addr) (L : List Int) (n c : Nat) (oc : Int) (w : World) (hL : L.length = n) (hn : n ≤ 1048576) (hr : RowAt .i64 w a L w.heap.size) :
    Calls Try.prog 40 #[.agg #[.int .i64 k, .string nm, .slice a n c, .int .i64 oc]] w fun e w' => ∃ G, e = .returned (.agg #[.int .i64 k, .string nm, .slice (some ⟨G, 0, none⟩) n n, .int .i64 oc]) ∧ w.heap.size ≤ G ∧ G < w'.heap.size ∧ ShA w' G n ∧
      RowAt .i64 w' (some ⟨G, 0, none⟩) L w'.heap.size ∧ Below w.heap.size w w' := by
  have HR := hide hr
  have HL := hide hL
  clear hr hL
  go_enter Try.func40, Try.ntmps40
  go_wp2_with (go_at_call 66; refine (to_ints _ _ _ L _ HL.out hn (rwAt_up (rwAt_go HR.out ((((Below.refl _ _).alloc (Nat.le_refl _) _).alloc (by simp) _).alloc (by simp; omega) _)) (by simp; omega))).mono ?_; rintro e w2 ⟨rfl, hr2, hb2⟩; obtain ⟨hN1, hN2, hN3, hB⟩ := three_nodes hb2; have HN2 := hide hN2; have HR2 := hide (own_rowAt9 hr2); have HSH := hide (own_shA hr2); have HLT := hide (hr2.lt _ rfl).2; have HB := hide hB; obtain ⟨a0, a1, a2, a3⟩ := ndAt_cells hN1; obtain ⟨b0, b1, b2, b3⟩ := ndAt_cells hN2; obtain ⟨c0, c1, c2, c3⟩ := ndAt_cells hN3; have f0 := ndAt_frozen hN2; have g0 := ndAt_frozen hN3; clear hb2 hr2 hN1 hN2 hN3 hB)
  refine bodyPost_ret (v := .agg #[.int .i64 k, .string nm, .slice (some ⟨w.heap.size + 1 + 1 + 1, 0, none⟩) n n, .int .i64 oc]) ?_ rfl ⟨_, rfl, by omega, ?_, ?_, ?_, ?_⟩
  · obtain ⟨T, hT⟩ := ndAt_sets (k' := k) (nm' := nm) (a' := some ⟨w.heap.size + 1 + 1 + 1, 0, none⟩) (n' := n) (c' := n) (oc' := oc) (ndAt_far (ndAt_far HN2.out ⟨w.heap.size + 1 + 1, 2, none⟩ (.slice (some ⟨w.heap.size + 1 + 1 + 1, 0, none⟩) n n) (by simp)) ⟨w.heap.size + 1 + 1, 3, none⟩ (.int .i64 oc) (by simp))
    exact results_cell_row Try.results40 _ _ (w.heap.size + 1) T _ _ _ rfl hT Try.underlying46 rfl (by kernel_rfl)
  · have h := HLT.out
    simp only [heap_setCell_size]
    simpa using h
  · have h := HSH.out
    have h' : ShA w2 (w.heap.size + 1 + 1 + 1) n := by simpa using h
    iterate 6 (refine shA_chg ?_ (chg_set (lo := 0) (hi := w.heap.size + 1 + 1 + 1) _ _ _ (Nat.zero_le _) (by omega)))
    exact h'
  · have h := HR2.out
    simp only [heap_setCell_size]
    iterate 6 (refine rwAt_set ?_ _ _ (by simp))
    simpa using h
  · iterate 6 (refine Below.setCell ?_ (by simp; try omega) _)
    exact HB.out
/-- Of a row of cells the first k nodes have their kids in a block of its own above g, with room for them. -/
def QSh (w : World) (g : Nat) (xs : List Value) (k : Nat) (D : Pn) : Prop := ∀ j, j < k → ∃ G, g < G ∧ G < w.heap.size ∧ xs[j * 4 + 2]? = some (.slice (some ⟨G, 0, none⟩) ((D.KL j).length) ((D.KL j).length)) ∧ ShA w G ((D.KL j).length)
theorem qsh_go {w w' : World} {g k : Nat} {xs : List Value} {D : Pn} (h : QSh w g xs k D) (hb : Below w.heap.size w w') : QSh w' g xs k D := fun j hj => by
  obtain ⟨G, h1, h2, h3, h4⟩ := h j hj
  exact ⟨G, h1, Nat.lt_of_lt_of_le h2 hb.size, h3, shA_chg h4 (chg_below (lo := 0) (hi := 0) hb)⟩
theorem qsh_set {w : World} {g k o : Nat} {xs : List Value} {D : Pn} (h : QSh w g xs k D) (v : Value) : QSh (w.setCell ⟨g, o, none⟩ v) g xs k D := fun j hj => by
  obtain ⟨G, h1, h2, h3, h4⟩ := h j hj
  exact ⟨G, h1, by rw [heap_setCell_size]; exact h2, h3, shA_chg h4 (chg_set (lo := 0) (hi := g + 1) g o v (Nat.zero_le _) (by omega))⟩
theorem qsh_step {w : World} {g k n G : Nat} {xs : List Value} {D : Pn} (h : QSh w g xs k D) (hk : k < n) (hl : xs.length = n * 4) (hG : g < G) (hG2 : G < w.heap.size) (hs : ShA w G ((D.KL k).length)) : QSh w g ((((xs.set (k * 4) (.int .i64 (D.K k))).set (k * 4 + 1) (.string (D.NM k))).set (k * 4 + 2) (.slice (some ⟨G, 0, none⟩) (D.KL k).length (D.KL k).length)).set (k * 4 + 3) (.int .i64 (D.OC k))) (k + 1) D := by
  intro j hj
  simp only [List.getElem?_set, List.length_set]
  by_cases e : j = k
  · subst e
    refine ⟨G, hG, hG2, ?_, hs⟩
    repeat (first | rw [if_pos rfl, if_pos (by omega)] | rw [if_neg (by omega)])
  · obtain ⟨G', h1, h2, h3, h4⟩ := h j (by omega)
    refine ⟨G', h1, h2, ?_, h4⟩
    repeat rw [if_neg (by omega)]
    exact h3
theorem own_shI {w : World} {B g n t : Nat} {xs : List Value} {D : Pn} (h : w.ownsRow B t 4 (.slice (some ⟨g, 0, none⟩) n n) n xs) (hq : QSh w g xs n D) : ShI w g n (fun j => (D.KL j).length) g w.heap.size := by
  have hgl := (h.lt g rfl).2
  have hlen := h.1
  rcases h.2 with ⟨hv, -⟩ | ⟨g', cap, cur, hv, -, hg, -, -, hs, ht⟩
  · cases hv
  · simp only [Value.slice.injEq, Option.some.injEq, Addr.mk.injEq] at hv
    obtain ⟨⟨rfl, -⟩, -, rfl⟩ := hv
    refine ⟨cur, t, hg, hs, ⟨Nat.le_refl _, hgl⟩, fun j hj => ?_⟩
    obtain ⟨G, h1, h2, h3, h4⟩ := hq j hj
    refine ⟨G, ⟨by omega, h2, by omega⟩, ?_, h4⟩
    have e : cur.toList = xs := by rw [← ht, List.take_of_length_le (by simp; omega)]
    rw [← Array.getElem?_toList, e]
    exact h3
set_option maxRecDepth 100000 in
set_option maxHeartbeats 4000000 in
theorem l_toPs2 (D : Pn) (n : Nat) (a : Option Addr) (cap : Nat) (w : World) (hX : D.n = n) (hn : n ≤ 1048576) (hnr : ∀ j, j < n → (D.KL j).length ≤ 1048576) (hr : PnAt w a D w.heap.size) :
    Calls Try.prog 20 #[.slice a n cap] w fun e w' => ∃ g, e = .returned (.slice (some ⟨g, 0, none⟩) n n) ∧ w.heap.size ≤ g ∧ PnAt w' (some ⟨g, 0, none⟩) D w'.heap.size ∧ ShI w' g n (fun j => (D.KL j).length) w.heap.size w'.heap.size ∧ Below w.heap.size w w' := by
  obtain ⟨i0, hi, hz0, hz1, hz2⟩ := info_parts infoP
  have HX := hide hX
  have HNR := hide hnr
  have HR := hide hr
  clear hr hnr hX
  go_enter Try.func20, Try.ntmps20
  go_wp2_with (at_make; refine wpList_make_full _ rfl _ _ 24 rfl w.heap.size 46 i0 (.agg #[.int .i64 0, .string ⟨#[]⟩, .slice none 0 0, .int .i64 0]) 4 Try.underlying24 hi hz0 hz1 .i64 .i64 _ _ n rfl rfl rfl rfl (by rw [hz2]; omega) (by unfold maxLen; omega) (Nat.le_refl _) ?_; intro w1 hown hgrow)
  have hb1 : Below w.heap.size w w1 := (Below.refl _ _).grown hgrow (Nat.le_refl _) (fun k h => by cases h)
  clear hgrow
  go_loopw [4] (fun i wr => ∃ k : Nat, k ≤ n ∧ i = .int .i64 k ∧ (∃ xs, wr.ownsRow w.heap.size 46 4 (.slice (some ⟨w.heap.size, 0, none⟩) n n) n xs ∧ QuadN wr w.heap.size xs k D ∧ QSh wr w.heap.size xs k D) ∧ Below w.heap.size w wr) (fun i _ => n - (intOf i).toNat)
  case atStart => exact ⟨0, Nat.zero_le _, rfl, ⟨_, hown, fun j h => by omega, fun j h => by omega⟩, hb1⟩
  case round =>
    clear hown hb1
    obtain ⟨k, hk, rfl, ⟨xs, hown, hp, hqs⟩, hb⟩ := hrel
    by_cases hlt : k < n
    · obtain ⟨b, off, rfl, hbs, hrow⟩ := HR.out (by rw [HX.out]; omega)
      obtain ⟨ad, cp, hc, hrg, -⟩ := hrow k (by rw [HX.out]; omega)
      obtain ⟨c0, c1, c2, c3⟩ := pnCells_go hc hbs hb
      have hnk := HNR.out k hlt
      have hlt2 : w.heap.size < wr.heap.size := (hown.lt w.heap.size rfl).2
      have HP := hide hp
      have HQ := hide hqs
      have HB := hide hb
      have HO := hide hown
      have HG := hide (rwAt_up (rwAt_go hrg hb) hb.size)
      clear hp hb hc hown hrg hrow hqs
      go_wp2_with (go_at_call 40; refine (l_toP2 _ _ _ (D.KL k) _ _ _ _ rfl hnk HG.out).mono ?_; rintro e w2 ⟨G, rfl, hG, hG9, hsA, hr2, hb2⟩; replace HQ := hide (qsh_go HQ.out hb2); have HSA := hide hsA; have HG9 := hide hG9; clear hsA hG9; have hown2 := own_after HO.out hb2; have hf0 := hown2.frozenAt (k * 4); obtain ⟨x0, hx0⟩ := own_someN hown2 (k * 4) (by omega); have hf1 := hown2.frozenAt (k * 4 + 1); obtain ⟨x1, hx1⟩ := own_someN hown2 (k * 4 + 1) (by omega); have hf2 := hown2.frozenAt (k * 4 + 2); obtain ⟨x2, hx2⟩ := own_someN hown2 (k * 4 + 2) (by omega); have hf3 := hown2.frozenAt (k * 4 + 3); obtain ⟨x3, hx3⟩ := own_someN hown2 (k * 4 + 3) (by omega); replace HB := hide (HB.out.trans (hb2.mono HB.out.size)); replace HO := hide hown2; replace HP := hide (quadN_go HP.out hb2); have HG2 := hide hr2; have HGl := hide hG; clear hown2 hb2 hr2 hG)
      go_roundw
      case rel =>
        refine ⟨k + 1, by omega, by go_num, ⟨_, ((((HO.out.stored (k * 4) (.int .i64 (D.K k))).1.stored (k * 4 + 1) (.string (D.NM k))).1.stored (k * 4 + 2) (.slice (some ⟨G, 0, none⟩) (D.KL k).length (D.KL k).length)).1.stored (k * 4 + 3) (.int .i64 (D.OC k))).1, ?_, ?_⟩, ?_⟩
        · have h := quadN_step HP.out hlt HO.out.1 (Nat.lt_of_lt_of_le hlt2 HGl.out) HG2.out
          replace h := quadN_set (o := k * 4) h (.int .i64 (D.K k))
          replace h := quadN_set (o := k * 4 + 1) h (.string (D.NM k))
          replace h := quadN_set (o := k * 4 + 2) h (.slice (some ⟨G, 0, none⟩) (D.KL k).length (D.KL k).length)
          replace h := quadN_set (o := k * 4 + 3) h (.int .i64 (D.OC k))
          exact h
        · have h := qsh_step HQ.out hlt HO.out.1 (Nat.lt_of_lt_of_le hlt2 HGl.out) HG9.out HSA.out
          replace h := qsh_set (o := k * 4) h (.int .i64 (D.K k))
          replace h := qsh_set (o := k * 4 + 1) h (.string (D.NM k))
          replace h := qsh_set (o := k * 4 + 2) h (.slice (some ⟨G, 0, none⟩) (D.KL k).length (D.KL k).length)
          replace h := qsh_set (o := k * 4 + 3) h (.int .i64 (D.OC k))
          exact h
        · iterate 4 (refine Below.setCell ?_ (Nat.le_refl w.heap.size) _)
          exact HB.out
      case measure => simp [intOf]; omega
    · have hkn : k = n := by omega
      subst hkn
      go_wp2
      go_ret
      exact ⟨_, rfl, Nat.le_refl _, own_pn HX.out hown hp, own_shI hown hqs, hb⟩
theorem conv_new (w : World) (xs : List Int) :
    (convert 22 9 (.slice (some ⟨w.heap.size, 0, none⟩) xs.length xs.length)).run Try.prog (w.alloc (.cells (xs.map (Value.int .u8)).toArray 5)) = .ok (.string (strOfNums xs)) (w.alloc (.cells (xs.map (Value.int .u8)).toArray 5)) := by
  refine run_convert_bytes_arg _ 22 5 Try.underlying22 Try.underlying5 w.heap.size 0 xs.length xs.length xs rfl ?_ 9 Try.underlying9
  intro i hi
  rw [show (0 + i) = i by omega, cell_of_row _ w.heap.size i _ 5 (0, 0) (heap_alloc_new w _)]
  simp [List.getElem?_eq_getElem hi]
theorem one_size (x : Int) : (strOfNums [x]).size = 1 := rfl
set_option maxHeartbeats 1000000 in
theorem l_mt (k : Int) (w : World) (h0 : 1 ≤ k) (h1 : k ≤ 1099511627776) : Calls Try.prog 35 #[.int .i64 k] w fun e w' => ∃ s, e = .returned (.string s) ∧ Below w.heap.size w w' := by
  go_enter Try.func35, Try.ntmps35
  go_wp2
  go_loopw [0, 3] (fun kv sv wr => ∃ (x : Int) (s : ByteArray), kv = .int .i64 x ∧ sv = .string s ∧ 0 ≤ x ∧ (s.size : Int) + x ≤ k ∧ Below w.heap.size w wr) (fun kv _ _ => (intOf kv).toNat)
  case atStart => exact ⟨k, ⟨#[]⟩, rfl, rfl, by omega, by show ((0 : Nat) : Int) + k ≤ k; omega, Below.refl _ _⟩
  case round =>
    obtain ⟨x, s, rfl, rfl, hx0, hx1, hb⟩ := hrel
    by_cases hx : 0 < x
    · have hcv := conv_new wr [48 + x % 10]
      have hos := one_size (48 + x % 10)
      obtain ⟨o, ho⟩ : ∃ o, strOfNums [48 + x % 10] = o := ⟨_, rfl⟩
      rw [ho] at hcv hos
      simp only [List.map_cons, List.map_nil, List.length_cons, List.length_nil, Nat.zero_add] at hcv
      have hS1 : ¬ 9223372036854775807 < o.size + s.size := by omega
      have HOS := hide hos
      have HB := hide hb
      clear ho hos hb
      go_wp2
      go_roundw
      case rel => exact ⟨x / 10, o ++ s, rfl, rfl, by omega, by rw [ByteArray.size_append, HOS.out]; omega, HB.out.alloc HB.out.size _⟩
      case measure => simp [intOf]; omega
    · have hS1 : ¬ 9223372036854775807 < 1 + s.size := by omega
      go_wp2
      go_ret
      exact ⟨⟨_, rfl⟩, hb⟩
set_option maxHeartbeats 2000000 in
theorem l_markNs (G m : Nat) (k : Int) (w : World) (h0 : 1 ≤ k) (h1 : k + m ≤ 1073741824) (hs : ShA w G m) :
    Calls Try.prog 36 #[.slice (some ⟨G, 0, none⟩) m m, .int .i64 k] w fun e w' => e = .returned (.int .i64 (k + m)) ∧ Chg G (G + 1) w w' := by
  have HS := hide hs
  clear hs
  go_enter Try.func36, Try.ntmps36
  go_wp2
  go_loopw [1, 5] (fun kv iv wr => ∃ i : Nat, i ≤ m ∧ iv = .int .i64 i ∧ kv = .int .i64 (k + i) ∧ Chg G (G + 1) w wr) (fun _ iv _ => m - (intOf iv).toNat)
  case atStart => exact ⟨0, Nat.zero_le _, rfl, by simp, Chg.refl _ _ _⟩
  case round =>
    obtain ⟨i, hi, rfl, rfl, hc⟩ := hrel
    have HC := hide hc
    clear hc
    by_cases hlt : i < m
    · have hmi : (i : Int) < (m : Int) := by omega
      obtain ⟨⟨v0, hv0⟩, hf0⟩ := shA_cell (shA_chg HS.out HC.out) i (by omega)
      go_wp2
      go_roundw
      case rel => exact ⟨i + 1, by omega, by go_num, by go_num, HC.out.trans (chg_set G i (.int .i64 (k + i)) (Nat.le_refl _) (by omega))⟩
      case measure => simp [intOf]; omega
    · have him : i = m := by omega
      subst him
      go_wp2
      go_ret
      exact ⟨rfl, HC.out⟩
set_option maxRecDepth 100000 in
set_option maxHeartbeats 4000000 in
theorem l_markPs (g n cap : Nat) (AC : Nat → Nat) (lo hi : Nat) (w : World) (hn : n ≤ 1048576) (hac : sumN AC n ≤ 1048576) (hs : ShI w g n AC lo hi) :
    Calls Try.prog 16 #[.slice (some ⟨g, 0, none⟩) n cap, .int .i64 1] w fun e w' => ∃ k : Int, e = .returned (.int .i64 k) ∧ 0 ≤ k ∧ Chg lo hi w w' := by
  have HS := hide hs
  have hin := shI_in hs
  clear hs
  go_enter Try.func16, Try.ntmps16
  go_wp2
  go_loopw [1, 5] (fun kv iv wr => ∃ (i : Nat) (x : Int), i ≤ n ∧ iv = .int .i64 i ∧ kv = .int .i64 x ∧ 1 ≤ x ∧ x ≤ 1 + 3 * i + (sumN AC i : Int) ∧ ShI wr g n AC lo hi ∧ Chg lo hi w wr) (fun _ iv _ => n - (intOf iv).toNat)
  case atStart => exact ⟨0, 1, Nat.zero_le _, rfl, rfl, by omega, by simp [sumN], HS.out, Chg.refl _ _ _⟩
  case round =>
    obtain ⟨i, x, hi', rfl, rfl, hx0, hx1, hI, hc⟩ := hrel
    by_cases hlt : i < n
    · have hsum := sumN_at AC hlt
      have hmi : (i : Int) < (n : Int) := by omega
      obtain ⟨⟨v0, hv0⟩, hf0⟩ := shI_cell hI (i * 4) (by omega)
      have HI := hide hI
      have HC := hide hc
      have hsx : sumN AC (i + 1) = sumN AC i + AC i := rfl
      have HSX := hide hsx
      obtain ⟨y, hy⟩ : ∃ y, sumN AC i = y := ⟨_, rfl⟩
      rw [hy] at hx1 hsum
      have HY := hide hy
      clear hI hc hsx hy
      go_wp2_with fail
      have HI1 := hide (shI_set (i := i * 4) HI.out (.int .i64 x) (fun j => by omega))
      have HC1 := hide (HC.out.trans (chg_set g (i * 4) (.int .i64 x) hin.1 hin.2))
      refine (l_mt _ _ (by omega) (by omega)).mono ?_
      rintro e w2 ⟨s2, rfl, hb2⟩
      have HI2 := hide (shI_go HI1.out (chg_below (lo := 0) (hi := 0) hb2) (.inr (Nat.zero_le _)))
      have HC2 := hide (HC1.out.trans (chg_below hb2))
      obtain ⟨⟨v1, hv1⟩, hf1⟩ := shI_cell HI2.out (i * 4 + 1) (by omega)
      obtain ⟨G, hG, hcell, hsa⟩ := shI_at HI2.out i hlt
      have HSA := hide hsa
      clear hb2 hv0 hf0 hsa
      go_wp2_with fail
      have HI3 := hide (shI_set (i := i * 4 + 1) HI2.out (.string s2) (fun j => by omega))
      have HC3 := hide (HC2.out.trans (chg_set g (i * 4 + 1) (.string s2) hin.1 hin.2))
      refine (l_markNs G (AC i) _ _ (by omega) (by omega) (shA_chg HSA.out (chg_set (lo := g) (hi := g + 1) g (i * 4 + 1) (.string s2) (Nat.le_refl _) (by omega)))).mono ?_
      rintro e w4 ⟨rfl, hc4⟩
      have HI4 := hide (shI_go HI3.out hc4 (by omega))
      have HC4 := hide (HC3.out.trans (hc4.wide hG.1 (by omega)))
      obtain ⟨⟨v3, hv3⟩, hf3⟩ := shI_cell HI4.out (i * 4 + 3) (by omega)
      clear hc4 hv1 hf1 hcell
      go_wp2
      go_roundw
      case rel => exact ⟨i + 1, _, by omega, by go_num, rfl, by omega, by rw [HSX.out, HY.out]; omega, shI_set (i := i * 4 + 3) HI4.out _ (fun j => by omega), HC4.out.trans (chg_set g (i * 4 + 3) _ hin.1 hin.2)⟩
      case measure => simp [intOf]; omega
    · have hkn : i = n := by omega
      subst hkn
      go_wp2
      go_ret
      exact ⟨x, rfl, by omega, hc⟩
end Go.Proofs.Ytfohfljdgmlibaa
