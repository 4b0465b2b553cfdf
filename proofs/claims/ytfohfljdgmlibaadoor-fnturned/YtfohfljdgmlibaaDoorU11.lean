/-
  Texts put together: PkD, TkO.
-/
import Derived.Test.YtfohfljdgmlibaaDoorU10
import Derived.Test.YtfohfljdgmlibaaDoorU9
import Derived.Great.BuildSlice
import Derived.Great.Walk
import Derived.KernelRfl
import Derived.Deep.WholeRow
import Derived.Laws.Tables
import Derived.Laws.CopyOwn
import Derived.Laws.Rows
import Derived.Laws.ResultCell
/-
  Contract: which rows of nodes are right models, by the program.
-/
namespace Go.Proofs.YtfohfljdgmlibaaDoor
open Go.RowKit Go.Joins
set_option linter.unusedVariables false
set_option linter.unusedSimpArgs false
/-- The stems of the first i nodes, as cells. -/
def stL (D : Pn) : Nat → List Value
  | 0 => []
  | i + 1 => stL D i ++ [.int .i64 (stF D i), .int .i64 (stG D i)]
theorem stL_len (D : Pn) : ∀ i, (stL D i).length = i * 2
  | 0 => rfl
  | i + 1 => by rw [stL, List.length_append, stL_len D i]; simp; omega
theorem stL_at (D : Pn) : ∀ (i j : Nat), j < i → (stL D i)[j * 2]? = some (.int .i64 (stF D j)) ∧ (stL D i)[j * 2 + 1]? = some (.int .i64 (stG D j))
  | 0, j, h => by omega
  | i + 1, j, h => by
    have hl := stL_len D i
    rw [stL]
    by_cases e : j = i
    · subst e
      rw [List.getElem?_append_right (by omega), List.getElem?_append_right (by omega), hl]
      simp
    · have := stL_at D i j (by omega)
      rw [List.getElem?_append_left (by omega), List.getElem?_append_left (by omega)]
      exact this
theorem own_st {w : World} {B i c : Nat} {ad : Option Addr} {t : TypeId} {D : Pn} (h : w.ownsRow B t 2 (.slice ad i c) i (stL D i)) : StAt w ad D i w.heap.size := fun h0 => by
  rcases h.2 with ⟨-, hz⟩ | ⟨g, cap, cur, hv, hB, hh, -⟩
  · omega
  · simp only [Value.slice.injEq] at hv
    obtain ⟨rfl, -, rfl⟩ := hv
    refine ⟨g, 0, rfl, (Array.getElem?_eq_some_iff.1 hh).1, fun j hj => ⟨?_, ?_⟩⟩
    · rw [Nat.zero_add, h.cellAt (j * 2) (by omega)]; exact (stL_at D i j hj).1
    · rw [Nat.zero_add, h.cellAt (j * 2 + 1) (by omega)]; exact (stL_at D i j hj).2
theorem infoSt : (Tryd.prog.info? 98).map (fun i => (i.zero, i.size, i.bytes)) = some (some (.agg #[.int .i64 0, .int .i64 0]), 2, 16) := by kernel_rfl
theorem two_new9 (w : World) (x y : Value) (T : TypeId) (j : Nat) (u : Value) (hj : [x, y][j]? = some u) : (w.alloc (.cells #[x, y] T)).cell? ((⟨w.heap.size, 0, none⟩ : Addr).add j) = some u := gTwo_new w x y T j u hj
theorem two_list9 (x y : Int) : ∀ u ∈ [Value.int .i64 x, Value.int .i64 y], u.oneCell' = true := by
  intro u hu
  simp at hu
  rcases hu with rfl | rfl <;> rfl
set_option maxRecDepth 100000 in
set_option maxHeartbeats 8000000 in
theorem i_particle (D : Pn) (n : Nat) (a : Option Addr) (cap : Nat) (w : World) (hD : D.n = n) (hz : pnTot D ≤ 1048576) (hr : PnAt w a D w.heap.size) :
    Calls Tryd.prog 53 #[.slice a n cap] w fun e w' => e = .returned (.bool (pkB D)) ∧ Below w.heap.size w w' := by
  obtain ⟨i0, hi, hz0, hz1, hz2⟩ := info_parts infoSt
  have HD := hide hD
  have HR := hide hr
  have HZ := hide (pn_sz hz)
  have hn : n ≤ 1048576 := by rw [← hD]; exact (pn_sz hz).1
  clear hr hD hz
  by_cases hs : 1 ≤ n ∧ n ≤ 40
  · obtain ⟨g1, g2⟩ := hs
    have g3 : (1 : Int) ≤ n := by omega
    have g4 : (n : Int) ≤ 40 := by omega
    obtain ⟨b, off, rfl, hbs, hrow⟩ := HR.out (by rw [HD.out]; omega)
    have HRW := hide hrow
    clear hrow
    go_enter Tryd.func53, Tryd.ntmps53
    go_wp2
    go_loopw [3, 20] (fun sv iv wr => ∃ (i : Nat) (ad : Option Addr) (c : Nat), i ≤ n ∧ iv = .int .i64 i ∧ sv = .slice ad i c ∧ wr.ownsRow w.heap.size 98 2 (.slice ad i c) i (stL D i) ∧ Below w.heap.size w wr ∧ Hid (∀ j, j < i → nodeB D j = true) ∧ Hid (∀ j, j < i → ∃ f, tr D j = some f)) (fun _ iv _ => n - (intOf iv).toNat)
    case atStart => exact ⟨0, none, 0, Nat.zero_le _, rfl, rfl, ⟨rfl, .inl ⟨rfl, rfl⟩⟩, Below.refl _ _, hide (fun j h => by omega), hide (fun j h => by omega)⟩
    case round =>
      obtain ⟨i, sa, sc, hil, rfl, rfl, ho, hb, HM, HT⟩ := hrel
      have HO := hide ho
      by_cases hlt : i < n
      · obtain ⟨ad, cp, hc, hat, hcp⟩ := HRW.out i (by rw [HD.out]; omega)
        obtain ⟨c0, c1, c2, c3⟩ := pnCells_go hc hbs hb
        have HB := hide hb
        have HA := hide (rwAt_up (rwAt_go hat hb) hb.size)
        obtain ⟨z1, z2⟩ := HZ.out.2 i (by rw [HD.out]; omega)
        have HZ1 : Hid ((D.NM i).size ≤ maxLen) := hide (by unfold maxLen; omega)
        have hin : (i : Int) < (n : Int) := by omega
        have HST := hide (fun (o : Obj) => (Below.refl wr.heap.size wr).alloc (Nat.le_refl _) o)
        have CS := hide (fun (W : World) (hW : Below wr.heap.size wr W) => i_stem D i sa sc ad (D.KL i).length cp W rfl (by omega) z2 (stAt_up (stAt_go (own_st HO.out) hW) hW.size) (rwAt_up (rwAt_go HA.out hW) hW.size) HT.out (D.K i) (D.OC i) (D.NM i))
        have CN := hide (fun (W : World) => i_nodeOk (D.K i) (D.NM i) ad (D.KL i).length cp (D.OC i) W HZ1.out z2)
        have HX1 : Hid (CellsAt (wr.alloc (.cells #[.int .i64 (D.K i), .string (D.NM i), .slice ad (D.KL i).length cp, .int .i64 (D.OC i)] 34)) wr.heap.size #[.int .i64 (D.K i), .string (D.NM i), .slice ad (D.KL i).length cp, .int .i64 (D.OC i)]) := hide (cellsAt_new wr _ _)
        have HNB : Hid (nodeB D i = ndB (D.K i) (D.NM i) (D.KL i).length (D.OC i)) := hide rfl
        clear hc hat hb ho hcp z1
        cases ht : tr D i with
        | none =>
          have HN := hide (pk_tree (D := D) (k := i) (by rw [HD.out]; exact hlt) ht)
          have hsf : stF D i = 0 := by unfold stF; rw [ht]
          have hsg : stG D i = 0 := by unfold stG; rw [ht]
          rw [ht, hsf, hsg] at CS
          simp only [Option.isSome] at CS
          clear hsf hsg
          go_wp2_with fail
          refine (CS.out _ (HST.out _)).mono ?_
          rintro e w2 ⟨rfl, hb2⟩
          have HB2 := hide ((HB.out.alloc HB.out.size _).trans (hb2.mono (by simp; have := HB.out.size; omega)))
          clear hb2
          go_wp2
          go_ret
          exact ⟨ret_bool HN.out.symm, HB2.out.alloc HB2.out.size _⟩
        | some f =>
          have HTN : Hid (∀ j, j < i + 1 → ∃ f, tr D j = some f) := hide (fun j hj => by
            by_cases e : j = i
            · subst e; exact ⟨f, ht⟩
            · exact HT.out j (by omega))
          have HSL : Hid (stL D (i + 1) = stL D i ++ [.int .i64 (stF D i), .int .i64 (stG D i)]) := hide rfl
          rw [ht] at CS
          simp only [Option.isSome] at CS
          obtain ⟨F, hF⟩ : ∃ F, stF D i = F := ⟨_, rfl⟩
          obtain ⟨G, hG⟩ : ∃ G, stG D i = G := ⟨_, rfl⟩
          rw [hF, hG] at CS HSL
          clear hF hG
          go_wp2_with fail
          refine (CS.out _ (HST.out _)).mono ?_
          rintro e w2 ⟨rfl, hb2⟩
          have hb02 : Below wr.heap.size wr w2 := (HST.out _).trans (hb2.mono (by simp))
          have HX2 := hide (cellsAt_go HX1.out hb2 (by simp))
          have HO2 := hide (gOwn_after HO.out hb02)
          have HB2 := hide (HB.out.trans (hb02.mono HB.out.size))
          have HS2 := hide (cellsAt_new w2 #[.int .i64 F, .int .i64 G] 98)
          have hal : ∀ o, Below w2.heap.size w2 (w2.alloc o) := fun o => (Below.refl _ _).alloc (Nat.le_refl _) _
          have HAL := hide hal
          have HX3 := hide (cellsAt_go HX2.out (hal (.cells #[.int .i64 F, .int .i64 G] 98)) (cellsAt_lt HX2.out))
          have x0 : (w2.alloc (.cells #[.int .i64 F, .int .i64 G] 98)).cell? ⟨wr.heap.size, 0, none⟩ = some (.int .i64 (D.K i)) := cellsAt_cell HX3.out 0
          have x1 : (w2.alloc (.cells #[.int .i64 F, .int .i64 G] 98)).cell? ⟨wr.heap.size, 1, none⟩ = some (.string (D.NM i)) := cellsAt_cell HX3.out 1
          have x2 : (w2.alloc (.cells #[.int .i64 F, .int .i64 G] 98)).cell? ⟨wr.heap.size, 2, none⟩ = some (.slice ad (D.KL i).length cp) := cellsAt_cell HX3.out 2
          have x3 : (w2.alloc (.cells #[.int .i64 F, .int .i64 G] 98)).cell? ⟨wr.heap.size, 3, none⟩ = some (.int .i64 (D.OC i)) := cellsAt_cell HX3.out 3
          clear hb2 hb02 hal c0 c1 c2 c3
          go_wp2_with fail
          refine (CN.out _).mono ?_
          rintro e w3 ⟨rfl, hb3⟩
          have hb23 : Below w2.heap.size w2 w3 := (HAL.out _).trans (hb3.mono (by simp))
          have HO3 := hide (gOwn_after HO2.out hb23)
          have HB3 := hide (HB2.out.trans (hb23.mono HB2.out.size))
          have HS3 := hide (cellsAt_go HS2.out hb3 (by simp))
          rw [← HNB.out]
          clear hb3 hb23 x0 x1 x2 x3
          cases hnd : nodeB D i
          · have HN := hide (pk_node (D := D) (k := i) (by rw [HD.out]; exact hlt) hnd)
            go_wp2
            go_ret
            exact ⟨ret_bool HN.out.symm, HB3.out⟩
          · have HMN : Hid (∀ j, j < i + 1 → nodeB D j = true) := hide (fun j hj => by
              by_cases e : j = i
              · subst e; exact hnd
              · exact HM.out j (by omega))
            have y0 : w3.cell? ⟨w2.heap.size, 0, none⟩ = some (.int .i64 F) := cellsAt_cell HS3.out 0
            have y1 : w3.cell? ⟨w2.heap.size, 1, none⟩ = some (.int .i64 G) := cellsAt_cell HS3.out 1
            have hs3 : w.heap.size ≤ w3.heap.size := HB3.out.size
            go_wp2_with (first | (at_builtin; refine wpList_append_own _ rfl (.tmp 37) (.tmp 39) 96 rfl w.heap.size 98 i0 (.agg #[.int .i64 0, .int .i64 0]) 2 16 Tryd.underlying96 hi hz0 hz1 hz2 rfl (by decide) _ _ _ rfl (HO3.out.alloc _) ⟨w3.heap.size, 0, none⟩ 1 1 [.int .i64 F, .int .i64 G] rfl rfl (fun j u hj => gTwo_new w3 _ _ _ j u hj) (two_list9 _ _) (by unfold maxLen; omega) (by omega) (by simp; omega) ?_; intro v2 w6 hown2 hgrow2 _; obtain ⟨ad2, c2', hv2⟩ := gOwn_shape hown2; rw [hv2] at hown2 ⊢; clear hv2; have HB6 := hide (gBelow_one HB3.out HO3.out hgrow2); have HO6 := hide hown2; clear hown2 hgrow2))
            go_roundw
            case rel => exact ⟨i + 1, ad2, c2', by omega, by go_num, rfl, by rw [HSL.out]; exact HO6.out, HB6.out, HMN, HTN⟩
            case measure => simp [intOf]; omega
      · have hin : i = n := by omega
        subst hin
        have HALL := hide (pk_all (D := D) (by rw [HD.out]; exact ⟨g1, g2⟩) (by rw [HD.out]; exact HM.out))
        rw [HD.out] at HALL
        obtain ⟨f, hf⟩ := HT.out (i - 1) (by omega)
        have HF : Hid (stF D (i - 1) = (f : Int) ∧ stG D (i - 1) = (dq D (i - 1) : Int) - 1) := hide ⟨by unfold stF; rw [hf], by unfold stG; rw [hf]⟩
        have hfl := tr_le hf
        have hdl := dq_le D (i - 1)
        obtain ⟨b9, off9, rfl, hb9, hc9⟩ := own_st ho (by omega)
        obtain ⟨y0, y1⟩ := hc9 (i - 1) (by omega)
        rw [HF.out.1] at y0
        rw [HF.out.2] at y1
        obtain ⟨ad, cp, hc, hat, hcp⟩ := HRW.out (i - 1) (by rw [HD.out]; omega)
        obtain ⟨c0, c1, c2, c3⟩ := pnCells_go hc hbs hb
        have htl : ((i : Int) - 1).toNat = i - 1 := by omega
        have hlt1 : ((i : Int) - 1) < (i : Int) := by omega
        have hge1 : (0 : Int) ≤ ((i : Int) - 1) := by omega
        have HG : Hid (groupB D (i - 1) = decide (D.K (i - 1) = 2 ∨ D.K (i - 1) = 3)) := hide rfl
        obtain ⟨K, hK⟩ : ∃ K, D.K (i - 1) = K := ⟨_, rfl⟩
        obtain ⟨Q, hQ⟩ : ∃ Q, dq D (i - 1) = Q := ⟨_, rfl⟩
        rw [hK] at c0 HG
        rw [hQ] at HALL hdl y1
        rw [HG.out, hf] at HALL
        have HB := hide hb
        clear hc hat hcp c1 c2 c3 hc9 hK hQ hb ho hf
        by_cases k2 : K = 2
        · subst k2
          by_cases hf0 : f = 0
          · have hf1 : ((f : Int) == 0) = true := by simp [hf0]
            by_cases hq : Q ≤ 10
            · have hq2 : (Q : Int) - 1 ≤ 9 := by omega
              have HN := hide (show (decide ((some f : Option Nat) = some 0) && decide (Q ≤ 10)) = true by rw [hf0, decide_eq_true hq]; rfl)
              clear hf0
              go_wp2
              go_ret
              exact ⟨ret_bool (by rw [HALL.out]; have := HN.out; simp only [Bool.and_eq_true] at this; rw [this.1, this.2]; simp), HB.out⟩
            · have hq2 : ¬ (Q : Int) - 1 ≤ 9 := by omega
              clear hf0
              go_wp2
              go_ret
              exact ⟨ret_bool (by rw [HALL.out, decide_eq_false hq]; simp; try omega), HB.out⟩
          · have hf1 : ((f : Int) == 0) = false := by simp; omega
            have HN := hide (show decide ((some f : Option Nat) = some 0) = false from decide_eq_false (fun h => hf0 (by simpa using h)))
            clear hf0
            go_wp2
            go_ret
            exact ⟨ret_bool (by rw [HALL.out, HN.out]; simp), HB.out⟩
        · have f2 : (K == 2) = false := by simpa using k2
          by_cases k3 : K = 3
          · subst k3
            clear k2
            by_cases hf0 : f = 0
            · have hf1 : ((f : Int) == 0) = true := by simp [hf0]
              by_cases hq : Q ≤ 10
              · have hq2 : (Q : Int) - 1 ≤ 9 := by omega
                have HN := hide (show (decide ((some f : Option Nat) = some 0) && decide (Q ≤ 10)) = true by rw [hf0, decide_eq_true hq]; rfl)
                clear hf0
                go_wp2
                go_ret
                exact ⟨ret_bool (by rw [HALL.out]; have := HN.out; simp only [Bool.and_eq_true] at this; rw [this.1, this.2]; simp), HB.out⟩
              · have hq2 : ¬ (Q : Int) - 1 ≤ 9 := by omega
                clear hf0
                go_wp2
                go_ret
                exact ⟨ret_bool (by rw [HALL.out, decide_eq_false hq]; simp; try omega), HB.out⟩
            · have hf1 : ((f : Int) == 0) = false := by simp; omega
              have HN := hide (show decide ((some f : Option Nat) = some 0) = false from decide_eq_false (fun h => hf0 (by simpa using h)))
              clear hf0
              go_wp2
              go_ret
              exact ⟨ret_bool (by rw [HALL.out, HN.out]; simp), HB.out⟩
          · have f3 : (K == 3) = false := by simpa using k3
            have HN := hide (show decide (K = 2 ∨ K = 3) = false from decide_eq_false (fun h => h.elim k2 k3))
            clear k2 k3
            go_wp2
            go_ret
            exact ⟨ret_bool (by rw [HALL.out, HN.out]; simp), HB.out⟩
  · have e := pk_size (D := D) (by rw [HD.out]; exact hs)
    rw [e]
    by_cases g : n = 0
    · go_enter Tryd.func53, Tryd.ntmps53
      go_wp2
      go_ret
      exact ⟨rfl, Below.refl _ _⟩
    · have g2 : (40 : Int) < (n : Int) := by omega
      go_enter Tryd.func53, Tryd.ntmps53
      go_wp2
      go_ret
      exact ⟨rfl, Below.refl _ _⟩
end Go.Proofs.YtfohfljdgmlibaaDoor

/-
  Contract: the ways of a model (the program's).
-/
namespace Go.Proofs.YtfohfljdgmlibaaDoor
open Go.RowKit Go.Joins
set_option linter.unusedVariables false
set_option linter.unusedSimpArgs false
/-- The ways of a right model. -/
def TkOf (D : Pn) (F : Nat → Nat) (e : Nat) : Prop := (∀ p : Nat, p < 40 → F p < 1099511627776 ∧ ∀ q : Nat, (F p).testBit q = true ↔ lk D (D.n - 1) p q) ∧ BitS (F 40) (ed D false (D.n - 1)) ∧ ∃ l, BitS l (ed D true (D.n - 1)) ∧ e = thL (nl D (D.n - 1)) l 1099511627776
/-- New ways. -/
def tkN (mv : Value) : Array Value := tkC mv (fun _ => 0) 0
theorem tk_info : (Tryd.prog.info? 55).map (fun i => (i.zero, i.size)) = some (some (.agg (tkN (.slice none 0 0))), 43) := by kernel_rfl
theorem tk_zero : ∀ w, (zeroValue 55).run Tryd.prog w = .ok (.agg (tkN (.slice none 0 0))) w := (zero_of_info tk_info).1
theorem tk_size : (Tryd.prog.info? 55).map (·.size) = some 43 := (zero_of_info tk_info).2
theorem tkN_set (mv : Value) : (tkN (.slice none 0 0)).setIfInBounds 0 mv = tkN mv := by
  apply Array.ext_getElem?
  intro i
  rw [Array.getElem?_setIfInBounds]
  unfold tkN
  by_cases hi : 0 = i
  · subst hi
    rw [if_pos rfl, if_pos (by rw [tkC_size]; decide), tkC_get _ _ _ _ (by decide)]
    rfl
  · rw [if_neg hi]
    by_cases h1 : i < 43
    · rw [tkC_get _ _ _ _ h1, tkC_get _ _ _ _ h1]
      unfold tkV
      rw [if_neg (show ¬ i = 0 from fun e => hi e.symm), if_neg (show ¬ i = 0 from fun e => hi e.symm)]
    · rw [Array.getElem?_eq_none (by rw [tkC_size]; omega), Array.getElem?_eq_none (by rw [tkC_size]; omega)]
theorem tkC_one (a : Option Addr) (n cap : Nat) (F : Nat → Nat) (e : Nat) : (tkC (.slice a n cap) F e).all (·.oneCell') = true := by
  unfold tkC
  rw [Array.all_map, Array.all_eq_true]
  intro i hi
  unfold tkV
  simp only [Function.comp]
  split
  · rfl
  · split <;> rfl
theorem tkC_end (mv : Value) (F : Nat → Nat) (e e' : Nat) : (tkC mv F e).setIfInBounds 42 (.int .u64 (e' : Int)) = tkC mv F e' := by
  apply Array.ext_getElem?
  intro i
  rw [Array.getElem?_setIfInBounds]
  by_cases hi : 42 = i
  · subst hi
    rw [if_pos rfl, if_pos (by rw [tkC_size]; decide), tkC_get _ _ _ _ (by decide)]
    rfl
  · rw [if_neg hi]
    by_cases h1 : i < 43
    · rw [tkC_get _ _ _ _ h1, tkC_get _ _ _ _ h1]
      unfold tkV
      rw [if_neg (show ¬ i = 42 from fun e => hi e.symm), if_neg (show ¬ i = 42 from fun e => hi e.symm)]
    · rw [Array.getElem?_eq_none (by rw [tkC_size]; omega), Array.getElem?_eq_none (by rw [tkC_size]; omega)]
theorem tkN_ne : ¬ tkN (.slice none 0 0) = #[] := fun h => by
  have := congrArg Array.size h
  unfold tkN at this
  rw [tkC_size] at this
  simp at this
theorem mem_start (p : Nat) : (p : Int) ∈ bts 1099511627776 ↔ p = 40 := by
  rw [bts_mem (1099511627776 + 1) 1099511627776 (by decide) (by decide)]
  have h : ∀ j : Nat, (1099511627776 : Nat).testBit j = true ↔ 40 = j := fun j => by
    rw [show (1099511627776 : Nat) = 2 ^ 40 by decide, Nat.testBit_two_pow, decide_eq_true_eq]
  constructor
  · rintro ⟨j, e, hj⟩
    have := (h j).1 hj
    omega
  · rintro rfl
    exact ⟨40, rfl, (h 40).2 rfl⟩
/-- The ways, once the beginning is led to where rows of the model begin. -/
theorem tkOf_end {D : Pn} {n : Nat} (hD : D.n = n) (hn : 1 ≤ n ∧ n ≤ 40) (hlo : Lo D (n - 1)) {f l : Nat} {F1 : Nat → Nat} (hf : BitS f (ed D false (n - 1))) (hl : BitS l (ed D true (n - 1))) (h : LkB (fun _ => 0) F1 (lk D (n - 1))) : TkOf D (lkU F1 (bts 1099511627776) f) (thL (nl D (n - 1)) l 1099511627776) := by
  subst hD
  refine ⟨fun p hp => ?_, ?_, l, hl, rfl⟩
  · have e : lkU F1 (bts 1099511627776) f p = F1 p := by
      unfold lkU
      rw [if_neg (by rw [mem_start]; omega)]
    rw [e]
    refine ⟨(h p (by omega)).1, fun q => ?_⟩
    rw [(h p (by omega)).2 q]
    simp
  · have e : lkU F1 (bts 1099511627776) f 40 = F1 40 ||| f := by
      unfold lkU
      rw [if_pos ((mem_start 40).2 rfl)]
    rw [e]
    refine ⟨or_lt40 (h 40 (by omega)).1 hf.1, fun q => ?_⟩
    rw [Nat.testBit_or, Bool.or_eq_true, (h 40 (by omega)).2 q, hf.2 q]
    constructor
    · rintro ((h9 | h9) | h9)
      · simp at h9
      · exfalso
        obtain ⟨j, hj, h8⟩ := lk_node (D.n - 1 + 1) (D.n - 1) (by omega) hlo h9
        rcases h8 with ⟨-, h8, -⟩ | ⟨-, L1, a, L2, b, L3, e9, -, h8, -⟩
        · have := ed_range (j + 1) j (by omega) (lo_less hlo hj) _ h8
          omega
        · have hk := hlo j hj a (by rw [e9]; simp)
          have := ed_range (a.toNat + 1) a.toNat (by omega) (lo_less hlo (by omega)) _ h8
          omega
      · exact h9
    · exact .inr
theorem boxes2 (w : World) (a b : Array Value) (t1 t2 : TypeId) : CellsAt ((w.alloc (.cells a t1)).alloc (.cells b t2)) w.heap.size a ∧ CellsAt ((w.alloc (.cells a t1)).alloc (.cells b t2)) (w.heap.size + 1) b ∧ Below w.heap.size w ((w.alloc (.cells a t1)).alloc (.cells b t2)) := by
  have b1 : Below (w.alloc (.cells a t1)).heap.size (w.alloc (.cells a t1)) ((w.alloc (.cells a t1)).alloc (.cells b t2)) := (Below.refl _ _).alloc (Nat.le_refl _) _
  refine ⟨cellsAt_go (cellsAt_new w a t1) b1 (by simp), ?_, ?_⟩
  · have := cellsAt_new (w.alloc (.cells a t1)) b t2
    simpa using this
  · iterate 2 (refine Below.alloc ?_ (by simp; try omega) _)
    exact Below.refl _ _
set_option maxRecDepth 100000 in
set_option maxHeartbeats 8000000 in
theorem i_tracks (D : Pn) (n : Nat) (a : Option Addr) (cap : Nat) (w : World) (hD : D.n = n) (hz : pnTot D ≤ 1048576) (hr : PnAt w a D w.heap.size) (hpk : pkB D = true) (hT : TzT w) :
    Calls Tryd.prog 34 #[.slice a n cap] w fun r w' => ∃ F e, r = .returned (.tuple #[.agg (tkC (.slice a n cap) F e), .bool true]) ∧ TkOf D F e ∧ Below w.heap.size w w' := by
  have HR := hide hr
  have HT := hide hT
  have HP := hide (fun (W : World) (hW : Below w.heap.size w W) => i_particle D n a cap W hD hz (pnAt_up (pnAt_go hr hW) hW.size))
  rw [hpk] at HP
  have HRN := hide (rn_of hD hpk hz)
  have hn1 : 1 ≤ n ∧ n ≤ 40 := by rw [← hD]; exact (pk_facts hpk).1
  have HD := hide hD
  have HPK := hide hpk
  clear hr hD hz hpk hT
  have CN := hide (fun (W : World) => i_only 40 W (by omega))
  have HX := hide (boxes2 w #[.slice a n cap] (tkN (.slice none 0 0)) 24 55)
  have hz := tk_zero
  have hne := tkN_ne
  have HS1 : Hid ((Tryd.prog.info? 55).map (·.size) = some (tkN (.slice a n cap)).size) := hide (by unfold tkN; rw [tkC_size]; exact tk_size)
  have HS2 : Hid ((tkN (.slice none 0 0)).size = (tkN (.slice a n cap)).size) := hide (by unfold tkN; rw [tkC_size, tkC_size])
  have HS3 : Hid ((tkN (.slice a n cap)).all (·.oneCell') = true) := hide (tkC_one a n cap _ _)
  have HTB : Hid (∀ (w1 : World) (o : Obj), ((w1.alloc o).alloc (.cells #[.nilFunc] 81)).heap[w1.heap.size + 1]? = some (.cells #[.nilFunc] 81 (0, 0))) := hide (fun w1 o => by have := heap_alloc_new (w1.alloc o) (.cells #[.nilFunc] 81); simpa using this)
  have HTS : Hid (∀ (w1 : World) (o : Obj) (v : Value), ((w1.alloc o).alloc (.cells #[.nilFunc] 81)).setRow (w1.heap.size + 1) #[v] = (w1.alloc o).alloc (.cells #[v] 81)) := hide (fun w1 o v => by have := World.setRow_alloc_new (w1.alloc o) #[.nilFunc] #[v] 81; simpa using this)
  have HS4 : Hid ((Tryd.prog.info? 81).map (·.size) = some 1) := hide (by kernel_rfl)
  go_enter Tryd.func34, Tryd.ntmps34
  go_wp2_with (first
    | (go_at_call 53; refine (HP.out _ HX.out.2.2).mono ?_; rintro r w1 ⟨rfl, hb1⟩; have HP1 := hide (cellsAt_go HX.out.1 hb1 (cellsAt_lt HX.out.1)); have HR1 := hide (cellsAt_go HX.out.2.1 hb1 (cellsAt_lt HX.out.2.1)); have HB1 := hide (HX.out.2.2.trans (hb1.mono HX.out.2.2.size)); clear hb1; have p0 := cellsAt_cell HP1.out 0; simp only [List.getElem?_toArray, List.getElem?_cons_zero] at p0; have hw1 : w.heap.size < w1.heap.size := cellsAt_lt HP1.out)
    | (go_at_call 35; refine (CN.out _).mono ?_; rintro r9 w9 ⟨rfl, h9⟩; rw [h9]; clear h9 w9)
    | (refine wpList_store_row rfl 55 _ _ rfl w1.heap.size ((tkN (.slice none 0 0)).setIfInBounds 0 (.slice a n cap)) rfl rfl 55 _ (heap_alloc_last w1 _) (by rw [tkN_set]; exact HS1.out) (by rw [tkN_set]; exact HS2.out) (by rw [tkN_set]; exact HS3.out) ?_; rw [World.setRow_alloc_new, tkN_set])
    | (refine wpList_store_one rfl 81 _ _ rfl (w1.heap.size + 1) rfl rfl 81 .nilFunc (HTB.out w1 _) HS4.out ?_; rw [HTS.out]))
  have HY := hide (boxes3 w1 (tkN (.slice a n cap)) #[tellV w.heap.size w1.heap.size (w1.heap.size + 1)] #[.bool false, .int .u64 1099511627776, .int .u64 1099511627776] 55 81 83)
  unfold tellV at HY
  obtain ⟨wr, hwr⟩ : ∃ wr, (((w1.alloc (.cells (tkN (.slice a n cap)) 55)).alloc (.cells #[.func (.func 66) #[] #[.pointer (some ⟨w.heap.size, 0, none⟩), .pointer (some ⟨w1.heap.size, 0, none⟩), .pointer (some ⟨w1.heap.size + 1, 0, none⟩)]] 81)).alloc (.cells #[.bool false, .int .u64 1099511627776, .int .u64 1099511627776] 83)) = wr := ⟨_, rfl⟩
  rw [hwr] at HY ⊢
  have hB := HB1.out.trans (HY.out.2.2.2.mono (Nat.le_of_lt hw1))
  obtain ⟨b0, off, rfl, hb0, hrow⟩ := (pnAt_go HR.out hB) (by rw [HD.out]; omega)
  have hW : TkW wr D n b0 off cap w.heap.size w1.heap.size (w1.heap.size + 1) w.heap.size := ⟨tzT_go HT.out hB (Nat.le_refl _), cellsAt_go HP1.out HY.out.2.2.2 hw1, HY.out.2.1, hrow, hb0, Nat.le_of_lt hw1, hB.size, World.block_lt_of_cell? _ _ (HT.out 0 (by decide)), by omega, by omega⟩
  have HW := hide hW
  have HSB := hide HY.out.2.2.1
  have HC0 : Hid (CellsAt wr w1.heap.size (tkC (.slice (some ⟨b0, off, none⟩) n cap) (fun _ => 0) 0)) := hide HY.out.1
  have hTl := cellsAt_lt HC0.out
  have hw2 := cellsAt_lt HR1.out
  have HR2 := hide (cellsAt_go HR1.out HY.out.2.2.2 (cellsAt_lt HR1.out))
  have HB2 := hide hB
  have p0 := cellsAt_cell hW.pb 0
  have t0 := cellsAt_cell hW.tb 0
  have s0 := cellsAt_cell HSB.out 0
  have s1 := cellsAt_cell HSB.out 1
  have s2 := cellsAt_cell HSB.out 2
  simp only [List.getElem?_toArray, List.getElem?_cons_zero, List.getElem?_cons_succ] at p0 t0 s0 s1 s2
  unfold tellV at t0
  have hnn : (n : Int) - 1 = ((n - 1 : Nat) : Int) := by omega
  have CI := hide (i_tell D n b0 off cap w.heap.size w1.heap.size (w1.heap.size + 1) w.heap.size HRN.out (.slice (some ⟨b0, off, none⟩) n cap) 0 n (n - 1) (by omega) (by omega) (fun _ => 0) wr.drew (tkW_drew hW) HC0.out (fun _ _ => by decide))
  have hwp : IntKind.i64.wrap ((n - 1 : Nat) : Int) = ((n - 1 : Nat) : Int) := by rw [IntKind.wrap_i64]; omega
  have hfd : ∀ (x y z : Value) (W : World), (Instr.field 83 (.agg #[x, y, z]) 2).run Tryd.prog W = .ok z W := fun _ _ _ _ => by kernel_rfl
  clear hB hwr hrow hW hz hne HY HX HS1 HS2 HS3 HS4 HTB HTS HP HT HR
  go_region_with (first
    | (go_at_call 66; refine CI.out.mono ?_; rintro r w2 ⟨fk, lk9, F2, rfl, hfk, hlk, hLk, hC2, hg2⟩; have HFK := hide hfk; have HLK := hide hlk; have HL2 := hide hLk; have HC2 := hide hC2; have HG2 := hide hg2; have HW2 := hide (tkW_go (tkW_drew HW.out) hg2); have HSB2 := hide (cellsAt_grown (show CellsAt wr.drew _ _ from HSB.out) hg2 (by omega)); have HRR2 := hide (cellsAt_grown (show CellsAt wr.drew _ _ from HR2.out) hg2 (by omega)); have s0 := cellsAt_cell HSB2.out 0; have s1 := cellsAt_cell HSB2.out 1; have s2 := cellsAt_cell HSB2.out 2; simp only [List.getElem?_toArray, List.getElem?_cons_zero, List.getElem?_cons_succ] at s0 s1 s2; clear hfk hlk hLk hC2 hg2)
    | (go_at_call 67; have CJ := i_joined w1.heap.size false 1099511627776 1099511627776 (nl D (n - 1)) fk lk9 (.slice (some ⟨b0, off, none⟩) n cap) F2 0 w2 (by decide) (by decide) (Nat.lt_of_lt_of_le HFK.out.1 (by decide)) (Nat.lt_of_lt_of_le HLK.out.1 (by decide)) (lkB_lt HL2.out) HW2.out.tz HC2.out; unfold paV at CJ; refine CJ.mono ?_; clear CJ; rintro r w3 ⟨rfl, hC3, hg3⟩; have HC3 := hide hC3; have HG3 := hide (grown_trans9 HG2.out hg3); have HR3 := hide (cellsAt_grown HRR2.out hg3 (by omega)); have e0 := (cellsAt_cell HC3.out 42).trans (tkC_get _ _ _ 42 (by decide)); have ez := cellsAt_frozen HC3.out 42; clear hC3 hg3))
  all_goals
    have hend := tkOf_end HD.out hn1 (fun j hj => HRN.out.2.2.2.1 j (by omega)) HFK.out HLK.out HL2.out
    have HEND := hide hend
    clear hend
    obtain ⟨ee, hee⟩ : ∃ ee, thL (nl D (n - 1)) lk9 1099511627776 = ee := ⟨_, rfl⟩
    rw [hee] at HEND ⊢
    obtain ⟨FF, hFF⟩ : ∃ FF, lkU F2 (bts 1099511627776) fk = FF := ⟨_, rfl⟩
    rw [hFF] at HEND HC3
    have h4 := cellsAt_set (i := 42) HC3.out (.int .u64 (ee : Int))
    rw [tkC_end] at h4
    have h5 := cellsAt_far (p := ⟨w1.heap.size, 42, none⟩) HR3.out (.int .u64 (ee : Int)) (by simp only []; omega)
    have hb4 : Below w.heap.size w (w3.setCell ⟨w1.heap.size, 42, none⟩ (.int .u64 (ee : Int))) := (HB2.out.drew.trans (grown_below (w := wr.drew) HG3.out (Nat.le_of_lt hw1) (Nat.le_of_lt (Nat.lt_trans hw1 hTl)))).setCell (by simp only []; omega) _
    obtain ⟨w4, hw4⟩ : ∃ w4, w3.setCell ⟨w1.heap.size, 42, none⟩ (.int .u64 (ee : Int)) = w4 := ⟨_, rfl⟩
    rw [hw4] at h4 h5 hb4 ⊢
    obtain ⟨tt, h4⟩ := h4
    obtain ⟨tr9, h5⟩ := h5
    have hsz : (Tryd.prog.info? 55).map (·.size) = some (tkC (.slice (some ⟨b0, off, none⟩) n cap) FF ee).size := by rw [tkC_size]; exact tk_size
    have hzz : (tkN (.slice none 0 0)).size = (tkC (.slice (some ⟨b0, off, none⟩) n cap) FF ee).size := by unfold tkN; rw [tkC_size, tkC_size]
    have hall := tkC_one (some ⟨b0, off, none⟩) n cap FF ee
    have HB4 := hide hb4
    have H5 := hide (setRow_heap w4 _ _ (tkC (.slice (some ⟨b0, off, none⟩) n cap) FF ee) _ _ h5)
    clear hw4 hee hFF hb4 s0 s1 s2 t0 p0 e0 ez hfd
    obtain ⟨R, hR⟩ : ∃ R, tkC (.slice (some ⟨b0, off, none⟩) n cap) FF ee = R := ⟨_, rfl⟩
    have HRR := hide hR
    rw [hR] at h4 hsz hzz hall H5
    clear hR
    go_wp2_with (first | (refine wpList_load_row rfl 55 _ rfl w1.heap.size rfl tt _ (0, 0) _ h4 Tryd.underlying55 rfl hsz ?_) | (refine wpList_store_row rfl 55 _ _ rfl (w.heap.size + 1) _ rfl rfl tr9 _ h5 hsz hzz hall ?_))
    exact bodyPost_ret (v := .tuple #[.agg R, .bool true]) (by rw [results_cell_tmp Tryd.results34]; simp [asAddr, run_loadVar_row _ (w.heap.size + 1) tr9 55 R (0, 0) _ H5.out Tryd.underlying55 rfl hsz]) rfl ⟨FF, ee, by rw [HRR.out], HEND.out, below_setRow HB4.out (by omega) R⟩
end Go.Proofs.YtfohfljdgmlibaaDoor
