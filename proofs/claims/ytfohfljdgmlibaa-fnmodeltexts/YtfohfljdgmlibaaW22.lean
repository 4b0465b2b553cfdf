/-
  Contract: which rows of nodes are right models, by the program.
-/
import Derived.Test.YtfohfljdgmlibaaW21
namespace Go.Proofs.Ytfohfljdgmlibaa
open Go.RowKit Go.Joins
set_option linter.unusedVariables false
set_option linter.unusedSimpArgs false
/-- The stems of the first i nodes, as cells. -/
def stL (D : Pn) : Nat → List Value
  | 0 => []
  | i + 1 => stL D i ++ [.int .i64 (stF D i), .int .i64 (stG D i)]
theorem stL_len (D : Pn) : ∀ i, (stL D i).length = i * 2
  | 0 => rfl
  | i + 1 => by rw [stL, List.length_append, stL_len D i]; simp; omega
theorem stL_at (D : Pn) : ∀ (i j : Nat), j < i → (stL D i)[j * 2]? = some (.int .i64 (stF D j)) ∧ (stL D i)[j * 2 + 1]? = some (.int .i64 (stG D j))
  | 0, j, h => by omega
  | i + 1, j, h => by
    have hl := stL_len D i
    rw [stL]
    by_cases e : j = i
    · subst e
      rw [List.getElem?_append_right (by omega), List.getElem?_append_right (by omega), hl]
      simp
    · have := stL_at D i j (by omega)
      rw [List.getElem?_append_left (by omega), List.getElem?_append_left (by omega)]
      exact this
theorem own_st {w : World} {B i c : Nat} {ad : Option Addr} {t : TypeId} {D : Pn} (h : w.ownsRow B t 2 (.slice ad i c) i (stL D i)) : StAt w ad D i w.heap.size := fun h0 => by
  rcases h.2 with ⟨-, hz⟩ | ⟨g, cap, cur, hv, hB, hh, -⟩
  · omega
  · simp only [Value.slice.injEq] at hv
    obtain ⟨rfl, -, rfl⟩ := hv
    refine ⟨g, 0, rfl, (Array.getElem?_eq_some_iff.1 hh).1, fun j hj => ⟨?_, ?_⟩⟩
    · rw [Nat.zero_add, h.cellAt (j * 2) (by omega)]; exact (stL_at D i j hj).1
    · rw [Nat.zero_add, h.cellAt (j * 2 + 1) (by omega)]; exact (stL_at D i j hj).2
theorem infoSt : (Try.prog.info? 48).map (fun i => (i.zero, i.size, i.bytes)) = some (some (.agg #[.int .i64 0, .int .i64 0]), 2, 16) := by kernel_rfl
theorem two_new9 (w : World) (x y : Value) (T : TypeId) (j : Nat) (u : Value) (hj : [x, y][j]? = some u) : (w.alloc (.cells #[x, y] T)).cell? ((⟨w.heap.size, 0, none⟩ : Addr).add j) = some u := gTwo_new w x y T j u hj
theorem two_list9 (x y : Int) : ∀ u ∈ [Value.int .i64 x, Value.int .i64 y], u.oneCell' = true := by
  intro u hu
  simp at hu
  rcases hu with rfl | rfl <;> rfl
set_option maxRecDepth 100000 in
set_option maxHeartbeats 8000000 in
theorem i_particle9 (D : Pn) (n : Nat) (a : Option Addr) (cap : Nat) (w : World) (hD : D.n = n) (hz : D.n ≤ 1048576 ∧ ∀ j, j < D.n → (D.NM j).size ≤ 1048576 ∧ (D.KL j).length ≤ 1048576) (hr : PnAt w a D w.heap.size) :
    Calls Try.prog 11 #[.slice a n cap] w fun e w' => e = .returned (.bool (pkB D)) ∧ Below w.heap.size w w' := by
  obtain ⟨i0, hi, hz0, hz1, hz2⟩ := info_parts infoSt
  have HD := hide hD
  have HR := hide hr
  have HZ := hide hz
  have hn : n ≤ 1048576 := by rw [← hD]; exact hz.1
  clear hr hD hz
  by_cases hs : 1 ≤ n ∧ n ≤ 40
  · obtain ⟨g1, g2⟩ := hs
    have g3 : (1 : Int) ≤ n := by omega
    have g4 : (n : Int) ≤ 40 := by omega
    obtain ⟨b, off, rfl, hbs, hrow⟩ := HR.out (by rw [HD.out]; omega)
    have HRW := hide hrow
    clear hrow
    go_enter Try.func11, Try.ntmps11
    go_wp2
    go_loopw [3, 20] (fun sv iv wr => ∃ (i : Nat) (ad : Option Addr) (c : Nat), i ≤ n ∧ iv = .int .i64 i ∧ sv = .slice ad i c ∧ wr.ownsRow w.heap.size 48 2 (.slice ad i c) i (stL D i) ∧ Below w.heap.size w wr ∧ Hid (∀ j, j < i → nodeB D j = true) ∧ Hid (∀ j, j < i → ∃ f, tr D j = some f)) (fun _ iv _ => n - (intOf iv).toNat)
    case atStart => exact ⟨0, none, 0, Nat.zero_le _, rfl, rfl, ⟨rfl, .inl ⟨rfl, rfl⟩⟩, Below.refl _ _, hide (fun j h => by omega), hide (fun j h => by omega)⟩
    case round =>
      obtain ⟨i, sa, sc, hil, rfl, rfl, ho, hb, HM, HT⟩ := hrel
      have HO := hide ho
      by_cases hlt : i < n
      · obtain ⟨ad, cp, hc, hat, hcp⟩ := HRW.out i (by rw [HD.out]; omega)
        obtain ⟨c0, c1, c2, c3⟩ := pnCells_go hc hbs hb
        have HB := hide hb
        have HA := hide (rwAt_up (rwAt_go hat hb) hb.size)
        obtain ⟨z1, z2⟩ := HZ.out.2 i (by rw [HD.out]; omega)
        have HZ1 : Hid ((D.NM i).size ≤ maxLen) := hide (by unfold maxLen; omega)
        have hin : (i : Int) < (n : Int) := by omega
        have HST := hide (fun (o : Obj) => (Below.refl wr.heap.size wr).alloc (Nat.le_refl _) o)
        have CS := hide (fun (W : World) (hW : Below wr.heap.size wr W) => i_stem D i sa sc ad (D.KL i).length cp W rfl (by omega) z2 (stAt_up (stAt_go (own_st HO.out) hW) hW.size) (rwAt_up (rwAt_go HA.out hW) hW.size) HT.out (D.K i) (D.OC i) (D.NM i))
        have CN := hide (fun (W : World) => i_nodeOk (D.K i) (D.NM i) ad (D.KL i).length cp (D.OC i) W HZ1.out z2)
        have HX1 : Hid (CellsAt (wr.alloc (.cells #[.int .i64 (D.K i), .string (D.NM i), .slice ad (D.KL i).length cp, .int .i64 (D.OC i)] 46)) wr.heap.size #[.int .i64 (D.K i), .string (D.NM i), .slice ad (D.KL i).length cp, .int .i64 (D.OC i)]) := hide (cellsAt_new wr _ _)
        have HNB : Hid (nodeB D i = ndB (D.K i) (D.NM i) (D.KL i).length (D.OC i)) := hide rfl
        clear hc hat hb ho hcp z1
        cases ht : tr D i with
        | none =>
          have HN := hide (pk_tree (D := D) (k := i) (by rw [HD.out]; exact hlt) ht)
          have hsf : stF D i = 0 := by unfold stF; rw [ht]
          have hsg : stG D i = 0 := by unfold stG; rw [ht]
          rw [ht, hsf, hsg] at CS
          simp only [Option.isSome] at CS
          clear hsf hsg
          go_wp2_with fail
          refine (CS.out _ (HST.out _)).mono ?_
          rintro e w2 ⟨rfl, hb2⟩
          have HB2 := hide ((HB.out.alloc HB.out.size _).trans (hb2.mono (by simp; have := HB.out.size; omega)))
          clear hb2
          go_wp2
          go_ret
          exact ⟨ret_bool HN.out.symm, HB2.out.alloc HB2.out.size _⟩
        | some f =>
          have HTN : Hid (∀ j, j < i + 1 → ∃ f, tr D j = some f) := hide (fun j hj => by
            by_cases e : j = i
            · subst e; exact ⟨f, ht⟩
            · exact HT.out j (by omega))
          have HSL : Hid (stL D (i + 1) = stL D i ++ [.int .i64 (stF D i), .int .i64 (stG D i)]) := hide rfl
          rw [ht] at CS
          simp only [Option.isSome] at CS
          obtain ⟨F, hF⟩ : ∃ F, stF D i = F := ⟨_, rfl⟩
          obtain ⟨G, hG⟩ : ∃ G, stG D i = G := ⟨_, rfl⟩
          rw [hF, hG] at CS HSL
          clear hF hG
          go_wp2_with fail
          refine (CS.out _ (HST.out _)).mono ?_
          rintro e w2 ⟨rfl, hb2⟩
          have hb02 : Below wr.heap.size wr w2 := (HST.out _).trans (hb2.mono (by simp))
          have HX2 := hide (cellsAt_go HX1.out hb2 (by simp))
          have HO2 := hide (gOwn_after HO.out hb02)
          have HB2 := hide (HB.out.trans (hb02.mono HB.out.size))
          have HS2 := hide (cellsAt_new w2 #[.int .i64 F, .int .i64 G] 48)
          have hal : ∀ o, Below w2.heap.size w2 (w2.alloc o) := fun o => (Below.refl _ _).alloc (Nat.le_refl _) _
          have HAL := hide hal
          have HX3 := hide (cellsAt_go HX2.out (hal (.cells #[.int .i64 F, .int .i64 G] 48)) (cellsAt_lt HX2.out))
          have x0 : (w2.alloc (.cells #[.int .i64 F, .int .i64 G] 48)).cell? ⟨wr.heap.size, 0, none⟩ = some (.int .i64 (D.K i)) := cellsAt_cell HX3.out 0
          have x1 : (w2.alloc (.cells #[.int .i64 F, .int .i64 G] 48)).cell? ⟨wr.heap.size, 1, none⟩ = some (.string (D.NM i)) := cellsAt_cell HX3.out 1
          have x2 : (w2.alloc (.cells #[.int .i64 F, .int .i64 G] 48)).cell? ⟨wr.heap.size, 2, none⟩ = some (.slice ad (D.KL i).length cp) := cellsAt_cell HX3.out 2
          have x3 : (w2.alloc (.cells #[.int .i64 F, .int .i64 G] 48)).cell? ⟨wr.heap.size, 3, none⟩ = some (.int .i64 (D.OC i)) := cellsAt_cell HX3.out 3
          clear hb2 hb02 hal c0 c1 c2 c3
          go_wp2_with fail
          refine (CN.out _).mono ?_
          rintro e w3 ⟨rfl, hb3⟩
          have hb23 : Below w2.heap.size w2 w3 := (HAL.out _).trans (hb3.mono (by simp))
          have HO3 := hide (gOwn_after HO2.out hb23)
          have HB3 := hide (HB2.out.trans (hb23.mono HB2.out.size))
          have HS3 := hide (cellsAt_go HS2.out hb3 (by simp))
          rw [← HNB.out]
          clear hb3 hb23 x0 x1 x2 x3
          cases hnd : nodeB D i
          · have HN := hide (pk_node (D := D) (k := i) (by rw [HD.out]; exact hlt) hnd)
            go_wp2
            go_ret
            exact ⟨ret_bool HN.out.symm, HB3.out⟩
          · have HMN : Hid (∀ j, j < i + 1 → nodeB D j = true) := hide (fun j hj => by
              by_cases e : j = i
              · subst e; exact hnd
              · exact HM.out j (by omega))
            have y0 : w3.cell? ⟨w2.heap.size, 0, none⟩ = some (.int .i64 F) := cellsAt_cell HS3.out 0
            have y1 : w3.cell? ⟨w2.heap.size, 1, none⟩ = some (.int .i64 G) := cellsAt_cell HS3.out 1
            have hs3 : w.heap.size ≤ w3.heap.size := HB3.out.size
            go_wp2_with (first | (at_builtin; refine wpList_append_own _ rfl (.tmp 37) (.tmp 39) 43 rfl w.heap.size 48 i0 (.agg #[.int .i64 0, .int .i64 0]) 2 16 Try.underlying43 hi hz0 hz1 hz2 rfl (by decide) _ _ _ rfl (HO3.out.alloc _) ⟨w3.heap.size, 0, none⟩ 1 1 [.int .i64 F, .int .i64 G] rfl rfl (fun j u hj => gTwo_new w3 _ _ _ j u hj) (two_list9 _ _) (by unfold maxLen; omega) (by omega) (by simp; omega) ?_; intro v2 w6 hown2 hgrow2 _; obtain ⟨ad2, c2', hv2⟩ := gOwn_shape hown2; rw [hv2] at hown2 ⊢; clear hv2; have HB6 := hide (gBelow_one HB3.out HO3.out hgrow2); have HO6 := hide hown2; clear hown2 hgrow2))
            go_roundw
            case rel => exact ⟨i + 1, ad2, c2', by omega, by go_num, rfl, by rw [HSL.out]; exact HO6.out, HB6.out, HMN, HTN⟩
            case measure => simp [intOf]; omega
      · have hin : i = n := by omega
        subst hin
        have HALL := hide (pk_all (D := D) (by rw [HD.out]; exact ⟨g1, g2⟩) (by rw [HD.out]; exact HM.out))
        rw [HD.out] at HALL
        obtain ⟨f, hf⟩ := HT.out (i - 1) (by omega)
        have HF : Hid (stF D (i - 1) = (f : Int) ∧ stG D (i - 1) = (dq D (i - 1) : Int) - 1) := hide ⟨by unfold stF; rw [hf], by unfold stG; rw [hf]⟩
        have hfl := tr_le hf
        have hdl := dq_le D (i - 1)
        obtain ⟨b9, off9, rfl, hb9, hc9⟩ := own_st ho (by omega)
        obtain ⟨y0, y1⟩ := hc9 (i - 1) (by omega)
        rw [HF.out.1] at y0
        rw [HF.out.2] at y1
        obtain ⟨ad, cp, hc, hat, hcp⟩ := HRW.out (i - 1) (by rw [HD.out]; omega)
        obtain ⟨c0, c1, c2, c3⟩ := pnCells_go hc hbs hb
        have htl : ((i : Int) - 1).toNat = i - 1 := by omega
        have hlt1 : ((i : Int) - 1) < (i : Int) := by omega
        have hge1 : (0 : Int) ≤ ((i : Int) - 1) := by omega
        have HG : Hid (groupB D (i - 1) = decide (D.K (i - 1) = 2 ∨ D.K (i - 1) = 3)) := hide rfl
        obtain ⟨K, hK⟩ : ∃ K, D.K (i - 1) = K := ⟨_, rfl⟩
        obtain ⟨Q, hQ⟩ : ∃ Q, dq D (i - 1) = Q := ⟨_, rfl⟩
        rw [hK] at c0 HG
        rw [hQ] at HALL hdl y1
        rw [HG.out, hf] at HALL
        have HB := hide hb
        clear hc hat hcp c1 c2 c3 hc9 hK hQ hb ho hf
        by_cases k2 : K = 2
        · subst k2
          by_cases hf0 : f = 0
          · have hf1 : ((f : Int) == 0) = true := by simp [hf0]
            by_cases hq : Q ≤ 10
            · have hq2 : (Q : Int) - 1 ≤ 9 := by omega
              have HN := hide (show (decide ((some f : Option Nat) = some 0) && decide (Q ≤ 10)) = true by rw [hf0, decide_eq_true hq]; rfl)
              clear hf0
              go_wp2
              go_ret
              exact ⟨ret_bool (by rw [HALL.out]; have := HN.out; simp only [Bool.and_eq_true] at this; rw [this.1, this.2]; simp), HB.out⟩
            · have hq2 : ¬ (Q : Int) - 1 ≤ 9 := by omega
              clear hf0
              go_wp2
              go_ret
              exact ⟨ret_bool (by rw [HALL.out, decide_eq_false hq]; simp; try omega), HB.out⟩
          · have hf1 : ((f : Int) == 0) = false := by simp; omega
            have HN := hide (show decide ((some f : Option Nat) = some 0) = false from decide_eq_false (fun h => hf0 (by simpa using h)))
            clear hf0
            go_wp2
            go_ret
            exact ⟨ret_bool (by rw [HALL.out, HN.out]; simp), HB.out⟩
        · have f2 : (K == 2) = false := by simpa using k2
          by_cases k3 : K = 3
          · subst k3
            clear k2
            by_cases hf0 : f = 0
            · have hf1 : ((f : Int) == 0) = true := by simp [hf0]
              by_cases hq : Q ≤ 10
              · have hq2 : (Q : Int) - 1 ≤ 9 := by omega
                have HN := hide (show (decide ((some f : Option Nat) = some 0) && decide (Q ≤ 10)) = true by rw [hf0, decide_eq_true hq]; rfl)
                clear hf0
                go_wp2
                go_ret
                exact ⟨ret_bool (by rw [HALL.out]; have := HN.out; simp only [Bool.and_eq_true] at this; rw [this.1, this.2]; simp), HB.out⟩
              · have hq2 : ¬ (Q : Int) - 1 ≤ 9 := by omega
                clear hf0
                go_wp2
                go_ret
                exact ⟨ret_bool (by rw [HALL.out, decide_eq_false hq]; simp; try omega), HB.out⟩
            · have hf1 : ((f : Int) == 0) = false := by simp; omega
              have HN := hide (show decide ((some f : Option Nat) = some 0) = false from decide_eq_false (fun h => hf0 (by simpa using h)))
              clear hf0
              go_wp2
              go_ret
              exact ⟨ret_bool (by rw [HALL.out, HN.out]; simp), HB.out⟩
          · have f3 : (K == 3) = false := by simpa using k3
            have HN := hide (show decide (K = 2 ∨ K = 3) = false from decide_eq_false (fun h => h.elim k2 k3))
            clear k2 k3
            go_wp2
            go_ret
            exact ⟨ret_bool (by rw [HALL.out, HN.out]; simp), HB.out⟩
  · have e := pk_size (D := D) (by rw [HD.out]; exact hs)
    rw [e]
    by_cases g : n = 0
    · go_enter Try.func11, Try.ntmps11
      go_wp2
      go_ret
      exact ⟨rfl, Below.refl _ _⟩
    · have g2 : (40 : Int) < (n : Int) := by omega
      go_enter Try.func11, Try.ntmps11
      go_wp2
      go_ret
      exact ⟨rfl, Below.refl _ _⟩
theorem i_particle (D : Pn) (n : Nat) (a : Option Addr) (cap : Nat) (w : World) (hD : D.n = n) (hz : pnTot D ≤ 1048576) (hr : PnAt w a D w.heap.size) :
    Calls Try.prog 11 #[.slice a n cap] w fun e w' => e = .returned (.bool (pkB D)) ∧ Below w.heap.size w w' := i_particle9 D n a cap w hD (pn_sz hz) hr
end Go.Proofs.Ytfohfljdgmlibaa
