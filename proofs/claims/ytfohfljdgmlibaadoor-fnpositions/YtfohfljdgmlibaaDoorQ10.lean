/-
  Texts put together: TkT3, TkT4, PkD.
-/
import Derived.Test.YtfohfljdgmlibaaDoorQ8
import Derived.Test.YtfohfljdgmlibaaDoorQ9
import Derived.Test.YtfohfljdgmlibaaDoorPkC
/-
  Contract: what a choice tells.
-/
namespace Go.Proofs.YtfohfljdgmlibaaDoor
open Go.RowKit Go.Joins
set_option linter.unusedVariables false
set_option linter.unusedSimpArgs false
set_option maxRecDepth 100000 in
set_option maxHeartbeats 8000000 in
theorem tell_or (D : Pn) (n b0 off cap PB T TB B0 : Nat) (hRN : RN D n) (mv : Value) (e0 i : Nat) (hi : i < n) (hKK : D.K i = 3) (hIH : ∀ (c : Nat), c < i → ∀ (F : Nat → Nat) (w : World), TkW w D n b0 off cap PB T TB B0 → CellsAt w T (tkC mv F e0) → (∀ p, p < 41 → F p < 1099511627776) →
    Calls Tryd.prog 66 #[.int .i64 c, .pointer (some ⟨PB, 0, none⟩), .pointer (some ⟨T, 0, none⟩), .pointer (some ⟨TB, 0, none⟩)] w (TellA D c T mv F e0 w)) (F : Nat → Nat) (w : World) (hW : TkW w D n b0 off cap PB T TB B0) (hC : CellsAt w T (tkC mv F e0)) (hF : ∀ p, p < 41 → F p < 1099511627776) :
    Calls Tryd.prog 66 #[.int .i64 i, .pointer (some ⟨PB, 0, none⟩), .pointer (some ⟨T, 0, none⟩), .pointer (some ⟨TB, 0, none⟩)] w (TellA D i T mv F e0 w) := by
  have IH := hide hIH
  have HW := hide hW
  have HC := hide hC
  have HF := hide hF
  have HKID := hide (hRN.2.2.2.1 i hi)
  have HLO : Hid (Lo D i) := hide (fun j hj => hRN.2.2.2.1 j (by omega))
  obtain ⟨ad, cp, hc, hat, hcp⟩ := hW.row i (by rw [hRN.1]; exact hi)
  obtain ⟨c0, c1, c2, c3⟩ := hc
  have hin : (i : Int) < (n : Int) := by omega
  have hi00 : (0 : Int) ≤ (i : Int) := by omega
  have hn40 := hRN.2.1
  have hll := hRN.2.2.2.2.2 i hi
  have hoc : 0 ≤ D.OC i ∧ D.OC i ≤ 3 := by
    have h9 := hRN.2.2.1 i hi
    unfold nodeB ndB at h9
    simp only [Bool.and_eq_true, decide_eq_true_eq] at h9
    exact h9.1
  have HEQ := hide (nl_eq (D := D) (i := i) HLO.out)
  have hp0 := cellsAt_cell hW.pb 0
  have hPBl := cellsAt_lt hW.pb
  have hTBl := cellsAt_lt hW.tb
  have hTl := cellsAt_lt hC
  have hb0l : b0 < w.heap.size := Nat.lt_of_lt_of_le hW.hb0 hW.hsz
  simp only [List.getElem?_toArray, List.getElem?_cons_zero] at hp0
  have hK := hKK
  obtain ⟨NM, hNM⟩ : ∃ NM, D.NM i = NM := ⟨_, rfl⟩
  obtain ⟨OC, hOC⟩ : ∃ OC, D.OC i = OC := ⟨_, rfl⟩
  obtain ⟨L, hL⟩ : ∃ L, D.KL i = L := ⟨_, rfl⟩
  rw [hK] at c0 HEQ
  rw [hNM] at c1
  rw [hL] at c2 HKID hat hll HEQ
  rw [hOC] at c3 HEQ hoc
  have HAT := hide hat
  have HK := hide hK
  have HOC := hide hOC
  have HL := hide hL
  clear hW hC hF hIH hKK hat hK hNM hOC hL hRN hcp
  go_enter Tryd.func66, Tryd.ntmps66
  go_wp2
  have HX := hide (boxes3 w #[.bool false, .int .u64 0, .int .u64 0] #[.int .i64 3, .string NM, .slice ad L.length cp, .int .i64 OC] #[.bool false, .int .u64 0, .int .u64 0] 83 34 83)
  obtain ⟨rs, hrs⟩ : ∃ rs : Array Value, #[.bool false, .int .u64 0, .int .u64 0] = rs := ⟨_, rfl⟩
  have HRS := hide hrs
  clear hrs
  go_loopw [45] (fun mv9 wr => ∃ (m : Nat) (e : Bool) (f l : Nat) (F' : Nat → Nat), m ≤ L.length ∧ mv9 = .int .i64 m ∧ Hid (TkB w wr T rs #[.int .i64 3, .string NM, .slice ad L.length cp, .int .i64 OC] e f l mv F' e0) ∧ Hid (e = (L.take m).any fun k => nl D k.toNat) ∧ Hid (BitS f (seqE (fun k => ed D false k.toNat) (fun _ => true) (L.take m))) ∧ Hid (BitS l (seqE (fun k => ed D true k.toNat) (fun _ => true) (L.take m).reverse)) ∧ Hid (LkB F F' (fun p q => ∃ k ∈ L.take m, lk D k.toNat p q))) (fun mv9 _ => L.length - (intOf mv9).toNat)
  case atStart => exact ⟨0, false, 0, 0, F, Nat.zero_le _, rfl, hide ⟨by rw [← HRS.out]; exact HX.out.1, HX.out.2.1, HX.out.2.2.1, cellsAt_go HC.out HX.out.2.2.2 hTl, grown_of HX.out.2.2.2⟩, hide rfl, hide (by rw [List.take_zero]; exact bitS_nil), hide (by rw [List.take_zero]; exact bitS_nil), hide (lkB_refl HF.out (fun p q => by rw [List.take_zero]; rintro ⟨k, hk, -⟩; exact absurd hk (List.not_mem_nil)))⟩
  case round =>
    obtain ⟨m, e, f, l, F', hm, rfl, HB, HE, HBf, HBl, HLk⟩ := hrel
    by_cases hlt : m < L.length
    · obtain ⟨b9, off9, rfl, hb9, hc9⟩ := HAT.out (fun h => by rw [h] at hlt; exact absurd hlt (Nat.not_lt_zero _))
      have hWr := tkW_go HW.out HB.out.2.2.2.2
      have k0 := ((grown_below HB.out.2.2.2.2 HW.out.hB HW.out.hsz).cell (p := ⟨b9, off9 + m, none⟩) hb9).trans (hc9 m hlt)
      have hmi : (m : Int) < (L.length : Int) := by omega
      have hm0 : (0 : Int) ≤ (m : Int) := by omega
      have hkk := HKID.out (L[m]?.getD 0) (by rw [List.getElem?_eq_getElem hlt]; exact List.getElem_mem hlt)
      obtain ⟨v, hv⟩ : ∃ v, L[m]?.getD 0 = v := ⟨_, rfl⟩
      have HLM : Hid (L.take (m + 1) = L.take m ++ [v]) := hide (by rw [List.take_succ_eq_append_getElem hlt, ← hv, List.getElem?_eq_getElem hlt]; rfl)
      rw [hv] at k0 hkk
      obtain ⟨c, rfl⟩ : ∃ c : Nat, v = (c : Int) := ⟨v.toNat, by omega⟩
      have t0 := cellsAt_cell hWr.tb 0
      simp only [List.getElem?_toArray, List.getElem?_cons_zero] at t0
      unfold tellV at t0
      obtain ⟨o0, o1, o2, -, -, -⟩ := tkB_own HB.out
      have CI := hide (IH.out c (by omega) F' wr.drew (tkW_drew hWr) HB.out.2.2.2.1 (fun p hp => (HLk.out p hp).1))
      have HB0 := hide (tkB_drew HB.out)
      have HWr := hide hWr
      clear hc9 hv hWr
      go_wp2_with fail
      go_region_with (first
        | (go_at_call 66; refine CI.out.mono ?_; rintro r w2 ⟨fk, lk9, F2, rfl, hfk, hlk, hLk, hC2, hg2⟩; have HFK := hide hfk; have HLK := hide hlk; have HL2 := hide hLk; have HB2 := hide (tkB_go HB0.out hg2 hC2 hTl); have HW2 := hide (tkW_go (tkW_drew HWr.out) hg2); obtain ⟨o0, o1, o2, -, -, -⟩ := tkB_own HB2.out; clear hfk hlk hLk hC2 hg2)
        | (go_at_call 68; have CJ := i_or e f l (nl D c) fk lk9 w2 (Nat.lt_of_lt_of_le HBf.out.1 (by decide)) (Nat.lt_of_lt_of_le HBl.out.1 (by decide)) (Nat.lt_of_lt_of_le HFK.out.1 (by decide)) (Nat.lt_of_lt_of_le HLK.out.1 (by decide)); unfold paV at CJ; refine CJ.mono ?_; clear CJ; rintro r w3 ⟨rfl, hb3⟩; have HB3 := hide (tkB_go HB2.out (grown_of hb3) (cellsAt_go HB2.out.2.2.2.1 hb3 (cellsAt_lt HB2.out.2.2.2.1)) hTl); obtain ⟨o0, o1, o2, z0, z1, z2⟩ := tkB_own HB3.out; clear hb3))
      all_goals
        go_wp2
        go_roundw
        case rel =>
          refine ⟨m + 1, (e || nl D c), f ||| fk, l ||| lk9, F2, by omega, by go_num, hide (tkB_set HB3.out hTl), hide ?_, hide ?_, hide ?_, hide ?_⟩
          · rw [HLM.out, List.any_append, ← HE.out]
            simp
          · rw [HLM.out]
            exact (orr_next HBf.out HBl.out (k := (c : Int)) HFK.out HLK.out).1
          · rw [HLM.out]
            exact (orr_next HBf.out HBl.out (k := (c : Int)) HFK.out HLK.out).2
          · exact lkB_trans HLk.out HL2.out (fun p q => by
              rw [HLM.out]
              constructor
              · rintro ⟨z, hz, h9⟩
                rcases List.mem_append.1 hz with hz | hz
                · exact .inl ⟨z, hz, h9⟩
                · simp at hz; subst hz; exact .inr h9
              · rintro (⟨z, hz, h9⟩ | h9)
                · exact ⟨z, List.mem_append_left _ hz, h9⟩
                · exact ⟨(c : Int), by simp, h9⟩)
        case measure => simp [intOf]; omega
    · have hml : m = L.length := by omega
      subst hml
      rw [List.take_length] at HE HBf HBl HLk
      have HRL : Hid (∀ p q : Nat, lk D i p q ↔ (∃ k ∈ L, lk D k.toNat p q) ∨ (2 ≤ OC ∧ (p : Int) ∈ ed D true i ∧ (q : Int) ∈ ed D false i)) := hide (fun p q => by rw [lk_other HLO.out (by rw [HK.out]; decide), HL.out, HOC.out])
      have hE2 : nl D i = (decide (OC = 1 ∨ OC = 2) || e) := by
        rw [HEQ.out, HE.out]
        unfold bdN
        rw [if_neg (by decide), if_pos rfl, List.any_map]
        rfl
      replace HE := hide hE2
      clear hE2
      have h1 := ed_or (rev := false) HLO.out HK.out
      have h2 := ed_or (rev := true) HLO.out HK.out
      rw [HL.out] at h1 h2
      replace HBf : Hid (BitS f (ed D false i)) := hide (by rw [h1]; exact HBf.out)
      replace HBl : Hid (BitS l (ed D true i)) := hide (by rw [h2]; exact HBl.out)
      clear h1 h2
      have n3 := cellsAt_cell HB.out.2.1 3
      have r0 := cellsAt_cell HB.out.1 0
      have r1 := cellsAt_cell HB.out.1 1
      have r2 := cellsAt_cell HB.out.1 2
      have y0 := cellsAt_frozen HB.out.1 0
      have y1 := cellsAt_frozen HB.out.1 1
      have y2 := cellsAt_frozen HB.out.1 2
      rw [← HRS.out] at r0 r1 r2
      simp only [List.getElem?_toArray, List.getElem?_cons_zero, List.getElem?_cons_succ] at n3 r0 r1 r2
      obtain ⟨o0, o1, o2, z0, z1, z2⟩ := tkB_own HB.out
      have CP := hide (fun (W : World) => i_opt9 OC W)
      by_cases ho : OC = 2 ∨ OC = 3
      · have CO := hide (fun (W : World) => i_often OC W)
        rw [decide_eq_true ho] at CO
        have CL := hide (i_link T l f mv F' e0 wr (Nat.lt_of_lt_of_le HBl.out.1 (by decide)) (Nat.lt_of_lt_of_le HBf.out.1 (by decide)) (lkB_lt HLk.out) (tkW_go HW.out HB.out.2.2.2.2).tz HB.out.2.2.2.1)
        have HLK2 : Hid (LkB F (lkU F' (bts l) f) (lk D i)) := hide (lkB_trans HLk.out (lkB_link (fun p hp => (HLk.out p hp).1) HBl.out HBf.out) (fun p q => by rw [HRL.out p q]; exact or_congr_right ⟨fun h => h.2, fun h => ⟨by omega, h⟩⟩))
        clear ho
        obtain ⟨B, hB⟩ : ∃ B, decide (OC = 1 ∨ OC = 2) = B := ⟨_, rfl⟩
        rw [hB] at HE CP
        clear hB
        cases e
        all_goals
          go_wp2_with (first
            | (go_at_call 69; refine (CO.out _).mono ?_; rintro r9 w9 ⟨rfl, h9⟩; rw [h9]; clear h9 w9)
            | (go_at_call 71; refine (CP.out _).mono ?_; rintro r9 w9 ⟨rfl, h9⟩; rw [h9]; clear h9 w9)
            | (go_at_call 70; refine CL.out.mono ?_; rintro r9 w2 ⟨rfl, hC2, hg2⟩; have HB2 := hide (tkB_go HB.out hg2 hC2 hTl); obtain ⟨o0, o1, o2, z0, z1, z2⟩ := tkB_own HB2.out; have n3 := cellsAt_cell HB2.out.2.1 3; have r0 := cellsAt_cell HB2.out.1 0; have r1 := cellsAt_cell HB2.out.1 1; have r2 := cellsAt_cell HB2.out.1 2; have y0 := cellsAt_frozen HB2.out.1 0; have y1 := cellsAt_frozen HB2.out.1 1; have y2 := cellsAt_frozen HB2.out.1 2; rw [← HRS.out] at r0 r1 r2; simp only [List.getElem?_toArray, List.getElem?_cons_zero, List.getElem?_cons_succ] at n3 r0 r1 r2; clear hC2 hg2))
          refine bodyPost_ret (v := .agg #[_, _, _]) (by simp [results, Tryd.results66, go_sem, r0, r1, r2]; first | done | exact ⟨rfl, rfl, rfl⟩) rfl ⟨f, l, lkU F' (bts l) f, ?_, HBf.out, HBl.out, HLK2.out, ?_, ?_⟩
          · rw [HE.out]; first | rfl | (cases B <;> rfl)
          · first | exact tkB_end (tkB_set0 HB2.out hTl) hTl
          · first | exact tkB_end2 (tkB_set0 HB2.out hTl) hTl
      · have CO := hide (fun (W : World) => i_often OC W)
        rw [decide_eq_false ho] at CO
        have HLK2 : Hid (LkB F F' (lk D i)) := hide (lkB_congr HLk.out (fun p q => by rw [HRL.out p q]; exact ⟨.inl, fun h => h.elim id (fun h => absurd h.1 (by omega))⟩))
        clear ho
        obtain ⟨B, hB⟩ : ∃ B, decide (OC = 1 ∨ OC = 2) = B := ⟨_, rfl⟩
        rw [hB] at HE CP
        clear hB
        cases e
        all_goals
          go_wp2_with (first
            | (go_at_call 69; refine (CO.out _).mono ?_; rintro r9 w9 ⟨rfl, h9⟩; rw [h9]; clear h9 w9)
            | (go_at_call 71; refine (CP.out _).mono ?_; rintro r9 w9 ⟨rfl, h9⟩; rw [h9]; clear h9 w9))
          refine bodyPost_ret (v := .agg #[_, _, _]) (by simp [results, Tryd.results66, go_sem, r0, r1, r2]; first | done | exact ⟨rfl, rfl, rfl⟩) rfl ⟨f, l, F', ?_, HBf.out, HBl.out, HLK2.out, ?_, ?_⟩
          · rw [HE.out]; first | rfl | (cases B <;> rfl)
          · first | exact tkB_end (tkB_set0 HB.out hTl) hTl
          · first | exact tkB_end2 (tkB_set0 HB.out hTl) hTl
end Go.Proofs.YtfohfljdgmlibaaDoor

/-
  Contract: what each node of a model tells of its rows.
-/
namespace Go.Proofs.YtfohfljdgmlibaaDoor
open Go.RowKit Go.Joins
set_option linter.unusedVariables false
set_option linter.unusedSimpArgs false
theorem i_tell (D : Pn) (n b0 off cap PB T TB B0 : Nat) (hRN : RN D n) (mv : Value) (e0 : Nat) : ∀ (k i : Nat), i < k → i < n → ∀ (F : Nat → Nat) (w : World), TkW w D n b0 off cap PB T TB B0 → CellsAt w T (tkC mv F e0) → (∀ p, p < 41 → F p < 1099511627776) →
    Calls Tryd.prog 66 #[.int .i64 i, .pointer (some ⟨PB, 0, none⟩), .pointer (some ⟨T, 0, none⟩), .pointer (some ⟨TB, 0, none⟩)] w (TellA D i T mv F e0 w)
  | 0, i, hk, hi => by omega
  | k + 1, i, hk, hi => by
    have IH := fun (c : Nat) (hc : c < i) => i_tell D n b0 off cap PB T TB B0 hRN mv e0 k c (by omega) (by omega)
    rcases rn_kinds hRN hi with h | h | h | h
    · exact tell_leaf1 D n b0 off cap PB T TB B0 hRN mv e0 i hi h IH
    · exact tell_seq D n b0 off cap PB T TB B0 hRN mv e0 i hi h IH
    · exact tell_or D n b0 off cap PB T TB B0 hRN mv e0 i hi h IH
    · exact tell_leaf4 D n b0 off cap PB T TB B0 hRN mv e0 i hi h IH
end Go.Proofs.YtfohfljdgmlibaaDoor

/-
  Contract: which rows of nodes are right models, by the program.
-/
namespace Go.Proofs.YtfohfljdgmlibaaDoor
open Go.RowKit Go.Joins
set_option linter.unusedVariables false
set_option linter.unusedSimpArgs false
/-- The stems of the first i nodes, as cells. -/
def stL (D : Pn) : Nat → List Value
  | 0 => []
  | i + 1 => stL D i ++ [.int .i64 (stF D i), .int .i64 (stG D i)]
theorem stL_len (D : Pn) : ∀ i, (stL D i).length = i * 2
  | 0 => rfl
  | i + 1 => by rw [stL, List.length_append, stL_len D i]; simp; omega
theorem stL_at (D : Pn) : ∀ (i j : Nat), j < i → (stL D i)[j * 2]? = some (.int .i64 (stF D j)) ∧ (stL D i)[j * 2 + 1]? = some (.int .i64 (stG D j))
  | 0, j, h => by omega
  | i + 1, j, h => by
    have hl := stL_len D i
    rw [stL]
    by_cases e : j = i
    · subst e
      rw [List.getElem?_append_right (by omega), List.getElem?_append_right (by omega), hl]
      simp
    · have := stL_at D i j (by omega)
      rw [List.getElem?_append_left (by omega), List.getElem?_append_left (by omega)]
      exact this
theorem own_st {w : World} {B i c : Nat} {ad : Option Addr} {t : TypeId} {D : Pn} (h : w.ownsRow B t 2 (.slice ad i c) i (stL D i)) : StAt w ad D i w.heap.size := fun h0 => by
  rcases h.2 with ⟨-, hz⟩ | ⟨g, cap, cur, hv, hB, hh, -⟩
  · omega
  · simp only [Value.slice.injEq] at hv
    obtain ⟨rfl, -, rfl⟩ := hv
    refine ⟨g, 0, rfl, (Array.getElem?_eq_some_iff.1 hh).1, fun j hj => ⟨?_, ?_⟩⟩
    · rw [Nat.zero_add, h.cellAt (j * 2) (by omega)]; exact (stL_at D i j hj).1
    · rw [Nat.zero_add, h.cellAt (j * 2 + 1) (by omega)]; exact (stL_at D i j hj).2
theorem infoSt : (Tryd.prog.info? 98).map (fun i => (i.zero, i.size, i.bytes)) = some (some (.agg #[.int .i64 0, .int .i64 0]), 2, 16) := by kernel_rfl
theorem two_new9 (w : World) (x y : Value) (T : TypeId) (j : Nat) (u : Value) (hj : [x, y][j]? = some u) : (w.alloc (.cells #[x, y] T)).cell? ((⟨w.heap.size, 0, none⟩ : Addr).add j) = some u := gTwo_new w x y T j u hj
theorem two_list9 (x y : Int) : ∀ u ∈ [Value.int .i64 x, Value.int .i64 y], u.oneCell' = true := by
  intro u hu
  simp at hu
  rcases hu with rfl | rfl <;> rfl
set_option maxRecDepth 100000 in
set_option maxHeartbeats 8000000 in
theorem i_particle (D : Pn) (n : Nat) (a : Option Addr) (cap : Nat) (w : World) (hD : D.n = n) (hz : pnTot D ≤ 1048576) (hr : PnAt w a D w.heap.size) :
    Calls Tryd.prog 53 #[.slice a n cap] w fun e w' => e = .returned (.bool (pkB D)) ∧ Below w.heap.size w w' := by
  obtain ⟨i0, hi, hz0, hz1, hz2⟩ := info_parts infoSt
  have HD := hide hD
  have HR := hide hr
  have HZ := hide (pn_sz hz)
  have hn : n ≤ 1048576 := by rw [← hD]; exact (pn_sz hz).1
  clear hr hD hz
  by_cases hs : 1 ≤ n ∧ n ≤ 40
  · obtain ⟨g1, g2⟩ := hs
    have g3 : (1 : Int) ≤ n := by omega
    have g4 : (n : Int) ≤ 40 := by omega
    obtain ⟨b, off, rfl, hbs, hrow⟩ := HR.out (by rw [HD.out]; omega)
    have HRW := hide hrow
    clear hrow
    go_enter Tryd.func53, Tryd.ntmps53
    go_wp2
    go_loopw [3, 20] (fun sv iv wr => ∃ (i : Nat) (ad : Option Addr) (c : Nat), i ≤ n ∧ iv = .int .i64 i ∧ sv = .slice ad i c ∧ wr.ownsRow w.heap.size 98 2 (.slice ad i c) i (stL D i) ∧ Below w.heap.size w wr ∧ Hid (∀ j, j < i → nodeB D j = true) ∧ Hid (∀ j, j < i → ∃ f, tr D j = some f)) (fun _ iv _ => n - (intOf iv).toNat)
    case atStart => exact ⟨0, none, 0, Nat.zero_le _, rfl, rfl, ⟨rfl, .inl ⟨rfl, rfl⟩⟩, Below.refl _ _, hide (fun j h => by omega), hide (fun j h => by omega)⟩
    case round =>
      obtain ⟨i, sa, sc, hil, rfl, rfl, ho, hb, HM, HT⟩ := hrel
      have HO := hide ho
      by_cases hlt : i < n
      · obtain ⟨ad, cp, hc, hat, hcp⟩ := HRW.out i (by rw [HD.out]; omega)
        obtain ⟨c0, c1, c2, c3⟩ := pnCells_go hc hbs hb
        have HB := hide hb
        have HA := hide (rwAt_up (rwAt_go hat hb) hb.size)
        obtain ⟨z1, z2⟩ := HZ.out.2 i (by rw [HD.out]; omega)
        have HZ1 : Hid ((D.NM i).size ≤ maxLen) := hide (by unfold maxLen; omega)
        have hin : (i : Int) < (n : Int) := by omega
        have HST := hide (fun (o : Obj) => (Below.refl wr.heap.size wr).alloc (Nat.le_refl _) o)
        have CS := hide (fun (W : World) (hW : Below wr.heap.size wr W) => i_stem D i sa sc ad (D.KL i).length cp W rfl (by omega) z2 (stAt_up (stAt_go (own_st HO.out) hW) hW.size) (rwAt_up (rwAt_go HA.out hW) hW.size) HT.out (D.K i) (D.OC i) (D.NM i))
        have CN := hide (fun (W : World) => i_nodeOk (D.K i) (D.NM i) ad (D.KL i).length cp (D.OC i) W HZ1.out z2)
        have HX1 : Hid (CellsAt (wr.alloc (.cells #[.int .i64 (D.K i), .string (D.NM i), .slice ad (D.KL i).length cp, .int .i64 (D.OC i)] 34)) wr.heap.size #[.int .i64 (D.K i), .string (D.NM i), .slice ad (D.KL i).length cp, .int .i64 (D.OC i)]) := hide (cellsAt_new wr _ _)
        have HNB : Hid (nodeB D i = ndB (D.K i) (D.NM i) (D.KL i).length (D.OC i)) := hide rfl
        clear hc hat hb ho hcp z1
        cases ht : tr D i with
        | none =>
          have HN := hide (pk_tree (D := D) (k := i) (by rw [HD.out]; exact hlt) ht)
          have hsf : stF D i = 0 := by unfold stF; rw [ht]
          have hsg : stG D i = 0 := by unfold stG; rw [ht]
          rw [ht, hsf, hsg] at CS
          simp only [Option.isSome] at CS
          clear hsf hsg
          go_wp2_with fail
          refine (CS.out _ (HST.out _)).mono ?_
          rintro e w2 ⟨rfl, hb2⟩
          have HB2 := hide ((HB.out.alloc HB.out.size _).trans (hb2.mono (by simp; have := HB.out.size; omega)))
          clear hb2
          go_wp2
          go_ret
          exact ⟨ret_bool HN.out.symm, HB2.out.alloc HB2.out.size _⟩
        | some f =>
          have HTN : Hid (∀ j, j < i + 1 → ∃ f, tr D j = some f) := hide (fun j hj => by
            by_cases e : j = i
            · subst e; exact ⟨f, ht⟩
            · exact HT.out j (by omega))
          have HSL : Hid (stL D (i + 1) = stL D i ++ [.int .i64 (stF D i), .int .i64 (stG D i)]) := hide rfl
          rw [ht] at CS
          simp only [Option.isSome] at CS
          obtain ⟨F, hF⟩ : ∃ F, stF D i = F := ⟨_, rfl⟩
          obtain ⟨G, hG⟩ : ∃ G, stG D i = G := ⟨_, rfl⟩
          rw [hF, hG] at CS HSL
          clear hF hG
          go_wp2_with fail
          refine (CS.out _ (HST.out _)).mono ?_
          rintro e w2 ⟨rfl, hb2⟩
          have hb02 : Below wr.heap.size wr w2 := (HST.out _).trans (hb2.mono (by simp))
          have HX2 := hide (cellsAt_go HX1.out hb2 (by simp))
          have HO2 := hide (gOwn_after HO.out hb02)
          have HB2 := hide (HB.out.trans (hb02.mono HB.out.size))
          have HS2 := hide (cellsAt_new w2 #[.int .i64 F, .int .i64 G] 98)
          have hal : ∀ o, Below w2.heap.size w2 (w2.alloc o) := fun o => (Below.refl _ _).alloc (Nat.le_refl _) _
          have HAL := hide hal
          have HX3 := hide (cellsAt_go HX2.out (hal (.cells #[.int .i64 F, .int .i64 G] 98)) (cellsAt_lt HX2.out))
          have x0 : (w2.alloc (.cells #[.int .i64 F, .int .i64 G] 98)).cell? ⟨wr.heap.size, 0, none⟩ = some (.int .i64 (D.K i)) := cellsAt_cell HX3.out 0
          have x1 : (w2.alloc (.cells #[.int .i64 F, .int .i64 G] 98)).cell? ⟨wr.heap.size, 1, none⟩ = some (.string (D.NM i)) := cellsAt_cell HX3.out 1
          have x2 : (w2.alloc (.cells #[.int .i64 F, .int .i64 G] 98)).cell? ⟨wr.heap.size, 2, none⟩ = some (.slice ad (D.KL i).length cp) := cellsAt_cell HX3.out 2
          have x3 : (w2.alloc (.cells #[.int .i64 F, .int .i64 G] 98)).cell? ⟨wr.heap.size, 3, none⟩ = some (.int .i64 (D.OC i)) := cellsAt_cell HX3.out 3
          clear hb2 hb02 hal c0 c1 c2 c3
          go_wp2_with fail
          refine (CN.out _).mono ?_
          rintro e w3 ⟨rfl, hb3⟩
          have hb23 : Below w2.heap.size w2 w3 := (HAL.out _).trans (hb3.mono (by simp))
          have HO3 := hide (gOwn_after HO2.out hb23)
          have HB3 := hide (HB2.out.trans (hb23.mono HB2.out.size))
          have HS3 := hide (cellsAt_go HS2.out hb3 (by simp))
          rw [← HNB.out]
          clear hb3 hb23 x0 x1 x2 x3
          cases hnd : nodeB D i
          · have HN := hide (pk_node (D := D) (k := i) (by rw [HD.out]; exact hlt) hnd)
            go_wp2
            go_ret
            exact ⟨ret_bool HN.out.symm, HB3.out⟩
          · have HMN : Hid (∀ j, j < i + 1 → nodeB D j = true) := hide (fun j hj => by
              by_cases e : j = i
              · subst e; exact hnd
              · exact HM.out j (by omega))
            have y0 : w3.cell? ⟨w2.heap.size, 0, none⟩ = some (.int .i64 F) := cellsAt_cell HS3.out 0
            have y1 : w3.cell? ⟨w2.heap.size, 1, none⟩ = some (.int .i64 G) := cellsAt_cell HS3.out 1
            have hs3 : w.heap.size ≤ w3.heap.size := HB3.out.size
            go_wp2_with (first | (at_builtin; refine wpList_append_own _ rfl (.tmp 37) (.tmp 39) 96 rfl w.heap.size 98 i0 (.agg #[.int .i64 0, .int .i64 0]) 2 16 Tryd.underlying96 hi hz0 hz1 hz2 rfl (by decide) _ _ _ rfl (HO3.out.alloc _) ⟨w3.heap.size, 0, none⟩ 1 1 [.int .i64 F, .int .i64 G] rfl rfl (fun j u hj => gTwo_new w3 _ _ _ j u hj) (two_list9 _ _) (by unfold maxLen; omega) (by omega) (by simp; omega) ?_; intro v2 w6 hown2 hgrow2 _; obtain ⟨ad2, c2', hv2⟩ := gOwn_shape hown2; rw [hv2] at hown2 ⊢; clear hv2; have HB6 := hide (gBelow_one HB3.out HO3.out hgrow2); have HO6 := hide hown2; clear hown2 hgrow2))
            go_roundw
            case rel => exact ⟨i + 1, ad2, c2', by omega, by go_num, rfl, by rw [HSL.out]; exact HO6.out, HB6.out, HMN, HTN⟩
            case measure => simp [intOf]; omega
      · have hin : i = n := by omega
        subst hin
        have HALL := hide (pk_all (D := D) (by rw [HD.out]; exact ⟨g1, g2⟩) (by rw [HD.out]; exact HM.out))
        rw [HD.out] at HALL
        obtain ⟨f, hf⟩ := HT.out (i - 1) (by omega)
        have HF : Hid (stF D (i - 1) = (f : Int) ∧ stG D (i - 1) = (dq D (i - 1) : Int) - 1) := hide ⟨by unfold stF; rw [hf], by unfold stG; rw [hf]⟩
        have hfl := tr_le hf
        have hdl := dq_le D (i - 1)
        obtain ⟨b9, off9, rfl, hb9, hc9⟩ := own_st ho (by omega)
        obtain ⟨y0, y1⟩ := hc9 (i - 1) (by omega)
        rw [HF.out.1] at y0
        rw [HF.out.2] at y1
        obtain ⟨ad, cp, hc, hat, hcp⟩ := HRW.out (i - 1) (by rw [HD.out]; omega)
        obtain ⟨c0, c1, c2, c3⟩ := pnCells_go hc hbs hb
        have htl : ((i : Int) - 1).toNat = i - 1 := by omega
        have hlt1 : ((i : Int) - 1) < (i : Int) := by omega
        have hge1 : (0 : Int) ≤ ((i : Int) - 1) := by omega
        have HG : Hid (groupB D (i - 1) = decide (D.K (i - 1) = 2 ∨ D.K (i - 1) = 3)) := hide rfl
        obtain ⟨K, hK⟩ : ∃ K, D.K (i - 1) = K := ⟨_, rfl⟩
        obtain ⟨Q, hQ⟩ : ∃ Q, dq D (i - 1) = Q := ⟨_, rfl⟩
        rw [hK] at c0 HG
        rw [hQ] at HALL hdl y1
        rw [HG.out, hf] at HALL
        have HB := hide hb
        clear hc hat hcp c1 c2 c3 hc9 hK hQ hb ho hf
        by_cases k2 : K = 2
        · subst k2
          by_cases hf0 : f = 0
          · have hf1 : ((f : Int) == 0) = true := by simp [hf0]
            by_cases hq : Q ≤ 10
            · have hq2 : (Q : Int) - 1 ≤ 9 := by omega
              have HN := hide (show (decide ((some f : Option Nat) = some 0) && decide (Q ≤ 10)) = true by rw [hf0, decide_eq_true hq]; rfl)
              clear hf0
              go_wp2
              go_ret
              exact ⟨ret_bool (by rw [HALL.out]; have := HN.out; simp only [Bool.and_eq_true] at this; rw [this.1, this.2]; simp), HB.out⟩
            · have hq2 : ¬ (Q : Int) - 1 ≤ 9 := by omega
              clear hf0
              go_wp2
              go_ret
              exact ⟨ret_bool (by rw [HALL.out, decide_eq_false hq]; simp; try omega), HB.out⟩
          · have hf1 : ((f : Int) == 0) = false := by simp; omega
            have HN := hide (show decide ((some f : Option Nat) = some 0) = false from decide_eq_false (fun h => hf0 (by simpa using h)))
            clear hf0
            go_wp2
            go_ret
            exact ⟨ret_bool (by rw [HALL.out, HN.out]; simp), HB.out⟩
        · have f2 : (K == 2) = false := by simpa using k2
          by_cases k3 : K = 3
          · subst k3
            clear k2
            by_cases hf0 : f = 0
            · have hf1 : ((f : Int) == 0) = true := by simp [hf0]
              by_cases hq : Q ≤ 10
              · have hq2 : (Q : Int) - 1 ≤ 9 := by omega
                have HN := hide (show (decide ((some f : Option Nat) = some 0) && decide (Q ≤ 10)) = true by rw [hf0, decide_eq_true hq]; rfl)
                clear hf0
                go_wp2
                go_ret
                exact ⟨ret_bool (by rw [HALL.out]; have := HN.out; simp only [Bool.and_eq_true] at this; rw [this.1, this.2]; simp), HB.out⟩
              · have hq2 : ¬ (Q : Int) - 1 ≤ 9 := by omega
                clear hf0
                go_wp2
                go_ret
                exact ⟨ret_bool (by rw [HALL.out, decide_eq_false hq]; simp; try omega), HB.out⟩
            · have hf1 : ((f : Int) == 0) = false := by simp; omega
              have HN := hide (show decide ((some f : Option Nat) = some 0) = false from decide_eq_false (fun h => hf0 (by simpa using h)))
              clear hf0
              go_wp2
              go_ret
              exact ⟨ret_bool (by rw [HALL.out, HN.out]; simp), HB.out⟩
          · have f3 : (K == 3) = false := by simpa using k3
            have HN := hide (show decide (K = 2 ∨ K = 3) = false from decide_eq_false (fun h => h.elim k2 k3))
            clear k2 k3
            go_wp2
            go_ret
            exact ⟨ret_bool (by rw [HALL.out, HN.out]; simp), HB.out⟩
  · have e := pk_size (D := D) (by rw [HD.out]; exact hs)
    rw [e]
    by_cases g : n = 0
    · go_enter Tryd.func53, Tryd.ntmps53
      go_wp2
      go_ret
      exact ⟨rfl, Below.refl _ _⟩
    · have g2 : (40 : Int) < (n : Int) := by omega
      go_enter Tryd.func53, Tryd.ntmps53
      go_wp2
      go_ret
      exact ⟨rfl, Below.refl _ _⟩
end Go.Proofs.YtfohfljdgmlibaaDoor
