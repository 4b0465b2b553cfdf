/-
  Texts put together: TkT3, TkT4, PkI, PkB.
-/
import Derived.Test.YtfohfljdgmlibaaDoorS7
import Derived.Test.YtfohfljdgmlibaaDoorS8
import Derived.Test.YtfohfljdgmlibaaDoorS5
import Derived.RangeFuncBox
import Derived.RangeFuncLeaves
import Derived.Shelf.Abstract
import Derived.OwnWalkIn
import Derived.TacticsInMore
import Derived.LoopNIn
import Derived.LoopIn
/-
  Contract: what a choice tells.
-/
namespace Go.Proofs.YtfohfljdgmlibaaDoor
open Go.RowKit Go.Joins
set_option linter.unusedVariables false
set_option linter.unusedSimpArgs false
set_option maxRecDepth 100000 in
set_option maxHeartbeats 8000000 in
theorem tell_or (D : Pn) (n b0 off cap PB T TB B0 : Nat) (hRN : RN D n) (mv : Value) (e0 i : Nat) (hi : i < n) (hKK : D.K i = 3) (hIH : ∀ (c : Nat), c < i → ∀ (F : Nat → Nat) (w : World), TkW w D n b0 off cap PB T TB B0 → CellsAt w T (tkC mv F e0) → (∀ p, p < 41 → F p < 1099511627776) →
    Calls Tryd.prog 66 #[.int .i64 c, .pointer (some ⟨PB, 0, none⟩), .pointer (some ⟨T, 0, none⟩), .pointer (some ⟨TB, 0, none⟩)] w (TellA D c T mv F e0 w)) (F : Nat → Nat) (w : World) (hW : TkW w D n b0 off cap PB T TB B0) (hC : CellsAt w T (tkC mv F e0)) (hF : ∀ p, p < 41 → F p < 1099511627776) :
    Calls Tryd.prog 66 #[.int .i64 i, .pointer (some ⟨PB, 0, none⟩), .pointer (some ⟨T, 0, none⟩), .pointer (some ⟨TB, 0, none⟩)] w (TellA D i T mv F e0 w) := by
  have IH := hide hIH
  have HW := hide hW
  have HC := hide hC
  have HF := hide hF
  have HKID := hide (hRN.2.2.2.1 i hi)
  have HLO : Hid (Lo D i) := hide (fun j hj => hRN.2.2.2.1 j (by omega))
  obtain ⟨ad, cp, hc, hat, hcp⟩ := hW.row i (by rw [hRN.1]; exact hi)
  obtain ⟨c0, c1, c2, c3⟩ := hc
  have hin : (i : Int) < (n : Int) := by omega
  have hi00 : (0 : Int) ≤ (i : Int) := by omega
  have hn40 := hRN.2.1
  have hll := hRN.2.2.2.2.2 i hi
  have hoc : 0 ≤ D.OC i ∧ D.OC i ≤ 3 := by
    have h9 := hRN.2.2.1 i hi
    unfold nodeB ndB at h9
    simp only [Bool.and_eq_true, decide_eq_true_eq] at h9
    exact h9.1
  have HEQ := hide (nl_eq (D := D) (i := i) HLO.out)
  have hp0 := cellsAt_cell hW.pb 0
  have hPBl := cellsAt_lt hW.pb
  have hTBl := cellsAt_lt hW.tb
  have hTl := cellsAt_lt hC
  have hb0l : b0 < w.heap.size := Nat.lt_of_lt_of_le hW.hb0 hW.hsz
  simp only [List.getElem?_toArray, List.getElem?_cons_zero] at hp0
  have hK := hKK
  obtain ⟨NM, hNM⟩ : ∃ NM, D.NM i = NM := ⟨_, rfl⟩
  obtain ⟨OC, hOC⟩ : ∃ OC, D.OC i = OC := ⟨_, rfl⟩
  obtain ⟨L, hL⟩ : ∃ L, D.KL i = L := ⟨_, rfl⟩
  rw [hK] at c0 HEQ
  rw [hNM] at c1
  rw [hL] at c2 HKID hat hll HEQ
  rw [hOC] at c3 HEQ hoc
  have HAT := hide hat
  have HK := hide hK
  have HOC := hide hOC
  have HL := hide hL
  clear hW hC hF hIH hKK hat hK hNM hOC hL hRN hcp
  go_enter Tryd.func66, Tryd.ntmps66
  go_wp2
  have HX := hide (boxes3 w #[.bool false, .int .u64 0, .int .u64 0] #[.int .i64 3, .string NM, .slice ad L.length cp, .int .i64 OC] #[.bool false, .int .u64 0, .int .u64 0] 83 34 83)
  obtain ⟨rs, hrs⟩ : ∃ rs : Array Value, #[.bool false, .int .u64 0, .int .u64 0] = rs := ⟨_, rfl⟩
  have HRS := hide hrs
  clear hrs
  go_loopw [45] (fun mv9 wr => ∃ (m : Nat) (e : Bool) (f l : Nat) (F' : Nat → Nat), m ≤ L.length ∧ mv9 = .int .i64 m ∧ Hid (TkB w wr T rs #[.int .i64 3, .string NM, .slice ad L.length cp, .int .i64 OC] e f l mv F' e0) ∧ Hid (e = (L.take m).any fun k => nl D k.toNat) ∧ Hid (BitS f (seqE (fun k => ed D false k.toNat) (fun _ => true) (L.take m))) ∧ Hid (BitS l (seqE (fun k => ed D true k.toNat) (fun _ => true) (L.take m).reverse)) ∧ Hid (LkB F F' (fun p q => ∃ k ∈ L.take m, lk D k.toNat p q))) (fun mv9 _ => L.length - (intOf mv9).toNat)
  case atStart => exact ⟨0, false, 0, 0, F, Nat.zero_le _, rfl, hide ⟨by rw [← HRS.out]; exact HX.out.1, HX.out.2.1, HX.out.2.2.1, cellsAt_go HC.out HX.out.2.2.2 hTl, grown_of HX.out.2.2.2⟩, hide rfl, hide (by rw [List.take_zero]; exact bitS_nil), hide (by rw [List.take_zero]; exact bitS_nil), hide (lkB_refl HF.out (fun p q => by rw [List.take_zero]; rintro ⟨k, hk, -⟩; exact absurd hk (List.not_mem_nil)))⟩
  case round =>
    obtain ⟨m, e, f, l, F', hm, rfl, HB, HE, HBf, HBl, HLk⟩ := hrel
    by_cases hlt : m < L.length
    · obtain ⟨b9, off9, rfl, hb9, hc9⟩ := HAT.out (fun h => by rw [h] at hlt; exact absurd hlt (Nat.not_lt_zero _))
      have hWr := tkW_go HW.out HB.out.2.2.2.2
      have k0 := ((grown_below HB.out.2.2.2.2 HW.out.hB HW.out.hsz).cell (p := ⟨b9, off9 + m, none⟩) hb9).trans (hc9 m hlt)
      have hmi : (m : Int) < (L.length : Int) := by omega
      have hm0 : (0 : Int) ≤ (m : Int) := by omega
      have hkk := HKID.out (L[m]?.getD 0) (by rw [List.getElem?_eq_getElem hlt]; exact List.getElem_mem hlt)
      obtain ⟨v, hv⟩ : ∃ v, L[m]?.getD 0 = v := ⟨_, rfl⟩
      have HLM : Hid (L.take (m + 1) = L.take m ++ [v]) := hide (by rw [List.take_succ_eq_append_getElem hlt, ← hv, List.getElem?_eq_getElem hlt]; rfl)
      rw [hv] at k0 hkk
      obtain ⟨c, rfl⟩ : ∃ c : Nat, v = (c : Int) := ⟨v.toNat, by omega⟩
      have t0 := cellsAt_cell hWr.tb 0
      simp only [List.getElem?_toArray, List.getElem?_cons_zero] at t0
      unfold tellV at t0
      obtain ⟨o0, o1, o2, -, -, -⟩ := tkB_own HB.out
      have CI := hide (IH.out c (by omega) F' wr.drew (tkW_drew hWr) HB.out.2.2.2.1 (fun p hp => (HLk.out p hp).1))
      have HB0 := hide (tkB_drew HB.out)
      have HWr := hide hWr
      clear hc9 hv hWr
      go_wp2_with fail
      go_region_with (first
        | (go_at_call 66; refine CI.out.mono ?_; rintro r w2 ⟨fk, lk9, F2, rfl, hfk, hlk, hLk, hC2, hg2⟩; have HFK := hide hfk; have HLK := hide hlk; have HL2 := hide hLk; have HB2 := hide (tkB_go HB0.out hg2 hC2 hTl); have HW2 := hide (tkW_go (tkW_drew HWr.out) hg2); obtain ⟨o0, o1, o2, -, -, -⟩ := tkB_own HB2.out; clear hfk hlk hLk hC2 hg2)
        | (go_at_call 68; have CJ := i_or e f l (nl D c) fk lk9 w2 (Nat.lt_of_lt_of_le HBf.out.1 (by decide)) (Nat.lt_of_lt_of_le HBl.out.1 (by decide)) (Nat.lt_of_lt_of_le HFK.out.1 (by decide)) (Nat.lt_of_lt_of_le HLK.out.1 (by decide)); unfold paV at CJ; refine CJ.mono ?_; clear CJ; rintro r w3 ⟨rfl, hb3⟩; have HB3 := hide (tkB_go HB2.out (grown_of hb3) (cellsAt_go HB2.out.2.2.2.1 hb3 (cellsAt_lt HB2.out.2.2.2.1)) hTl); obtain ⟨o0, o1, o2, z0, z1, z2⟩ := tkB_own HB3.out; clear hb3))
      all_goals
        go_wp2
        go_roundw
        case rel =>
          refine ⟨m + 1, (e || nl D c), f ||| fk, l ||| lk9, F2, by omega, by go_num, hide (tkB_set HB3.out hTl), hide ?_, hide ?_, hide ?_, hide ?_⟩
          · rw [HLM.out, List.any_append, ← HE.out]
            simp
          · rw [HLM.out]
            exact (orr_next HBf.out HBl.out (k := (c : Int)) HFK.out HLK.out).1
          · rw [HLM.out]
            exact (orr_next HBf.out HBl.out (k := (c : Int)) HFK.out HLK.out).2
          · exact lkB_trans HLk.out HL2.out (fun p q => by
              rw [HLM.out]
              constructor
              · rintro ⟨z, hz, h9⟩
                rcases List.mem_append.1 hz with hz | hz
                · exact .inl ⟨z, hz, h9⟩
                · simp at hz; subst hz; exact .inr h9
              · rintro (⟨z, hz, h9⟩ | h9)
                · exact ⟨z, List.mem_append_left _ hz, h9⟩
                · exact ⟨(c : Int), by simp, h9⟩)
        case measure => simp [intOf]; omega
    · have hml : m = L.length := by omega
      subst hml
      rw [List.take_length] at HE HBf HBl HLk
      have HRL : Hid (∀ p q : Nat, lk D i p q ↔ (∃ k ∈ L, lk D k.toNat p q) ∨ (2 ≤ OC ∧ (p : Int) ∈ ed D true i ∧ (q : Int) ∈ ed D false i)) := hide (fun p q => by rw [lk_other HLO.out (by rw [HK.out]; decide), HL.out, HOC.out])
      have hE2 : nl D i = (decide (OC = 1 ∨ OC = 2) || e) := by
        rw [HEQ.out, HE.out]
        unfold bdN
        rw [if_neg (by decide), if_pos rfl, List.any_map]
        rfl
      replace HE := hide hE2
      clear hE2
      have h1 := ed_or (rev := false) HLO.out HK.out
      have h2 := ed_or (rev := true) HLO.out HK.out
      rw [HL.out] at h1 h2
      replace HBf : Hid (BitS f (ed D false i)) := hide (by rw [h1]; exact HBf.out)
      replace HBl : Hid (BitS l (ed D true i)) := hide (by rw [h2]; exact HBl.out)
      clear h1 h2
      have n3 := cellsAt_cell HB.out.2.1 3
      have r0 := cellsAt_cell HB.out.1 0
      have r1 := cellsAt_cell HB.out.1 1
      have r2 := cellsAt_cell HB.out.1 2
      have y0 := cellsAt_frozen HB.out.1 0
      have y1 := cellsAt_frozen HB.out.1 1
      have y2 := cellsAt_frozen HB.out.1 2
      rw [← HRS.out] at r0 r1 r2
      simp only [List.getElem?_toArray, List.getElem?_cons_zero, List.getElem?_cons_succ] at n3 r0 r1 r2
      obtain ⟨o0, o1, o2, z0, z1, z2⟩ := tkB_own HB.out
      have CP := hide (fun (W : World) => i_opt9 OC W)
      by_cases ho : OC = 2 ∨ OC = 3
      · have CO := hide (fun (W : World) => i_often OC W)
        rw [decide_eq_true ho] at CO
        have CL := hide (i_link T l f mv F' e0 wr (Nat.lt_of_lt_of_le HBl.out.1 (by decide)) (Nat.lt_of_lt_of_le HBf.out.1 (by decide)) (lkB_lt HLk.out) (tkW_go HW.out HB.out.2.2.2.2).tz HB.out.2.2.2.1)
        have HLK2 : Hid (LkB F (lkU F' (bts l) f) (lk D i)) := hide (lkB_trans HLk.out (lkB_link (fun p hp => (HLk.out p hp).1) HBl.out HBf.out) (fun p q => by rw [HRL.out p q]; exact or_congr_right ⟨fun h => h.2, fun h => ⟨by omega, h⟩⟩))
        clear ho
        obtain ⟨B, hB⟩ : ∃ B, decide (OC = 1 ∨ OC = 2) = B := ⟨_, rfl⟩
        rw [hB] at HE CP
        clear hB
        cases e
        all_goals
          go_wp2_with (first
            | (go_at_call 69; refine (CO.out _).mono ?_; rintro r9 w9 ⟨rfl, h9⟩; rw [h9]; clear h9 w9)
            | (go_at_call 71; refine (CP.out _).mono ?_; rintro r9 w9 ⟨rfl, h9⟩; rw [h9]; clear h9 w9)
            | (go_at_call 70; refine CL.out.mono ?_; rintro r9 w2 ⟨rfl, hC2, hg2⟩; have HB2 := hide (tkB_go HB.out hg2 hC2 hTl); obtain ⟨o0, o1, o2, z0, z1, z2⟩ := tkB_own HB2.out; have n3 := cellsAt_cell HB2.out.2.1 3; have r0 := cellsAt_cell HB2.out.1 0; have r1 := cellsAt_cell HB2.out.1 1; have r2 := cellsAt_cell HB2.out.1 2; have y0 := cellsAt_frozen HB2.out.1 0; have y1 := cellsAt_frozen HB2.out.1 1; have y2 := cellsAt_frozen HB2.out.1 2; rw [← HRS.out] at r0 r1 r2; simp only [List.getElem?_toArray, List.getElem?_cons_zero, List.getElem?_cons_succ] at n3 r0 r1 r2; clear hC2 hg2))
          refine bodyPost_ret (v := .agg #[_, _, _]) (by simp [results, Tryd.results66, go_sem, r0, r1, r2]; first | done | exact ⟨rfl, rfl, rfl⟩) rfl ⟨f, l, lkU F' (bts l) f, ?_, HBf.out, HBl.out, HLK2.out, ?_, ?_⟩
          · rw [HE.out]; first | rfl | (cases B <;> rfl)
          · first | exact tkB_end (tkB_set0 HB2.out hTl) hTl
          · first | exact tkB_end2 (tkB_set0 HB2.out hTl) hTl
      · have CO := hide (fun (W : World) => i_often OC W)
        rw [decide_eq_false ho] at CO
        have HLK2 : Hid (LkB F F' (lk D i)) := hide (lkB_congr HLk.out (fun p q => by rw [HRL.out p q]; exact ⟨.inl, fun h => h.elim id (fun h => absurd h.1 (by omega))⟩))
        clear ho
        obtain ⟨B, hB⟩ : ∃ B, decide (OC = 1 ∨ OC = 2) = B := ⟨_, rfl⟩
        rw [hB] at HE CP
        clear hB
        cases e
        all_goals
          go_wp2_with (first
            | (go_at_call 69; refine (CO.out _).mono ?_; rintro r9 w9 ⟨rfl, h9⟩; rw [h9]; clear h9 w9)
            | (go_at_call 71; refine (CP.out _).mono ?_; rintro r9 w9 ⟨rfl, h9⟩; rw [h9]; clear h9 w9))
          refine bodyPost_ret (v := .agg #[_, _, _]) (by simp [results, Tryd.results66, go_sem, r0, r1, r2]; first | done | exact ⟨rfl, rfl, rfl⟩) rfl ⟨f, l, F', ?_, HBf.out, HBl.out, HLK2.out, ?_, ?_⟩
          · rw [HE.out]; first | rfl | (cases B <;> rfl)
          · first | exact tkB_end (tkB_set0 HB.out hTl) hTl
          · first | exact tkB_end2 (tkB_set0 HB.out hTl) hTl
end Go.Proofs.YtfohfljdgmlibaaDoor

/-
  Contract: what each node of a model tells of its rows.
-/
namespace Go.Proofs.YtfohfljdgmlibaaDoor
open Go.RowKit Go.Joins
set_option linter.unusedVariables false
set_option linter.unusedSimpArgs false
theorem i_tell (D : Pn) (n b0 off cap PB T TB B0 : Nat) (hRN : RN D n) (mv : Value) (e0 : Nat) : ∀ (k i : Nat), i < k → i < n → ∀ (F : Nat → Nat) (w : World), TkW w D n b0 off cap PB T TB B0 → CellsAt w T (tkC mv F e0) → (∀ p, p < 41 → F p < 1099511627776) →
    Calls Tryd.prog 66 #[.int .i64 i, .pointer (some ⟨PB, 0, none⟩), .pointer (some ⟨T, 0, none⟩), .pointer (some ⟨TB, 0, none⟩)] w (TellA D i T mv F e0 w)
  | 0, i, hk, hi => by omega
  | k + 1, i, hk, hi => by
    have IH := fun (c : Nat) (hc : c < i) => i_tell D n b0 off cap PB T TB B0 hRN mv e0 k c (by omega) (by omega)
    rcases rn_kinds hRN hi with h | h | h | h
    · exact tell_leaf1 D n b0 off cap PB T TB B0 hRN mv e0 i hi h IH
    · exact tell_seq D n b0 off cap PB T TB B0 hRN mv e0 i hi h IH
    · exact tell_or D n b0 off cap PB T TB B0 hRN mv e0 i hi h IH
    · exact tell_leaf4 D n b0 off cap PB T TB B0 hRN mv e0 i hi h IH
end Go.Proofs.YtfohfljdgmlibaaDoor

/-
  Contracts: a node by itself, by the program.
-/
namespace Go.Proofs.YtfohfljdgmlibaaDoor
open Go.RowKit Go.Joins
set_option linter.unusedVariables false
set_option linter.unusedSimpArgs false
theorem p_iInT (x a b : Int) (w : World) (h : a ≤ x ∧ x ≤ b) : Calls Tryd.prog 44 #[.int .i64 x, .int .i64 a, .int .i64 b] w fun e w' => e = .returned (.bool true) ∧ w' = w := by
  obtain ⟨h1, h2⟩ := h
  go_enter Tryd.func44, Tryd.ntmps44
  go_wp2
  go_ret
  exact ⟨by simp_all, rfl⟩
theorem p_iInF (x a b : Int) (w : World) (h : ¬ (a ≤ x ∧ x ≤ b)) : Calls Tryd.prog 44 #[.int .i64 x, .int .i64 a, .int .i64 b] w fun e w' => e = .returned (.bool false) ∧ w' = w := by
  by_cases h1 : a ≤ x
  · have h2 : ¬ x ≤ b := fun e => h ⟨h1, e⟩
    clear h
    go_enter Tryd.func44, Tryd.ntmps44
    go_wp2
    go_ret
    exact ⟨by simp_all, rfl⟩
  · clear h
    go_enter Tryd.func44, Tryd.ntmps44
    go_wp2
    go_ret
    exact ⟨by simp_all, rfl⟩
set_option maxRecDepth 100000 in
set_option maxHeartbeats 8000000 in
theorem i_nodeOk (K : Int) (NM : ByteArray) (a : Option Addr) (n c : Nat) (OC : Int) (w : World) (hs : NM.size ≤ maxLen) (hn : n ≤ 1048576) :
    Calls Tryd.prog 82 #[.agg #[.int .i64 K, .string NM, .slice a n c, .int .i64 OC]] w fun e w' => e = .returned (.bool (ndB K NM n OC)) ∧ Below w.heap.size w w' := by
  have HZ1 := hide hs
  have HST := hide (fun (o : Obj) => (Below.refl w.heap.size w).alloc (Nat.le_refl _) o)
  clear hs
  by_cases ho : 0 ≤ OC ∧ OC ≤ 3
  · have HO := hide ho
    clear ho
    by_cases k1 : K = 1
    · have HE := hide (nd_1 (nm := NM) (n := n) HO.out k1)
      subst k1
      cases hnb : nameB NM
      · go_enter Tryd.func82, Tryd.ntmps82
        go_wp2_with (first | (go_at_call 44; refine (p_iInT _ _ _ _ HO.out).mono ?_; rintro e w2 ⟨rfl, rfl⟩) | (go_at_call 91; refine (i_name _ _ HZ1.out).mono ?_; rintro e w3 ⟨rfl, rfl⟩; rw [hnb]))
        go_ret
        exact ⟨ret_bool (by rw [HE.out, hnb]; rfl), HST.out _⟩
      · go_enter Tryd.func82, Tryd.ntmps82
        go_wp2_with (first | (go_at_call 44; refine (p_iInT _ _ _ _ HO.out).mono ?_; rintro e w2 ⟨rfl, rfl⟩) | (go_at_call 91; refine (i_name _ _ HZ1.out).mono ?_; rintro e w3 ⟨rfl, rfl⟩; rw [hnb]))
        go_ret
        exact ⟨ret_bool (by rw [HE.out, hnb, Bool.eq_iff_iff]; simp), HST.out _⟩
    · by_cases k4 : K = 4
      · have HE := hide (nd_4 (nm := NM) (n := n) HO.out k4)
        subst k4
        clear k1
        cases hnb : NM.toList.isEmpty
        · go_enter Tryd.func82, Tryd.ntmps82
          go_wp2_with (first | (go_at_call 44; refine (p_iInT _ _ _ _ HO.out).mono ?_; rintro e w2 ⟨rfl, rfl⟩))
          go_ret
          exact ⟨ret_bool (by rw [HE.out, hnb]; rfl), HST.out _⟩
        · go_enter Tryd.func82, Tryd.ntmps82
          go_wp2_with (first | (go_at_call 44; refine (p_iInT _ _ _ _ HO.out).mono ?_; rintro e w2 ⟨rfl, rfl⟩))
          go_ret
          exact ⟨ret_bool (by rw [HE.out, hnb, Bool.eq_iff_iff]; simp), HST.out _⟩
      · by_cases k2 : K = 2
        · have HE := hide (nd_2 (nm := NM) (n := n) HO.out k2)
          subst k2
          clear k1 k4
          go_enter Tryd.func82, Tryd.ntmps82
          go_wp2_with (first | (go_at_call 44; refine (p_iInT _ _ _ _ HO.out).mono ?_; rintro e w2 ⟨rfl, rfl⟩))
          go_ret
          exact ⟨ret_bool (by rw [HE.out]), HST.out _⟩
        · by_cases k3 : K = 3
          · have HE := hide (nd_3 (nm := NM) (n := n) HO.out k3)
            subst k3
            clear k1 k4 k2
            cases hnb : NM.toList.isEmpty
            · go_enter Tryd.func82, Tryd.ntmps82
              go_wp2_with (first | (go_at_call 44; refine (p_iInT _ _ _ _ HO.out).mono ?_; rintro e w2 ⟨rfl, rfl⟩))
              go_ret
              exact ⟨ret_bool (by rw [HE.out, hnb]; rfl), HST.out _⟩
            · go_enter Tryd.func82, Tryd.ntmps82
              go_wp2_with (first | (go_at_call 44; refine (p_iInT _ _ _ _ HO.out).mono ?_; rintro e w2 ⟨rfl, rfl⟩))
              go_ret
              exact ⟨ret_bool (by rw [HE.out, hnb, Bool.eq_iff_iff]; simp; omega), HST.out _⟩
          · have HE := hide (nd_9 (nm := NM) (n := n) (oc := OC) k1 k2 k3 k4)
            have f1 : (K == 1) = false := by simpa using k1
            have f2 : (K == 2) = false := by simpa using k2
            have f3 : (K == 3) = false := by simpa using k3
            have f4 : (K == 4) = false := by simpa using k4
            clear k1 k2 k3 k4
            go_enter Tryd.func82, Tryd.ntmps82
            go_wp2_with (first | (go_at_call 44; refine (p_iInT _ _ _ _ HO.out).mono ?_; rintro e w2 ⟨rfl, rfl⟩))
            go_ret
            exact ⟨ret_bool HE.out.symm, HST.out _⟩
  · have HE := hide (nd_no_oc (k := K) (nm := NM) (n := n) ho)
    have HO := hide ho
    clear ho
    go_enter Tryd.func82, Tryd.ntmps82
    go_wp2_with (first | (go_at_call 44; refine (p_iInF _ _ _ _ HO.out).mono ?_; rintro e w2 ⟨rfl, rfl⟩))
    go_ret
    exact ⟨ret_bool HE.out.symm, HST.out _⟩
end Go.Proofs.YtfohfljdgmlibaaDoor

/-
  Contracts: slices.Backward over a row of numbers, and a node's stem, by the program.
-/
namespace Go.Proofs.YtfohfljdgmlibaaDoor
open Go.RowKit Go.Joins Go.Shelf
set_option linter.unusedVariables false
set_option linter.unusedSimpArgs false
attribute [local go_sem] Oper.semAt_some
def upto {α : Type} (f : Nat → α) (k : Nat) : List α := (List.range k).map f
theorem upto_succ {α : Type} (f : Nat → α) (k : Nat) : upto f (k + 1) = upto f k ++ [f k] := by simp [upto, List.range_succ]
theorem upto_length {α : Type} (f : Nat → α) (k : Nat) : (upto f k).length = k := by simp [upto]
/-- What comes: the places from the last one on, with what stands there. -/
def bkF (zs : List Int) (j : Nat) : Nat × Int := (zs.length - 1 - j, zs[zs.length - 1 - j]?.getD 0)
def KpB (n₀ Bs : Nat) (W W' : World) : Prop := Below n₀ W W' ∧ W'.cell? ⟨Bs, 0, none⟩ = W.cell? ⟨Bs, 0, none⟩
theorem kpB_t {n₀ Bs : Nat} {A B C : World} (h : KpB n₀ Bs A B) (k : KpB n₀ Bs B C) : KpB n₀ Bs A C := ⟨h.1.trans k.1, k.2.trans h.2⟩
theorem kpB_b {n₀ Bs : Nat} {w : World} (hn : n₀ ≤ w.heap.size) (hB : Bs < w.heap.size) (W : World) (l : Nat) (o o' : Obj) (hl : w.heap.size ≤ l) (h : W.heap[l]? = some o) (h1 : o.isCells = false) (h2 : o.isWalk = false) : KpB n₀ Bs W (W.putObj l o') :=
  ⟨belowK_b hn W l o o' hl h h1 h2, World.cell?_of_block (World.putObj_heap_other (by show Bs ≠ l; omega))⟩
set_option maxRecDepth 100000 in
set_option maxHeartbeats 2000000 in
theorem back1_in (F : Fence) (n : Nat) (h7 : F.fn 95) (hro : F.round = none) (hn : 1 ≤ n) (l Bs n₀ len cap : Nat) (ad : Option Addr) (zs : List Int) (hlen : zs.length = len) (hreach : len ≤ 1048576) (J Jx : List (Nat × Int) → World → Prop)
    (hY : ∀ pre x W, J pre W → pre.length < len → YieldAt F (n - 1) Tryd.prog l #[.int .i64 (x.1 : Int), .int .i64 x.2] W fun e W' =>
      (e = .returned (.bool true) ∧ J (pre ++ [x]) W' ∧ KpB n₀ Bs W W') ∨ (e = .returned (.bool false) ∧ Jx (pre ++ [x]) W'))
    (W : World) (hBs : W.cell? ⟨Bs, 0, none⟩ = some (.slice ad len cap)) (hc : RowAt .i64 W ad zs n₀) (h0 : J [] W) :
    CallsIn F n Tryd.prog 95 #[.func (.yield l) #[] #[], .pointer (some ⟨Bs, 0, none⟩)] W fun e W' => (∃ v, e = .returned v) ∧
      ((∃ ys, ys = upto (bkF zs) len ∧ J ys W') ∨ (∃ pre, (∃ k, k ≤ len ∧ pre = upto (bkF zs) k) ∧ Jx pre W')) := by
  refine callsIn_of_wp Tryd.func95 rfl h7 ?_ hro
  simp only [Tryd.ntmps95, List.size_toArray, List.length_cons, List.length_nil, Nat.reduceAdd, Nat.reduceSub, Array.replicate_succ, Array.replicate_zero, List.push_toArray, List.append_toArray, List.nil_append, List.cons_append]
  have HC := hide hc
  have HL := hide hlen
  clear hc hlen
  gi_wp2
  gi_loopw [3] (fun i wr => ∃ k : Nat, k ≤ len ∧ i = .int .i64 ((len : Int) - 1 - k) ∧ J (upto (bkF zs) k) wr ∧ KpB n₀ Bs W wr)
    (fun i _ => (intOf i + 1).toNat)
  case atStart => exact ⟨0, Nat.zero_le _, by simp, h0, ⟨Below.refl _ _, rfl⟩⟩
  case round =>
    obtain ⟨k, hk, rfl, hJs, hnx, hbx⟩ := hrel
    have hb9 := hbx.trans hBs
    by_cases hlt : k < len
    · obtain ⟨b, off, rfl, hb, hcc⟩ := HC.out (fun e => by have := HL.out; rw [e] at this; simp at this; omega)
      have hcx : wr.cell? ⟨b, off + (len - 1 - k), none⟩ = some (.int .i64 (zs[len - 1 - k]?.getD 0)) := (hnx.cell (p := ⟨b, off + (len - 1 - k), none⟩) hb).trans (hcc _ (by rw [HL.out]; omega))
      obtain ⟨m, hm⟩ : ∃ m, len - 1 - k = m := ⟨_, rfl⟩
      have hmi : (len : Int) - 1 - (k : Int) = (m : Int) := by omega
      have hbk : bkF zs k = (m, zs[m]?.getD 0) := by unfold bkF; rw [HL.out, hm]
      obtain ⟨fn, tmps, assign, body, hy, hR⟩ := hY _ (m, zs[m]?.getD 0) wr hJs (by rw [upto_length]; exact hlt)
      dsimp only at hy
      rw [hm] at hcx
      rw [hmi]
      have hml : (m : Int) < (len : Int) := by omega
      have HM := hide hm
      have HBK := hide hbk
      have HNX := hide hnx
      have HBX := hide hbx
      clear hcc hm hbk hnx hbx
      gi_wp2
      refine hR.mono ?_
      rintro e W3 (⟨rfl, hJ3, hk3⟩ | ⟨rfl, hJx3⟩)
      · gi_wp2
        go_roundw
        case rel => exact ⟨k + 1, by omega, by have := HM.out; first | go_num | (congr 1; omega), by rw [upto_succ, HBK.out]; exact hJ3, kpB_t ⟨HNX.out, HBX.out⟩ hk3⟩
        case measure => simp [intOf]; try omega
      · gi_wp2
        refine bodyPost_ret (results_none rfl _ _ _) rfl ?_
        exact ⟨⟨_, rfl⟩, .inr ⟨_, ⟨k + 1, by omega, by rw [upto_succ, HBK.out]⟩, hJx3⟩⟩
    · have hkl : k = len := by omega
      subst hkl
      have hneg : (k : Int) - 1 - (k : Int) = -1 := by omega
      rw [hneg]
      gi_wp2
      go_end0
      exact ⟨⟨_, rfl⟩, .inl ⟨_, rfl, hJs⟩⟩
set_option maxHeartbeats 1000000 in
theorem back_in (F : Fence) (n : Nat) (h5 : F.fn 90) (hro : F.round = none) (a : Option Addr) (len cap : Nat) (w : World) :
    CallsIn F n Tryd.prog 90 #[.slice a len cap] w fun e w' => e = .returned (.func (.func 95) #[] #[.pointer (some ⟨w.heap.size, 0, none⟩)]) ∧ w' = w.alloc (.cells #[.slice a len cap] 30) := by
  refine callsIn_of_wp Tryd.func90 rfl h5 ?_ hro
  simp only [Tryd.ntmps90, List.size_toArray, List.length_cons, List.length_nil, Nat.reduceAdd, Nat.reduceSub, Array.replicate_succ, Array.replicate_zero, List.push_toArray, List.append_toArray, List.nil_append, List.cons_append]
  gi_wp2
  go_ret
  exact ⟨rfl, rfl⟩
theorem back_stops (F : Fence) (n : Nat) (h7 : F.fn 95) (hro : F.round = none) (hn : 1 ≤ n) (Bs n₀ : Nat) (ad : Option Addr) (len cap : Nat) (zs : List Int) (hlen : zs.length = len) (hreach : len ≤ 1048576) (w : World) (hBs : Bs < w.heap.size) (hn₀ : n₀ ≤ w.heap.size)
    (hc : w.cell? ⟨Bs, 0, none⟩ = some (.slice ad len cap)) (hI : RowAt .i64 w ad zs n₀) :
    SeqStopsK F n Tryd.prog 95 #[.pointer (some ⟨Bs, 0, none⟩)] (fun x : Nat × Int => #[Value.int .i64 (x.1 : Int), Value.int .i64 x.2]) (KpB n₀ Bs) (fun ys => ys = upto (bkF zs) len)
      (fun pre => ∃ k, k ≤ len ∧ pre = upto (bkF zs) k) len w := fun l J Jx W hW _ _ hY h0 =>
  back1_in F n h7 hro hn l Bs n₀ len cap ad zs hlen hreach J Jx hY W ((hW.cell (p := ⟨Bs, 0, none⟩) hBs).trans hc) (rwAt_go hI (hW.mono hn₀)) h0
end Go.Proofs.YtfohfljdgmlibaaDoor
