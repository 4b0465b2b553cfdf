/-
  Contracts: what may follow a position, by the specification.
-/
import Derived.Test.YtfohfljdgmlibaaDoorS15
import Derived.Test.YtfohfljdgmlibaaDoorS25
import Derived.Deep.DeepCutAuto
namespace Go.Proofs.YtfohfljdgmlibaaDoor
open Go.RowKit Go.Joins
set_option linter.unusedVariables false
set_option linter.unusedSimpArgs false
/-- While the row is gathered: the row, a node's own block, nothing older turned. -/
def FwT (w wr : World) (sa : Option Addr) (sc : Nat) (O : List Int) (NB : Nat) (nd : Array Value) : Prop := IntR w.heap.size wr sa sc O ∧ wr.heap[NB]? = some (.cells nd 34 (0, 0)) ∧ Below w.heap.size w wr
theorem fwT_go {w wr w2 : World} {sa : Option Addr} {sc : Nat} {O : List Int} {NB : Nat} {nd : Array Value} (h : FwT w wr sa sc O NB nd) (hb : Below wr.heap.size wr w2) : FwT w w2 sa sc O NB nd :=
  ⟨gOwn_after h.1 hb, (hb.block NB (Array.getElem?_eq_some_iff.1 h.2.1).1).trans h.2.1, h.2.2.trans (hb.mono h.2.2.size)⟩
theorem fwT_ne {w wr : World} {sa : Option Addr} {sc : Nat} {O : List Int} {NB : Nat} {nd : Array Value} (h : FwT w wr sa sc O NB nd) : (Value.slice sa O.length sc).ownBlock ≠ some NB := fun e => by
  rcases h.1.2 with ⟨hv, -⟩ | ⟨g, cap, cur, hv, hB, hh, -⟩
  · rw [hv] at e; simp [Value.ownBlock] at e
  · rw [hv] at e
    simp only [Value.ownBlock, Option.some.injEq] at e
    subst e
    rw [h.2.1] at hh
    simp at hh
theorem fwT_app {w wr w9 : World} {sa a9 : Option Addr} {sc c9 : Nat} {O P : List Int} {NB : Nat} {nd : Array Value} (h : FwT w wr sa sc O NB nd) (ho : w9.ownsRow w.heap.size 2 1 (.slice a9 (O.length + P.length) c9) (O.length + P.length) (O.map (Value.int .i64) ++ P.map (Value.int .i64))) (hg : wr.grownBy w9 (Value.slice sa O.length sc).ownBlock) : FwT w w9 a9 c9 (O ++ P) NB nd :=
  ⟨intR_join ho, (hg.block NB (Array.getElem?_eq_some_iff.1 h.2.1).1 (fun e => fwT_ne h e.symm)).trans h.2.1, h.2.2.grown hg h.2.2.size (fun k hk => (h.1.lt k hk).1)⟩
theorem fwT_cell {w wr : World} {sa : Option Addr} {sc : Nat} {O : List Int} {NB : Nat} {nd : Array Value} (h : FwT w wr sa sc O NB nd) (i : Nat) : wr.cell? ⟨NB, i, none⟩ = nd[i]? := by rw [cell_of_row wr NB i _ _ (0, 0) h.2.1]
theorem fwT_new {w wr : World} {sa : Option Addr} {sc : Nat} {O : List Int} (nd : Array Value) (h1 : IntR w.heap.size wr sa sc O) (h2 : Below w.heap.size w wr) : FwT w (wr.alloc (.cells nd 34)) sa sc O wr.heap.size nd :=
  ⟨World.ownsRow.alloc h1 _, heap_alloc_new wr _, h2.alloc h2.size _⟩
set_option maxRecDepth 100000 in
set_option maxHeartbeats 16000000 in
theorem s_follow (D : Pn) (n b0 off cap : Nat) (z : Int) (w : World) (hRN : RN D n) (hbs : b0 < w.heap.size) (hr : PnRow w b0 off D w.heap.size) :
    Calls Tryd.prog 47 #[.slice (some ⟨b0, off, none⟩) n cap, .int .i64 z] w (IntAns (srtL (foL D z n)) w) := by
  obtain ⟨i0, hi0, hz0, hz1, hz2⟩ := info_parts info64
  have HR := hide hr
  have HRN := hide hRN
  have hn40 := hRN.2.1
  have HED := hide (fun (rev : Bool) (c : Nat) (hc : c < n) (W : World) (hW : Below w.heap.size w W) => s_edge D n b0 off cap rev hRN n c hc hc W (Nat.lt_of_lt_of_le hbs hW.size) (pnRow_up (pnRow_go hr hbs hW) hW.size))
  have HNL := hide (fun (c : Nat) (hc : c < n) (W : World) (hW : Below w.heap.size w W) => s_null D n b0 off cap hRN n c hc hc W (Nat.lt_of_lt_of_le hbs hW.size) (pnRow_up (pnRow_go hr hbs hW) hW.size))
  clear hr hRN
  go_enter Tryd.func47, Tryd.ntmps47
  go_wp2
  go_loopw [5, 6] (fun ov mv wr => ∃ (i : Nat) (sa : Option Addr) (sc : Nat), i ≤ n ∧ mv = .int .i64 i ∧ ov = .slice sa (foL D z i).length sc ∧ Hid (IntR w.heap.size wr sa sc (foL D z i)) ∧ Hid (Below w.heap.size w wr)) (fun _ mv _ => n - (intOf mv).toNat)
  case atStart => exact ⟨0, _, 0, Nat.zero_le _, rfl, rfl, hide (intR_zero w), hide ((Below.refl _ _).alloc (Nat.le_refl _) _)⟩
  case round =>
    obtain ⟨i, sa, sc, hi, rfl, rfl, HS, HB⟩ := hrel
    by_cases hlt : i < n
    · obtain ⟨ad, cp, hc0, hat, hcp⟩ := HR.out i (by rw [HRN.out.1]; exact hlt)
      have hc := pnCells_go hc0 hbs HB.out
      obtain ⟨c0, c1, c2, c3⟩ := hc
      have hin : (i : Int) < (n : Int) := by omega
      have hi00 : (0 : Int) ≤ (i : Int) := by omega
      have hbl : b0 < wr.heap.size := Nat.lt_of_lt_of_le hbs HB.out.size
      have HKID := hide (HRN.out.2.2.2.1 i hlt)
      have hkl := rn_klen HRN.out hlt
      have hfl := foL_len HRN.out z i (by omega)
      have hsl := sgL_len HRN.out hlt z
      have HSK := hide (skL_len HRN.out hlt z)
      have HSQ := hide (rn_seq HRN.out hlt)
      have HES := hide (fun (rev : Bool) (c : Nat) (hc : c < n) => ed_small9 (rev := rev) HRN.out hc)
      have HFO : Hid (foL D z (i + 1) = foL D z i ++ ndL D z i) := hide rfl
      have HSG : Hid (sgL D z i = if 2 ≤ D.OC i ∧ z ∈ ed D true i then ed D false i else []) := hide rfl
      have HND : Hid (ndL D z i = sgL D z i ++ (if D.K i = 2 then skL D z (D.KL i) (D.KL i).length else [])) := hide rfl
      have hkinds := rn_kinds HRN.out hlt
      obtain ⟨K, hK⟩ : ∃ K, D.K i = K := ⟨_, rfl⟩
      obtain ⟨NM, hNM⟩ : ∃ NM, D.NM i = NM := ⟨_, rfl⟩
      obtain ⟨OC, hOC⟩ : ∃ OC, D.OC i = OC := ⟨_, rfl⟩
      obtain ⟨L, hL⟩ : ∃ L, D.KL i = L := ⟨_, rfl⟩
      rw [hK] at c0 hkinds HND
      rw [hNM] at c1
      rw [hL] at c2 HKID hat hkl HSK HSQ HND
      rw [hOC] at c3 HSG
      have HAT := hide hat
      obtain ⟨O, hO⟩ : ∃ O, foL D z i = O := ⟨_, rfl⟩
      rw [hO] at HS HFO hfl ⊢
      have HN0 := hide (fwT_new #[.int .i64 K, .string NM, .slice ad L.length cp, .int .i64 OC] HS.out HB.out)
      clear hat hcp hK hNM hOC hL hO hc0
      go_upto_region 6 with fail
      obtain ⟨NB, hNB⟩ : ∃ NB, wr.heap.size = NB := ⟨_, rfl⟩
      obtain ⟨wy, hwy⟩ : ∃ wy, wr.alloc (.cells #[.int .i64 K, .string NM, .slice ad L.length cp, .int .i64 OC] 34) = wy := ⟨_, rfl⟩
      rw [hwy, hNB] at HN0
      rw [hNB, hwy]
      clear hwy hNB c0 c1 c2 c3 HS HB hbl
      go_cut [30] (fun v wx => v = .bool (decide (2 ≤ OC ∧ z ∈ ed D true i)) ∧ FwT w wx sa sc O NB #[.int .i64 K, .string NM, .slice ad L.length cp, .int .i64 OC])
      case first =>
        have a3 := fwT_cell HN0.out 3
        simp only [List.getElem?_toArray, List.getElem?_cons_zero, List.getElem?_cons_succ] at a3
        by_cases ho : 2 ≤ OC
        · have hod : decide (OC ≥ 2) = true := decide_eq_true ho
          have CE := hide (HED.out true i hlt wy HN0.out.2.2)
          have hes := HES.out true i hlt
          obtain ⟨P, hP⟩ : ∃ P, ed D true i = P := ⟨_, rfl⟩
          have HD : Hid (decide (2 ≤ OC ∧ z ∈ ed D true i) = decide (z ∈ P)) := hide (by rw [← hP]; simp [ho])
          rw [hP] at CE hes
          clear hP
          go_wp2_with (first
            | (go_at_call 79; refine CE.out.mono ?_; rintro r w2 ⟨ad2, c2', rfl, ho2, hb2⟩; have HP2 := hide ho2; have HT2 := hide (fwT_go HN0.out hb2); clear ho2 hb2)
            | (go_at_call 49; refine (s_has ad2 P.length c2' P z w2 rfl (by omega) (own_rowAt9 HP2.out)).mono ?_; rintro r9 w9 ⟨rfl, h9⟩; rw [h9]; clear h9 w9))
          go_meet
          exact ⟨by rw [HD.out], HT2.out⟩
        · have HD : Hid (decide (2 ≤ OC ∧ z ∈ ed D true i) = false) := hide (by simp [ho])
          have hod : decide (OC ≥ 2) = false := decide_eq_false ho
          have hoi : OC < 2 := by omega
          clear ho
          go_wp2
          go_meet
          exact ⟨by rw [HD.out], HN0.out⟩
      case rest =>
        obtain ⟨rfl, hT1⟩ := hcut
        have HT1 := hide hT1
        clear hT1 HN0
        go_upto_if 30 with fail
        go_cut [5] (fun v wx => ∃ a1 c1', v = .slice a1 (O ++ sgL D z i).length c1' ∧ FwT w wx a1 c1' (O ++ sgL D z i) NB #[.int .i64 K, .string NM, .slice ad L.length cp, .int .i64 OC])
        case first =>
          by_cases hd : 2 ≤ OC ∧ z ∈ ed D true i
          · rw [decide_eq_true hd]
            have HE : Hid (sgL D z i = ed D false i) := hide (by rw [HSG.out, if_pos hd])
            have CE := hide (HED.out false i hlt wc HT1.out.2.2)
            have hes := HES.out false i hlt
            obtain ⟨P, hP⟩ : ∃ P, ed D false i = P := ⟨_, rfl⟩
            rw [hP] at CE HE hes
            clear hd hP
            go_wp2_with (first
              | (go_at_call 79; refine CE.out.mono ?_; rintro r w2 ⟨ad2, c2', rfl, ho2, hb2⟩; have HP2 := hide ho2; have HT2 := hide (fwT_go HT1.out hb2); clear ho2 hb2)
              | (at_builtin; refine wpList_append_src (by rfl) (.tmp 31) (.tmp 34) 30 (by rfl) w.heap.size 2 i0 (.int .i64 0) 1 8 Tryd.underlying30 hi0 hz0 hz1 hz2 rfl (by decide) (.slice sa O.length sc) O.length (O.map (Value.int .i64)) (by rfl) HT2.out.1 ad2 P.length c2' (P.map (Value.int .i64)) (by rfl) (by rw [List.length_map, Nat.mul_one]) (fun hp => intR_src HP2.out hp) (ints_one _) (by unfold maxLen; omega) (by omega) HT2.out.2.2.size ?_; intro a9 c9 w9 hown9 hgr9; have HT9 := hide (fwT_app HT2.out hown9 hgr9); clear hown9 hgr9))
            go_meet
            exact ⟨a9, c9, by rw [HE.out, List.length_append], by rw [HE.out]; exact HT9.out⟩
          · rw [decide_eq_false hd]
            have HE : Hid (sgL D z i = []) := hide (by rw [HSG.out, if_neg hd])
            clear hd
            go_wp2
            go_meet
            exact ⟨sa, sc, by rw [HE.out, List.append_nil], by rw [HE.out, List.append_nil]; exact HT1.out⟩
        case rest =>
          obtain ⟨a1, c1', rfl, hT2⟩ := hcut
          have HT2 := hide hT2
          have hol : (O ++ sgL D z i).length ≤ 1640 * i + 40 := by rw [List.length_append]; omega
          obtain ⟨O1, hO1⟩ : ∃ O1, O ++ sgL D z i = O1 := ⟨_, rfl⟩
          have HF1 : Hid (foL D z (i + 1) = O1 ++ (if K = 2 then skL D z L L.length else [])) := hide (by rw [HFO.out, HND.out, ← List.append_assoc, hO1])
          rw [hO1] at HT2 hol
          rw [hO1]
          have a0 := fwT_cell HT2.out 0
          have a2 := fwT_cell HT2.out 2
          simp only [List.getElem?_toArray, List.getElem?_cons_zero, List.getElem?_cons_succ] at a0 a2
          clear hT2 hO1 HT1 HFO HND HSG
          by_cases hk : K = 2
          · subst hk
            rw [if_pos rfl] at HF1
            go_wp2
            go_loopw [5, 8] (fun ov mv wr => ∃ (a : Nat) (sa : Option Addr) (sc : Nat), a ≤ L.length ∧ mv = .int .i64 a ∧ ov = .slice sa (O1 ++ skL D z L a).length sc ∧ Hid (FwT w wr sa sc (O1 ++ skL D z L a) NB #[.int .i64 2, .string NM, .slice ad L.length cp, .int .i64 OC])) (fun _ mv _ => L.length - (intOf mv).toNat)
            case atStart => exact ⟨0, a1, c1', Nat.zero_le _, rfl, by show _ = Value.slice a1 (O1 ++ []).length c1'; rw [List.append_nil], hide (by show FwT w wc a1 c1' (O1 ++ []) NB _; rw [List.append_nil]; exact HT2.out)⟩
            case round =>
              clear HT2 a0 a2
              obtain ⟨a, sb, sd, ha, rfl, rfl, HT2⟩ := hrel
              have a2 := fwT_cell HT2.out 2
              simp only [List.getElem?_toArray, List.getElem?_cons_zero, List.getElem?_cons_succ] at a2
              have hskl := HSK.out a
              by_cases hla : a < L.length
              · obtain ⟨b9, off9, rfl, hb9, hc9⟩ := HAT.out (fun h => by rw [h] at hla; exact absurd hla (Nat.not_lt_zero _))
                have HC9 := hide hc9
                have k0 := (HT2.out.2.2.cell (p := ⟨b9, off9 + a, none⟩) hb9).trans (HC9.out a hla)
                have hkk := HKID.out (L[a]?.getD 0) (by rw [List.getElem?_eq_getElem hla]; exact List.getElem_mem hla)
                have HSK1 : Hid (skL D z L (a + 1) = skL D z L a ++ kdL D z L a) := hide rfl
                have HKD : Hid (kdL D z L a = if z ∈ ed D true (L[a]?.getD 0).toNat then seqE (fun k => ed D false k.toNat) (fun k => nl D k.toNat) (L.drop (a + 1)) else []) := hide rfl
                obtain ⟨v, hv⟩ : ∃ v, L[a]?.getD 0 = v := ⟨_, rfl⟩
                rw [hv] at k0 hkk HKD
                obtain ⟨c, rfl⟩ : ∃ c : Nat, v = (c : Int) := ⟨v.toNat, by omega⟩
                rw [show ((c : Int)).toNat = c by omega] at HKD
                have CE := hide (HED.out true c (by omega) _ HT2.out.2.2)
                have hes := HES.out true c (by omega)
                obtain ⟨P, hP⟩ : ∃ P, ed D true c = P := ⟨_, rfl⟩
                rw [hP] at CE hes HKD
                obtain ⟨O2, hO2⟩ : ∃ O2, O1 ++ skL D z L a = O2 := ⟨_, rfl⟩
                have HO2 : Hid (O1 ++ skL D z L (a + 1) = O2 ++ kdL D z L a) := hide (by rw [HSK1.out, ← List.append_assoc, hO2])
                have hol2 : O2.length ≤ 1640 * i + 40 + 40 * a := by rw [← hO2, List.length_append]; omega
                rw [hO2] at HT2 ⊢
                have hai : (a : Int) < (L.length : Int) := by omega
                have ha00 : (0 : Int) ≤ (a : Int) := by omega
                clear hc9 hv hP hO2 HSK1 hskl
                by_cases hin2 : z ∈ P
                · rw [if_pos hin2] at HKD
                  have HIN : Hid (decide (z ∈ P) = true) := hide (decide_eq_true hin2)
                  clear hin2
                  go_wp2_with (first
                    | (go_at_call 79; refine CE.out.mono ?_; rintro r w2 ⟨ad2, c2', rfl, ho2, hb2⟩; have HP2 := hide ho2; have HT3 := hide (fwT_go HT2.out hb2); clear ho2 hb2)
                    | (go_at_call 49; refine (s_has ad2 P.length c2' P z w2 rfl (by omega) (own_rowAt9 HP2.out)).mono ?_; rintro r9 w9 ⟨rfl, h9⟩; rw [h9, HIN.out]; clear h9 w9))
                  obtain ⟨R, hR⟩ : ∃ R, L.drop (a + 1) = R := ⟨_, rfl⟩
                  have hRl : a + 1 + R.length = L.length := by rw [← hR, List.length_drop]; omega
                  have HRI : Hid (∀ j, R[j]?.getD 0 = L[a + 1 + j]?.getD 0) := hide (fun j => by rw [← hR, List.getElem?_drop])
                  have HSQ1 := hide (HSQ.out (a + 1))
                  rw [hR] at HSQ1 HKD
                  have HRL := hide hRl
                  clear hR k0 a2
                  go_loopw [5, 9] (fun ov mv wr => ∃ (j : Nat) (sa : Option Addr) (sc : Nat), j ≤ R.length ∧ mv = .int .i64 ((a + 1 + j : Nat) : Int) ∧ ov = .slice sa (O2 ++ seqE (fun k => ed D false k.toNat) (fun k => nl D k.toNat) (R.take j)).length sc ∧ Hid (FwT w wr sa sc (O2 ++ seqE (fun k => ed D false k.toNat) (fun k => nl D k.toNat) (R.take j)) NB #[.int .i64 2, .string NM, .slice (some ⟨b9, off9, none⟩) L.length cp, .int .i64 OC]) ∧ Hid (∀ k ∈ R.take j, nl D k.toNat = true)) (fun _ mv _ => L.length - (intOf mv).toNat)
                  case atStart => exact ⟨0, sb, sd, Nat.zero_le _, by go_num, by show _ = Value.slice sb (O2 ++ []).length sd; rw [List.append_nil], hide (by show FwT w _ sb sd (O2 ++ []) NB _; rw [List.append_nil]; exact HT3.out), hide (fun k hk => by simp at hk)⟩
                  case round =>
                    clear HT2 HT3 HP2
                    obtain ⟨j, se, sf, hj, rfl, rfl, HT2, HA⟩ := hrel
                    have a2 := fwT_cell HT2.out 2
                    simp only [List.getElem?_toArray, List.getElem?_cons_zero, List.getElem?_cons_succ] at a2
                    by_cases hlj : j < R.length
                    · have hjL : a + 1 + j < L.length := by rw [← HRL.out]; omega
                      have k1 := (HT2.out.2.2.cell (p := ⟨b9, off9 + (a + 1 + j), none⟩) hb9).trans (HC9.out (a + 1 + j) hjL)
                      have hkk2 := HKID.out (L[a + 1 + j]?.getD 0) (by rw [List.getElem?_eq_getElem hjL]; exact List.getElem_mem hjL)
                      rw [← HRI.out j] at k1 hkk2
                      obtain ⟨v, hv⟩ : ∃ v, R[j]?.getD 0 = v := ⟨_, rfl⟩
                      have hRv : R[j] = v := by rw [← hv, List.getElem?_eq_getElem hlj]; rfl
                      have HMM : Hid (R.take (j + 1) = R.take j ++ [v]) := hide (by rw [List.take_succ_eq_append_getElem hlj, hRv])
                      have HMD : Hid (R = R.take j ++ v :: R.drop (j + 1)) := hide (by rw [← hRv, ← List.drop_eq_getElem_cons hlj, List.take_append_drop])
                      have HSN : Hid (seqE (fun k => ed D false k.toNat) (fun k => nl D k.toNat) (R.take (j + 1)) = seqE (fun k => ed D false k.toNat) (fun k => nl D k.toNat) (R.take j) ++ ed D false v.toNat) := hide (by rw [HMM.out, seqE_snoc, if_pos (all_take HA.out)])
                      rw [hv] at k1 hkk2
                      obtain ⟨d, rfl⟩ : ∃ d : Nat, v = (d : Int) := ⟨v.toNat, by omega⟩
                      rw [show ((d : Int)).toNat = d by omega] at HSN
                      have hsq2 := HSQ1.out (j + 1)
                      have CE2 := hide (HED.out false d (by omega) _ HT2.out.2.2)
                      have CNL := hide (fun (W : World) (hW : Below w.heap.size w W) => HNL.out d (by omega) W hW)
                      rw [HSN.out, List.length_append] at hsq2
                      obtain ⟨T, hT9⟩ : ∃ T, seqE (fun k => ed D false k.toNat) (fun k => nl D k.toNat) (R.take j) = T := ⟨_, rfl⟩
                      obtain ⟨P2, hP2⟩ : ∃ P2, ed D false d = P2 := ⟨_, rfl⟩
                      rw [hT9] at HSN hsq2 HT2 ⊢
                      rw [hP2] at HSN hsq2 CE2
                      have hol3 : (O2 ++ T).length + P2.length ≤ 1640 * i + 80 + 40 * a := by rw [List.length_append]; omega
                      obtain ⟨O3, hO3⟩ : ∃ O3, O2 ++ T = O3 := ⟨_, rfl⟩
                      have HO3 : Hid (O2 ++ (T ++ P2) = O3 ++ P2) := hide (by rw [← List.append_assoc, hO3])
                      rw [hO3] at HT2 hol3 ⊢
                      have hji : ((a + 1 + j : Nat) : Int) < (L.length : Int) := by omega
                      have hj00 : (0 : Int) ≤ ((a + 1 + j : Nat) : Int) := by omega
                      have hjt : (((a + 1 + j : Nat) : Int)).toNat = a + 1 + j := by omega
                      obtain ⟨jj, hjj⟩ : ∃ jj, a + 1 + j = jj := ⟨_, rfl⟩
                      have HJJ := hide hjj
                      rw [hjj] at k1 hji hj00 hjt ⊢
                      obtain ⟨Z, hZ⟩ : ∃ Z, nl D d = Z := ⟨_, rfl⟩
                      rw [hZ] at CNL
                      have HZ := hide hZ
                      have K1 := hide k1
                      have hjx : jj ≤ 1048576 := by omega
                      clear hv hRv hT9 hP2 hO3 hZ hjj hjL
                      cases Z
                      · go_wp2_with (first
                          | (go_at_call 79; refine CE2.out.mono ?_; rintro r w2 ⟨ad2, c2', rfl, ho2, hb2⟩; have HP2 := hide ho2; have HT3 := hide (fwT_go HT2.out hb2); clear ho2 hb2)
                          | (at_builtin; refine wpList_append_src (by rfl) (.tmp 65) (.tmp 72) 30 (by rfl) w.heap.size 2 i0 (.int .i64 0) 1 8 Tryd.underlying30 hi0 hz0 hz1 hz2 rfl (by decide) (.slice se O3.length sf) O3.length (O3.map (Value.int .i64)) (by rfl) HT3.out.1 ad2 P2.length c2' (P2.map (Value.int .i64)) (by rfl) (by rw [List.length_map, Nat.mul_one]) (fun hp => intR_src HP2.out hp) (ints_one _) (by unfold maxLen; omega) (by omega) HT3.out.2.2.size ?_; intro a9 c9 w9 hown9 hgr9; have HT9 := hide (fwT_app HT3.out hown9 hgr9); have a2 := fwT_cell HT9.out 2; simp only [List.getElem?_toArray, List.getElem?_cons_zero, List.getElem?_cons_succ] at a2; have k1 := (HT9.out.2.2.cell (p := ⟨b9, off9 + jj, none⟩) hb9).trans ((HT2.out.2.2.cell (p := ⟨b9, off9 + jj, none⟩) hb9).symm.trans K1.out); clear hown9 hgr9)
                          | (go_at_call 80; refine (CNL.out _ HT9.out.2.2).mono ?_; rintro r w3 ⟨rfl, hb3⟩; have HT4 := hide (fwT_go HT9.out hb3); clear hb3))
                        go_roundw
                        case rel =>
                          have hkd : kdL D z L a = T ++ P2 := by
                            rw [HKD.out, HMD.out, seqE_stop _ _ (by simpa using HZ.out), ← HMM.out, HSN.out]
                          exact ⟨a + 1, a9, c9, by omega, by go_num, by rw [HO2.out, hkd, HO3.out, List.length_append], hide (by rw [HO2.out, hkd, HO3.out]; exact HT4.out)⟩
                        case measure => simp [intOf]; omega
                      · go_wp2_with (first
                          | (go_at_call 79; refine CE2.out.mono ?_; rintro r w2 ⟨ad2, c2', rfl, ho2, hb2⟩; have HP2 := hide ho2; have HT3 := hide (fwT_go HT2.out hb2); clear ho2 hb2)
                          | (at_builtin; refine wpList_append_src (by rfl) (.tmp 65) (.tmp 72) 30 (by rfl) w.heap.size 2 i0 (.int .i64 0) 1 8 Tryd.underlying30 hi0 hz0 hz1 hz2 rfl (by decide) (.slice se O3.length sf) O3.length (O3.map (Value.int .i64)) (by rfl) HT3.out.1 ad2 P2.length c2' (P2.map (Value.int .i64)) (by rfl) (by rw [List.length_map, Nat.mul_one]) (fun hp => intR_src HP2.out hp) (ints_one _) (by unfold maxLen; omega) (by omega) HT3.out.2.2.size ?_; intro a9 c9 w9 hown9 hgr9; have HT9 := hide (fwT_app HT3.out hown9 hgr9); have a2 := fwT_cell HT9.out 2; simp only [List.getElem?_toArray, List.getElem?_cons_zero, List.getElem?_cons_succ] at a2; have k1 := (HT9.out.2.2.cell (p := ⟨b9, off9 + jj, none⟩) hb9).trans ((HT2.out.2.2.cell (p := ⟨b9, off9 + jj, none⟩) hb9).symm.trans K1.out); clear hown9 hgr9)
                          | (go_at_call 80; refine (CNL.out _ HT9.out.2.2).mono ?_; rintro r w3 ⟨rfl, hb3⟩; have HT4 := hide (fwT_go HT9.out hb3); clear hb3))
                        go_roundw
                        case rel =>
                          exact ⟨j + 1, a9, c9, by omega, by have := HJJ.out; go_num, by rw [HSN.out, HO3.out, List.length_append], hide (by rw [HSN.out, HO3.out]; exact HT4.out), hide (fun k hk => by
                            rw [HMM.out] at hk
                            rcases List.mem_append.1 hk with hk | hk
                            · exact HA.out k hk
                            · simp at hk; subst hk; simpa using HZ.out)⟩
                        case measure => simp [intOf]; omega
                    · have hjr : j = R.length := by omega
                      subst hjr
                      rw [List.take_length, ← HKD.out, ← HO2.out] at HT2 ⊢
                      have hjg : ¬ (((a + 1 + R.length : Nat) : Int) < (L.length : Int)) := by rw [HRL.out]; omega
                      rw [HRL.out] at hjg ⊢
                      go_wp2
                      go_roundw
                      case rel => exact ⟨a + 1, se, sf, by omega, by go_num, rfl, HT2⟩
                      case measure => simp [intOf]; omega
                · rw [if_neg hin2] at HKD
                  have HIN : Hid (decide (z ∈ P) = false) := hide (decide_eq_false hin2)
                  rw [HKD.out, List.append_nil] at HO2
                  clear hin2
                  go_wp2_with (first
                    | (go_at_call 79; refine CE.out.mono ?_; rintro r w2 ⟨ad2, c2', rfl, ho2, hb2⟩; have HP2 := hide ho2; have HT3 := hide (fwT_go HT2.out hb2); clear ho2 hb2)
                    | (go_at_call 49; refine (s_has ad2 P.length c2' P z w2 rfl (by omega) (own_rowAt9 HP2.out)).mono ?_; rintro r9 w9 ⟨rfl, h9⟩; rw [h9, HIN.out]; clear h9 w9))
                  go_roundw
                  case rel => exact ⟨a + 1, sb, sd, by omega, by go_num, by rw [HO2.out], hide (by rw [HO2.out]; exact HT3.out)⟩
                  case measure => simp [intOf]; omega
              · have hal : a = L.length := by omega
                subst hal
                rw [← HF1.out] at HT2 ⊢
                go_wp2
                go_roundw
                case rel => exact ⟨i + 1, sb, sd, by omega, by go_num, rfl, hide HT2.out.1, hide HT2.out.2.2⟩
                case measure => simp [intOf]; omega
          · rw [if_neg hk, List.append_nil] at HF1
            have hkn : (K != 2) = true := by simpa using hk
            have hke : (K == 2) = false := by simpa using hk
            clear hk
            go_wp2
            go_roundw
            case rel => exact ⟨i + 1, a1, c1', by omega, by go_num, by rw [HF1.out], hide (by rw [HF1.out]; exact HT2.out.1), hide HT2.out.2.2⟩
            case measure => simp [intOf]; omega
    · have hin : i = n := by omega
      subst hin
      have hfl := foL_len HRN.out z i (Nat.le_refl _)
      obtain ⟨O, hO⟩ : ∃ O, foL D z i = O := ⟨_, rfl⟩
      rw [hO] at HS hfl ⊢
      have HOO := hide hO
      clear hO
      go_wp2_with (first
        | (go_at_call 78; refine (s_sorted sa O.length sc O wr rfl (by omega) (own_rowAt9 HS.out)).mono ?_; rintro r w3 ⟨ad3, c3, rfl, ho3, hb3⟩; have HO3 := hide ho3; have HB3 := hide (HB.out.trans (hb3.mono HB.out.size)); clear ho3 hb3))
      go_ret
      exact ⟨ad3, c3, by rw [HOO.out]; rfl, by rw [HOO.out]; exact gOwn_lower HO3.out HB.out.size, HB3.out⟩
end Go.Proofs.YtfohfljdgmlibaaDoor
