/-
  Contract: the positions at which rows of a node begin or end, by the specification.
-/
import Derived.Test.YtfohfljdgmlibaaDoorU7
import Derived.Test.YtfohfljdgmlibaaDoorU13
namespace Go.Proofs.YtfohfljdgmlibaaDoor
open Go.RowKit Go.Joins
set_option linter.unusedVariables false
set_option linter.unusedSimpArgs false
theorem flat_take (g : Int → List Int) (M : List Int) (k : Nat) : ((M.take k).map g).flatten.length ≤ (M.map g).flatten.length := by
  have h : ((M.take k).map g).flatten ++ ((M.drop k).map g).flatten = (M.map g).flatten := by rw [← List.flatten_append, ← List.map_append, List.take_append_drop]
  have := congrArg List.length h
  rw [List.length_append] at this
  omega
theorem flat_ord (g : Int → List Int) (rev : Bool) (L : List Int) : ((ordL rev L).map g).flatten.length = (L.map g).flatten.length := by
  unfold ordL
  split
  · exact flat_rev _ _
  · rfl
theorem seqE_stop {g : Int → List Int} {nul : Int → Bool} (k : Int) (R : List Int) (hk : nul k = false) : ∀ (L : List Int), seqE g nul (L ++ k :: R) = seqE g nul (L ++ [k])
  | [] => by simp [seqE, hk]
  | j :: L => by rw [List.cons_append, List.cons_append, seqE, seqE, seqE_stop k R hk L]
theorem all_take {nul : Int → Bool} {M : List Int} {m : Nat} (h : ∀ j ∈ M.take m, nul j = true) : (M.take m).all nul = true := List.all_eq_true.2 h
theorem intR_src {B : Nat} {w : World} {ad : Option Addr} {c : Nat} {P : List Int} (h : IntR B w ad c P) (h0 : 0 < P.length) : ∃ ad', ad = some ad' ∧ ∀ j u, (P.map (Value.int .i64))[j]? = some u → w.cell? (ad'.add j) = some u := by
  obtain ⟨g, rfl, -, -, hc⟩ := intR_cells h h0
  exact ⟨_, rfl, row_src (b := g) (off := 0) (fun j hj => by rw [Nat.zero_add]; exact hc j hj)⟩
theorem intR_join {B : Nat} {w2 : World} {ad : Option Addr} {c : Nat} {L P : List Int} (h : w2.ownsRow B 2 1 (.slice ad (L.length + P.length) c) (L.length + P.length) (L.map (Value.int .i64) ++ P.map (Value.int .i64))) : IntR B w2 ad c (L ++ P) := by
  unfold IntR
  rw [List.length_append, List.map_append]
  exact h
theorem intR_low {B B' : Nat} {w : World} {ad : Option Addr} {c : Nat} {L : List Int} (h : IntR B w ad c L) (hB : B' ≤ B) : IntR B' w ad c L := gOwn_lower h hB
theorem intR_made (w : World) (o : Obj) : IntR (w.heap.size + 1) ((w.alloc o).alloc (.cells #[] 2)) (some ⟨w.heap.size + 1, 0, none⟩) 0 [] := by
  have h : IntR (w.heap.size + 1) ((w.alloc o).alloc (.cells #[] 2)) (some ⟨(w.alloc o).heap.size, 0, none⟩) 0 [] := World.ownsRow_made (base := w.heap.size + 1) (e := 2) (size := 1) (w.alloc o) #[] 0 (by simp) (Nat.zero_le _) rfl
  rw [show (w.alloc o).heap.size = w.heap.size + 1 by simp] at h
  exact h
theorem intR_one (w : World) (o : Obj) (z : Int) : IntR w.heap.size ((w.alloc o).alloc (.cells #[.int .i64 z] 2)) (some ⟨w.heap.size + 1, 0, none⟩) 1 [z] := by
  have h : IntR w.heap.size ((w.alloc o).alloc (.cells #[.int .i64 z] 2)) (some ⟨(w.alloc o).heap.size, 0, none⟩) 1 [z] := ⟨rfl, .inr ⟨(w.alloc o).heap.size, 1, #[.int .i64 z], rfl, by simp, heap_alloc_new (w.alloc o) _, Nat.le_refl _, by unfold maxLen; omega, rfl, rfl⟩⟩
  rw [show (w.alloc o).heap.size = w.heap.size + 1 by simp] at h
  exact h
theorem nd_grown {w w1 : World} {G : Nat} {k : Int} {nm : ByteArray} {a : Option Addr} {n c : Nat} {oc : Int} {row : Option Nat} (h : NdAt w G k nm a n c oc) (hg : w.grownBy w1 row) (hne : row = some G → False) : NdAt w1 G k nm a n c oc := by
  have hl := ndAt_lt h
  obtain ⟨T, h⟩ := h
  exact ⟨T, (hg.block G hl (fun e => hne e.symm)).trans h⟩
theorem cell_gr9 {w w1 : World} {p : Addr} {v : Value} {row : Option Nat} (hg : w.grownBy w1 row) (h : w.cell? p = some v) (hne : row = some p.block → False) : w1.cell? p = some v := hg.cell h (fun e => hne e.symm)
theorem leaf_kids9 {D : Pn} {i : Nat} (h : nodeB D i = true) (hk : D.K i = 1 ∨ D.K i = 4) : D.KL i = [] := by
  unfold nodeB ndB at h
  rcases hk with hk | hk
  · rw [hk] at h
    simp at h
    exact h.2.2
  · rw [hk] at h
    simp at h
    exact h.2.2
set_option maxRecDepth 100000 in
set_option maxHeartbeats 8000000 in
theorem s_edge (D : Pn) (n b0 off cap : Nat) (rev : Bool) (hRN : RN D n) : ∀ (k i : Nat), i < k → i < n → ∀ w : World, b0 < w.heap.size → PnRow w b0 off D w.heap.size →
    Calls Tryd.prog 79 #[.slice (some ⟨b0, off, none⟩) n cap, .int .i64 i, .bool rev] w fun r w' => ∃ ad c, r = .returned (.slice ad (ed D rev i).length c) ∧ IntR w.heap.size w' ad c (ed D rev i) ∧ Below w.heap.size w w'
  | 0, i, hk, hi => by omega
  | k + 1, i, hk, hi => by
    intro w hbs hr
    obtain ⟨i0, hi0, hz0, hz1, hz2⟩ := info_parts info64
    have IH := hide (s_edge D n b0 off cap rev hRN k)
    have HR := hide hr
    have HKID := hide (hRN.2.2.2.1 i hi)
    have HLO : Hid (Lo D i) := hide (fun j hj => hRN.2.2.2.1 j (by omega))
    obtain ⟨ad, cp, hc, hat, hcp⟩ := hr i (by rw [hRN.1]; exact hi)
    obtain ⟨c0, c1, c2, c3⟩ := hc
    have hin : (i : Int) < (n : Int) := by omega
    have hi00 : (0 : Int) ≤ (i : Int) := by omega
    have hn40 := hRN.2.1
    have hll := hRN.2.2.2.2.2 i hi
    have hkinds := rn_kinds hRN hi
    have HNB := hide (hRN.2.2.1 i hi)
    have HST := hide (fun (o : Obj) => (Below.refl w.heap.size w).alloc (Nat.le_refl _) o)
    obtain ⟨cc, hcc⟩ := hRN.2.2.2.2.1 i hi
    have htot := (ed_len (rev := rev) (by rw [hRN.1]; exact hRN.2.2.2.1) (i + 1) i cc (by omega) (by rw [hRN.1]; exact hi) hcc).2
    have HNL := hide (fun (c : Nat) (hc : c < n) (W : World) (h1 : b0 < W.heap.size) (h2 : PnRow W b0 off D W.heap.size) => s_null D n b0 off cap hRN (c + 1) c (by omega) hc W h1 h2)
    obtain ⟨K, hK⟩ : ∃ K, D.K i = K := ⟨_, rfl⟩
    obtain ⟨NM, hNM⟩ : ∃ NM, D.NM i = NM := ⟨_, rfl⟩
    obtain ⟨OC, hOC⟩ : ∃ OC, D.OC i = OC := ⟨_, rfl⟩
    obtain ⟨L, hL⟩ : ∃ L, D.KL i = L := ⟨_, rfl⟩
    rw [hK] at c0 hkinds
    rw [hNM] at c1
    rw [hL] at c2 HKID hat hll htot
    rw [hOC] at c3
    have HAT := hide hat
    have HK := hide hK
    have HL := hide hL
    clear hr hat hK hNM hOC hL hRN hcp hcc
    rcases hkinds with rfl | rfl | rfl | rfl
    · have hno : L = [] := by have h9 := leaf_kids9 (HNB.out) (by rw [HK.out]; decide); rw [HL.out] at h9; exact h9
      subst hno
      have HE := hide (ed_leaf (rev := rev) HLO.out (by rw [HK.out]; decide))
      simp only [List.length_nil] at c2
      go_enter Tryd.func79, Tryd.ntmps79
      go_wp2
      go_ret
      rw [HE.out]
      exact ⟨_, 1, rfl, intR_one _ _ _, (HST.out _).alloc (by simp) _⟩
    · have HE := hide (ed_seq (rev := rev) HLO.out HK.out)
      rw [HL.out] at HE
      by_cases hL0 : L = []
      · subst hL0
        simp only [List.length_nil] at c2
        have HE2 : Hid (ed D rev i = []) := hide (by rw [HE.out]; cases rev <;> rfl)
        clear HE
        go_enter Tryd.func79, Tryd.ntmps79
        go_wp2
        go_loopw [8, 9] (fun ov mv wr => ov = .slice (some ⟨w.heap.size + 1, 0, none⟩) 0 0 ∧ mv = .int .i64 0 ∧ wr.cell? ⟨w.heap.size, 2, none⟩ = some (.slice ad 0 cp) ∧ Hid (IntR (w.heap.size + 1) wr (some ⟨w.heap.size + 1, 0, none⟩) 0 []) ∧ Hid (Below w.heap.size w wr)) (fun _ _ _ => 0)
        case atStart => exact ⟨rfl, rfl, by simp, hide (intR_made w _), hide ((HST.out _).alloc (by simp) _)⟩
        case round =>
          obtain ⟨rfl, rfl, q0, HS, HB⟩ := hrel
          go_wp2
          go_ret
          rw [HE2.out]
          exact ⟨_, 0, rfl, intR_low HS.out (by omega), HB.out⟩
      have hl0 : ((L.length : Int) == 0) = false := by
        rw [beq_eq_false_iff_ne]
        intro h9
        exact hL0 (List.length_eq_zero_iff.1 (by omega))
      clear hL0
      obtain ⟨M, hM⟩ : ∃ M, ordL rev L = M := ⟨_, rfl⟩
      have hml : M.length = L.length := by rw [← hM, ordL_len]
      have HMI : Hid (∀ m, m < L.length → M[m]?.getD 0 = L[if rev = true then L.length - 1 - m else m]?.getD 0) := hide (fun m hm => by
        rw [← hM]
        unfold ordL
        cases rev
        · rfl
        · rw [if_pos rfl, if_pos rfl, List.getElem?_reverse hm])
      have htt : (M.map (fun k => ed D rev k.toNat)).flatten.length ≤ i := by rw [← hM, flat_ord]; exact htot
      rw [hM] at HE
      have HML := hide hml
      clear hM hml htot
      go_enter Tryd.func79, Tryd.ntmps79
      go_wp2
      · go_loopw [8, 9] (fun ov mv wr => ∃ (m : Nat) (sa : Option Addr) (sc : Nat), m ≤ L.length ∧ mv = .int .i64 m ∧ ov = .slice sa (seqE (fun k => ed D rev k.toNat) (fun k => nl D k.toNat) (M.take m)).length sc ∧ Hid (IntR (w.heap.size + 1) wr sa sc (seqE (fun k => ed D rev k.toNat) (fun k => nl D k.toNat) (M.take m))) ∧ Hid (NdAt wr w.heap.size 2 NM ad L.length cp OC) ∧ Hid (Below w.heap.size w wr) ∧ Hid (∀ j ∈ M.take m, (fun k => nl D k.toNat) j = true)) (fun _ mv _ => L.length - (intOf mv).toNat)
        case atStart => exact ⟨0, _, 0, Nat.zero_le _, rfl, rfl, hide (by rw [List.take_zero]; exact intR_made w _), hide (ndAt_go (ndAt_new w _ _ _ _ _ _ _) ((Below.refl _ _).alloc (Nat.le_refl _) _)), hide ((HST.out _).alloc (by simp) _), hide (fun j hj => by simp at hj)⟩
        case round =>
          obtain ⟨m, sa, sc, hm, rfl, rfl, HS, HN, HB, HA⟩ := hrel
          obtain ⟨a0, a1, a2, a3⟩ := ndAt_cells HN.out
          by_cases hlt : m < L.length
          · obtain ⟨b9, off9, rfl, hb9, hc9⟩ := HAT.out (fun h => by rw [h] at hlt; exact absurd hlt (Nat.not_lt_zero _))
            have hmM : m < M.length := by rw [HML.out]; exact hlt
            have hkx : (if rev = true then L.length - 1 - m else m) < L.length := by split <;> omega
            have k0 := (HB.out.cell (p := ⟨b9, off9 + (if rev = true then L.length - 1 - m else m), none⟩) hb9).trans (hc9 _ hkx)
            rw [← HMI.out m hlt] at k0
            have hkk := HKID.out (M[m]?.getD 0) (by rw [HMI.out m hlt, List.getElem?_eq_getElem hkx]; exact List.getElem_mem hkx)
            obtain ⟨v, hv⟩ : ∃ v, M[m]?.getD 0 = v := ⟨_, rfl⟩
            have hMv : M[m] = v := by rw [← hv, List.getElem?_eq_getElem hmM]; rfl
            have HMM : Hid (M.take (m + 1) = M.take m ++ [v]) := hide (by rw [List.take_succ_eq_append_getElem hmM, hMv])
            have HMD : Hid (M = M.take m ++ v :: M.drop (m + 1)) := hide (by rw [← hMv, ← List.drop_eq_getElem_cons hmM, List.take_append_drop])
            have HSN : Hid (seqE (fun k => ed D rev k.toNat) (fun k => nl D k.toNat) (M.take (m + 1)) = seqE (fun k => ed D rev k.toNat) (fun k => nl D k.toNat) (M.take m) ++ ed D rev v.toNat) := hide (by rw [HMM.out, seqE_snoc, if_pos (all_take HA.out)])
            have hbl : (seqE (fun k => ed D rev k.toNat) (fun k => nl D k.toNat) (M.take (m + 1))).length ≤ i := Nat.le_trans (Nat.le_trans (seqE_len _) (flat_take _ _ _)) htt
            rw [HSN.out, List.length_append] at hbl
            rw [hv] at k0 hkk
            obtain ⟨c, rfl⟩ : ∃ c : Nat, v = (c : Int) := ⟨v.toNat, by omega⟩
            have CI := hide (IH.out c (by omega) (by omega) wr (Nat.lt_of_lt_of_le hbs HB.out.size) (pnRow_up (pnRow_go HR.out hbs HB.out) HB.out.size))
            rw [show ((c : Int)).toNat = c by omega] at HSN hbl
            obtain ⟨O, hO⟩ : ∃ O, seqE (fun k => ed D rev k.toNat) (fun k => nl D k.toNat) (M.take m) = O := ⟨_, rfl⟩
            obtain ⟨P, hP⟩ : ∃ P, ed D rev c = P := ⟨_, rfl⟩
            rw [hO] at HS HSN hbl ⊢
            rw [hP] at CI HSN hbl
            have hmi : (m : Int) < (L.length : Int) := by omega
            have hm0 : (0 : Int) ≤ (m : Int) := by omega
            have hsz : w.heap.size + 1 ≤ wr.heap.size := ndAt_lt HN.out
            clear hc9 hv hO hP hMv hmM hkx
            have CNL := hide (fun (W : World) (hW : Below w.heap.size w W) => HNL.out c (by omega) W (Nat.lt_of_lt_of_le hbs hW.size) (pnRow_up (pnRow_go HR.out hbs hW) hW.size))
            cases rev
            all_goals
              try rw [if_neg (by decide)] at k0
              try rw [if_pos rfl] at k0
              obtain ⟨Z, hZ⟩ : ∃ Z, nl D c = Z := ⟨_, rfl⟩
              rw [hZ] at CNL
              have HZ := hide hZ
              clear hZ
              have K0 := hide hb9
              cases Z
              · go_wp2_with (first | (go_at_call 79; refine CI.out.mono ?_; rintro r w2 ⟨ad2, c2', rfl, ho2, hb2⟩; have HP2 := hide ho2; have HS2 := hide (show IntR (w.heap.size + 1) w2 sa sc O from gOwn_after HS.out hb2); have HB2 := hide (HB.out.trans (hb2.mono HB.out.size)); have HN2 := hide (ndAt_go HN.out hb2); have k1 := (hb2.cell (p := ⟨b9, _, none⟩) (Nat.lt_of_lt_of_le hb9 HB.out.size)).trans k0; have hsz2 : w.heap.size + 1 ≤ w2.heap.size := Nat.le_trans hsz hb2.size; clear ho2 hb2) | (at_builtin; refine wpList_append_src (by rfl) (.tmp 42) (.tmp 50) 30 (by rfl) (w.heap.size + 1) 2 i0 (.int .i64 0) 1 8 Tryd.underlying30 hi0 hz0 hz1 hz2 rfl (by decide) (.slice sa O.length sc) O.length (O.map (Value.int .i64)) (by rfl) HS2.out ad2 P.length c2' (P.map (Value.int .i64)) (by rfl) (by rw [List.length_map, Nat.mul_one]) (fun hp => intR_src HP2.out hp) (ints_one _) (by unfold maxLen; omega) (by omega) hsz2 ?_; intro a9 c9 w9 hown9 hgr9; have HO9 := hide (intR_join hown9); have HB9 := hide (HB2.out.grown hgr9 (Nat.le_trans (Nat.le_succ _) hsz2) (fun k hk => Nat.le_trans (Nat.le_succ _) (HS2.out.lt k hk).1)); have HN9 := hide (nd_grown HN2.out hgr9 (fun e => by have := (HS2.out.lt _ e).1; omega)); obtain ⟨a0, a1, a2, a3⟩ := ndAt_cells HN9.out; have k0 := (cell_gr9 hgr9 k1 (fun e => Nat.lt_irrefl _ (Nat.lt_of_le_of_lt ((HS2.out.lt _ e).1) (Nat.lt_succ_of_lt hb9)))); clear hown9 hgr9) | (go_at_call 80; refine (CNL.out _ HB9.out).mono ?_; rintro r w3 ⟨rfl, hb3⟩; have HB3 := hide (HB9.out.trans (hb3.mono HB9.out.size)); have HO3 := hide (show IntR (w.heap.size + 1) w3 a9 c9 (O ++ P) from gOwn_after HO9.out hb3); clear hb3))
                go_ret
                have hfin := HE.out
                rw [HMD.out, seqE_stop _ _ (by simpa using HZ.out), ← HMM.out, HSN.out] at hfin
                rw [hfin]
                exact ⟨a9, c9, by rw [List.length_append]; rfl, intR_low HO3.out (by omega), HB3.out⟩
              · go_wp2_with (first | (go_at_call 79; refine CI.out.mono ?_; rintro r w2 ⟨ad2, c2', rfl, ho2, hb2⟩; have HP2 := hide ho2; have HS2 := hide (show IntR (w.heap.size + 1) w2 sa sc O from gOwn_after HS.out hb2); have HB2 := hide (HB.out.trans (hb2.mono HB.out.size)); have HN2 := hide (ndAt_go HN.out hb2); have k1 := (hb2.cell (p := ⟨b9, _, none⟩) (Nat.lt_of_lt_of_le hb9 HB.out.size)).trans k0; have hsz2 : w.heap.size + 1 ≤ w2.heap.size := Nat.le_trans hsz hb2.size; clear ho2 hb2) | (at_builtin; refine wpList_append_src (by rfl) (.tmp 42) (.tmp 50) 30 (by rfl) (w.heap.size + 1) 2 i0 (.int .i64 0) 1 8 Tryd.underlying30 hi0 hz0 hz1 hz2 rfl (by decide) (.slice sa O.length sc) O.length (O.map (Value.int .i64)) (by rfl) HS2.out ad2 P.length c2' (P.map (Value.int .i64)) (by rfl) (by rw [List.length_map, Nat.mul_one]) (fun hp => intR_src HP2.out hp) (ints_one _) (by unfold maxLen; omega) (by omega) hsz2 ?_; intro a9 c9 w9 hown9 hgr9; have HO9 := hide (intR_join hown9); have HB9 := hide (HB2.out.grown hgr9 (Nat.le_trans (Nat.le_succ _) hsz2) (fun k hk => Nat.le_trans (Nat.le_succ _) (HS2.out.lt k hk).1)); have HN9 := hide (nd_grown HN2.out hgr9 (fun e => by have := (HS2.out.lt _ e).1; omega)); obtain ⟨a0, a1, a2, a3⟩ := ndAt_cells HN9.out; have k0 := (cell_gr9 hgr9 k1 (fun e => Nat.lt_irrefl _ (Nat.lt_of_le_of_lt ((HS2.out.lt _ e).1) (Nat.lt_succ_of_lt hb9)))); clear hown9 hgr9) | (go_at_call 80; refine (CNL.out _ HB9.out).mono ?_; rintro r w3 ⟨rfl, hb3⟩; have HB3 := hide (HB9.out.trans (hb3.mono HB9.out.size)); have HO3 := hide (show IntR (w.heap.size + 1) w3 a9 c9 (O ++ P) from gOwn_after HO9.out hb3); have HN3 := hide (ndAt_go HN9.out hb3); clear hb3))
                go_roundw
                case rel => exact ⟨m + 1, a9, c9, by omega, by go_num, by rw [HSN.out, List.length_append], hide (by rw [HSN.out]; exact HO3.out), HN3, HB3, hide (fun j hj => by
                  rw [HMM.out] at hj
                  rcases List.mem_append.1 hj with hj | hj
                  · exact HA.out j hj
                  · simp at hj; subst hj; simpa using HZ.out)⟩
                case measure => simp [intOf]; omega
          · have hml : m = L.length := by omega
            subst hml
            rw [show M.take L.length = M by rw [← HML.out, List.take_length]] at HS ⊢
            rw [← HE.out] at HS ⊢
            go_wp2
            go_ret
            exact ⟨sa, sc, rfl, intR_low HS.out (by omega), HB.out⟩
    · have HE := hide (ed_or (rev := rev) HLO.out HK.out)
      rw [HL.out] at HE
      have hl0 : ((L.length : Int) == 0) = false := by
        rw [beq_eq_false_iff_ne]
        have h9 := HNB.out
        unfold nodeB ndB at h9
        rw [HK.out, HL.out] at h9
        simp at h9
        omega
      obtain ⟨M, hM⟩ : ∃ M, ordL rev L = M := ⟨_, rfl⟩
      have hml : M.length = L.length := by rw [← hM, ordL_len]
      have HMI : Hid (∀ m, m < L.length → M[m]?.getD 0 = L[if rev = true then L.length - 1 - m else m]?.getD 0) := hide (fun m hm => by
        rw [← hM]
        unfold ordL
        cases rev
        · rfl
        · rw [if_pos rfl, if_pos rfl, List.getElem?_reverse hm])
      have htt : (M.map (fun k => ed D rev k.toNat)).flatten.length ≤ i := by rw [← hM, flat_ord]; exact htot
      rw [hM] at HE
      have HML := hide hml
      clear hM hml htot
      go_enter Tryd.func79, Tryd.ntmps79
      go_wp2
      · go_loopw [8, 9] (fun ov mv wr => ∃ (m : Nat) (sa : Option Addr) (sc : Nat), m ≤ L.length ∧ mv = .int .i64 m ∧ ov = .slice sa (seqE (fun k => ed D rev k.toNat) (fun _ => true) (M.take m)).length sc ∧ Hid (IntR (w.heap.size + 1) wr sa sc (seqE (fun k => ed D rev k.toNat) (fun _ => true) (M.take m))) ∧ Hid (NdAt wr w.heap.size 3 NM ad L.length cp OC) ∧ Hid (Below w.heap.size w wr) ∧ Hid (∀ j ∈ M.take m, (fun _ => true) j = true)) (fun _ mv _ => L.length - (intOf mv).toNat)
        case atStart => exact ⟨0, _, 0, Nat.zero_le _, rfl, rfl, hide (by rw [List.take_zero]; exact intR_made w _), hide (ndAt_go (ndAt_new w _ _ _ _ _ _ _) ((Below.refl _ _).alloc (Nat.le_refl _) _)), hide ((HST.out _).alloc (by simp) _), hide (fun j hj => by simp at hj)⟩
        case round =>
          obtain ⟨m, sa, sc, hm, rfl, rfl, HS, HN, HB, HA⟩ := hrel
          obtain ⟨a0, a1, a2, a3⟩ := ndAt_cells HN.out
          by_cases hlt : m < L.length
          · obtain ⟨b9, off9, rfl, hb9, hc9⟩ := HAT.out (fun h => by rw [h] at hlt; exact absurd hlt (Nat.not_lt_zero _))
            have hmM : m < M.length := by rw [HML.out]; exact hlt
            have hkx : (if rev = true then L.length - 1 - m else m) < L.length := by split <;> omega
            have k0 := (HB.out.cell (p := ⟨b9, off9 + (if rev = true then L.length - 1 - m else m), none⟩) hb9).trans (hc9 _ hkx)
            rw [← HMI.out m hlt] at k0
            have hkk := HKID.out (M[m]?.getD 0) (by rw [HMI.out m hlt, List.getElem?_eq_getElem hkx]; exact List.getElem_mem hkx)
            obtain ⟨v, hv⟩ : ∃ v, M[m]?.getD 0 = v := ⟨_, rfl⟩
            have hMv : M[m] = v := by rw [← hv, List.getElem?_eq_getElem hmM]; rfl
            have HMM : Hid (M.take (m + 1) = M.take m ++ [v]) := hide (by rw [List.take_succ_eq_append_getElem hmM, hMv])
            have HMD : Hid (M = M.take m ++ v :: M.drop (m + 1)) := hide (by rw [← hMv, ← List.drop_eq_getElem_cons hmM, List.take_append_drop])
            have HSN : Hid (seqE (fun k => ed D rev k.toNat) (fun _ => true) (M.take (m + 1)) = seqE (fun k => ed D rev k.toNat) (fun _ => true) (M.take m) ++ ed D rev v.toNat) := hide (by rw [HMM.out, seqE_snoc, if_pos (all_take HA.out)])
            have hbl : (seqE (fun k => ed D rev k.toNat) (fun _ => true) (M.take (m + 1))).length ≤ i := Nat.le_trans (Nat.le_trans (seqE_len _) (flat_take _ _ _)) htt
            rw [HSN.out, List.length_append] at hbl
            rw [hv] at k0 hkk
            obtain ⟨c, rfl⟩ : ∃ c : Nat, v = (c : Int) := ⟨v.toNat, by omega⟩
            have CI := hide (IH.out c (by omega) (by omega) wr (Nat.lt_of_lt_of_le hbs HB.out.size) (pnRow_up (pnRow_go HR.out hbs HB.out) HB.out.size))
            rw [show ((c : Int)).toNat = c by omega] at HSN hbl
            obtain ⟨O, hO⟩ : ∃ O, seqE (fun k => ed D rev k.toNat) (fun _ => true) (M.take m) = O := ⟨_, rfl⟩
            obtain ⟨P, hP⟩ : ∃ P, ed D rev c = P := ⟨_, rfl⟩
            rw [hO] at HS HSN hbl ⊢
            rw [hP] at CI HSN hbl
            have hmi : (m : Int) < (L.length : Int) := by omega
            have hm0 : (0 : Int) ≤ (m : Int) := by omega
            have hsz : w.heap.size + 1 ≤ wr.heap.size := ndAt_lt HN.out
            clear hc9 hv hO hP hMv hmM hkx
            have CNL := hide (fun (W : World) (hW : Below w.heap.size w W) => HNL.out c (by omega) W (Nat.lt_of_lt_of_le hbs hW.size) (pnRow_up (pnRow_go HR.out hbs hW) hW.size))
            cases rev
            all_goals
              try rw [if_neg (by decide)] at k0
              try rw [if_pos rfl] at k0
              go_wp2_with (first | (go_at_call 79; refine CI.out.mono ?_; rintro r w2 ⟨ad2, c2', rfl, ho2, hb2⟩; have HP2 := hide ho2; have HS2 := hide (show IntR (w.heap.size + 1) w2 sa sc O from gOwn_after HS.out hb2); have HB2 := hide (HB.out.trans (hb2.mono HB.out.size)); have HN2 := hide (ndAt_go HN.out hb2); have hsz2 : w.heap.size + 1 ≤ w2.heap.size := Nat.le_trans hsz hb2.size; clear ho2 hb2) | (at_builtin; refine wpList_append_src (by rfl) (.tmp 42) (.tmp 50) 30 (by rfl) (w.heap.size + 1) 2 i0 (.int .i64 0) 1 8 Tryd.underlying30 hi0 hz0 hz1 hz2 rfl (by decide) (.slice sa O.length sc) O.length (O.map (Value.int .i64)) (by rfl) HS2.out ad2 P.length c2' (P.map (Value.int .i64)) (by rfl) (by rw [List.length_map, Nat.mul_one]) (fun hp => intR_src HP2.out hp) (ints_one _) (by unfold maxLen; omega) (by omega) hsz2 ?_; intro a9 c9 w9 hown9 hgr9; have HO9 := hide (intR_join hown9); have HB9 := hide (HB2.out.grown hgr9 (Nat.le_trans (Nat.le_succ _) hsz2) (fun k hk => Nat.le_trans (Nat.le_succ _) (HS2.out.lt k hk).1)); have HN9 := hide (nd_grown HN2.out hgr9 (fun e => by have := (HS2.out.lt _ e).1; omega)); obtain ⟨a0, a1, a2, a3⟩ := ndAt_cells HN9.out; have k0 := k0; clear hown9 hgr9))
              go_roundw
              case rel => exact ⟨m + 1, a9, c9, by omega, by go_num, by rw [HSN.out, List.length_append], hide (by rw [HSN.out]; exact HO9.out), HN9, HB9, hide (fun _ _ => by first | rfl | trivial)⟩
              case measure => simp [intOf]; omega
          · have hml : m = L.length := by omega
            subst hml
            rw [show M.take L.length = M by rw [← HML.out, List.take_length]] at HS ⊢
            rw [← HE.out] at HS ⊢
            go_wp2
            go_ret
            exact ⟨sa, sc, rfl, intR_low HS.out (by omega), HB.out⟩
    · have hno : L = [] := by have h9 := leaf_kids9 (HNB.out) (by rw [HK.out]; decide); rw [HL.out] at h9; exact h9
      subst hno
      have HE := hide (ed_leaf (rev := rev) HLO.out (by rw [HK.out]; decide))
      simp only [List.length_nil] at c2
      go_enter Tryd.func79, Tryd.ntmps79
      go_wp2
      go_ret
      rw [HE.out]
      exact ⟨_, 1, rfl, intR_one _ _ _, (HST.out _).alloc (by simp) _⟩
end Go.Proofs.YtfohfljdgmlibaaDoor
