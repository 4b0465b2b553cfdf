/-
  Texts put together: EdS, FwM.
-/
import Derived.Test.YtfohfljdgmlibaaDoorM7
import Derived.Test.YtfohfljdgmlibaaDoorM11
/-
  Contract: the positions at which rows of a node begin or end, by the specification.
-/
namespace Go.Proofs.YtfohfljdgmlibaaDoor
open Go.RowKit Go.Joins
set_option linter.unusedVariables false
set_option linter.unusedSimpArgs false
theorem flat_take (g : Int → List Int) (M : List Int) (k : Nat) : ((M.take k).map g).flatten.length ≤ (M.map g).flatten.length := by
  have h : ((M.take k).map g).flatten ++ ((M.drop k).map g).flatten = (M.map g).flatten := by rw [← List.flatten_append, ← List.map_append, List.take_append_drop]
  have := congrArg List.length h
  rw [List.length_append] at this
  omega
theorem flat_ord (g : Int → List Int) (rev : Bool) (L : List Int) : ((ordL rev L).map g).flatten.length = (L.map g).flatten.length := by
  unfold ordL
  split
  · exact flat_rev _ _
  · rfl
theorem seqE_stop {g : Int → List Int} {nul : Int → Bool} (k : Int) (R : List Int) (hk : nul k = false) : ∀ (L : List Int), seqE g nul (L ++ k :: R) = seqE g nul (L ++ [k])
  | [] => by simp [seqE, hk]
  | j :: L => by rw [List.cons_append, List.cons_append, seqE, seqE, seqE_stop k R hk L]
theorem all_take {nul : Int → Bool} {M : List Int} {m : Nat} (h : ∀ j ∈ M.take m, nul j = true) : (M.take m).all nul = true := List.all_eq_true.2 h
theorem intR_src {B : Nat} {w : World} {ad : Option Addr} {c : Nat} {P : List Int} (h : IntR B w ad c P) (h0 : 0 < P.length) : ∃ ad', ad = some ad' ∧ ∀ j u, (P.map (Value.int .i64))[j]? = some u → w.cell? (ad'.add j) = some u := by
  obtain ⟨g, rfl, -, -, hc⟩ := intR_cells h h0
  exact ⟨_, rfl, row_src (b := g) (off := 0) (fun j hj => by rw [Nat.zero_add]; exact hc j hj)⟩
theorem intR_join {B : Nat} {w2 : World} {ad : Option Addr} {c : Nat} {L P : List Int} (h : w2.ownsRow B 2 1 (.slice ad (L.length + P.length) c) (L.length + P.length) (L.map (Value.int .i64) ++ P.map (Value.int .i64))) : IntR B w2 ad c (L ++ P) := by
  unfold IntR
  rw [List.length_append, List.map_append]
  exact h
theorem intR_low {B B' : Nat} {w : World} {ad : Option Addr} {c : Nat} {L : List Int} (h : IntR B w ad c L) (hB : B' ≤ B) : IntR B' w ad c L := gOwn_lower h hB
theorem intR_made (w : World) (o : Obj) : IntR (w.heap.size + 1) ((w.alloc o).alloc (.cells #[] 2)) (some ⟨w.heap.size + 1, 0, none⟩) 0 [] := by
  have h : IntR (w.heap.size + 1) ((w.alloc o).alloc (.cells #[] 2)) (some ⟨(w.alloc o).heap.size, 0, none⟩) 0 [] := World.ownsRow_made (base := w.heap.size + 1) (e := 2) (size := 1) (w.alloc o) #[] 0 (by simp) (Nat.zero_le _) rfl
  rw [show (w.alloc o).heap.size = w.heap.size + 1 by simp] at h
  exact h
theorem intR_one (w : World) (o : Obj) (z : Int) : IntR w.heap.size ((w.alloc o).alloc (.cells #[.int .i64 z] 2)) (some ⟨w.heap.size + 1, 0, none⟩) 1 [z] := by
  have h : IntR w.heap.size ((w.alloc o).alloc (.cells #[.int .i64 z] 2)) (some ⟨(w.alloc o).heap.size, 0, none⟩) 1 [z] := ⟨rfl, .inr ⟨(w.alloc o).heap.size, 1, #[.int .i64 z], rfl, by simp, heap_alloc_new (w.alloc o) _, Nat.le_refl _, by unfold maxLen; omega, rfl, rfl⟩⟩
  rw [show (w.alloc o).heap.size = w.heap.size + 1 by simp] at h
  exact h
theorem nd_grown {w w1 : World} {G : Nat} {k : Int} {nm : ByteArray} {a : Option Addr} {n c : Nat} {oc : Int} {row : Option Nat} (h : NdAt w G k nm a n c oc) (hg : w.grownBy w1 row) (hne : row = some G → False) : NdAt w1 G k nm a n c oc := by
  have hl := ndAt_lt h
  obtain ⟨T, h⟩ := h
  exact ⟨T, (hg.block G hl (fun e => hne e.symm)).trans h⟩
theorem cell_gr9 {w w1 : World} {p : Addr} {v : Value} {row : Option Nat} (hg : w.grownBy w1 row) (h : w.cell? p = some v) (hne : row = some p.block → False) : w1.cell? p = some v := hg.cell h (fun e => hne e.symm)
theorem leaf_kids9 {D : Pn} {i : Nat} (h : nodeB D i = true) (hk : D.K i = 1 ∨ D.K i = 4) : D.KL i = [] := by
  unfold nodeB ndB at h
  rcases hk with hk | hk
  · rw [hk] at h
    simp at h
    exact h.2.2
  · rw [hk] at h
    simp at h
    exact h.2.2
set_option maxRecDepth 100000 in
set_option maxHeartbeats 8000000 in
theorem s_edge (D : Pn) (n b0 off cap : Nat) (rev : Bool) (hRN : RN D n) : ∀ (k i : Nat), i < k → i < n → ∀ w : World, b0 < w.heap.size → PnRow w b0 off D w.heap.size →
    Calls Tryd.prog 79 #[.slice (some ⟨b0, off, none⟩) n cap, .int .i64 i, .bool rev] w fun r w' => ∃ ad c, r = .returned (.slice ad (ed D rev i).length c) ∧ IntR w.heap.size w' ad c (ed D rev i) ∧ Below w.heap.size w w'
  | 0, i, hk, hi => by omega
  | k + 1, i, hk, hi => by
    intro w hbs hr
    obtain ⟨i0, hi0, hz0, hz1, hz2⟩ := info_parts info64
    have IH := hide (s_edge D n b0 off cap rev hRN k)
    have HR := hide hr
    have HKID := hide (hRN.2.2.2.1 i hi)
    have HLO : Hid (Lo D i) := hide (fun j hj => hRN.2.2.2.1 j (by omega))
    obtain ⟨ad, cp, hc, hat, hcp⟩ := hr i (by rw [hRN.1]; exact hi)
    obtain ⟨c0, c1, c2, c3⟩ := hc
    have hin : (i : Int) < (n : Int) := by omega
    have hi00 : (0 : Int) ≤ (i : Int) := by omega
    have hn40 := hRN.2.1
    have hll := hRN.2.2.2.2.2 i hi
    have hkinds := rn_kinds hRN hi
    have HNB := hide (hRN.2.2.1 i hi)
    have HST := hide (fun (o : Obj) => (Below.refl w.heap.size w).alloc (Nat.le_refl _) o)
    obtain ⟨cc, hcc⟩ := hRN.2.2.2.2.1 i hi
    have htot := (ed_len (rev := rev) (by rw [hRN.1]; exact hRN.2.2.2.1) (i + 1) i cc (by omega) (by rw [hRN.1]; exact hi) hcc).2
    have HNL := hide (fun (c : Nat) (hc : c < n) (W : World) (h1 : b0 < W.heap.size) (h2 : PnRow W b0 off D W.heap.size) => s_null D n b0 off cap hRN (c + 1) c (by omega) hc W h1 h2)
    obtain ⟨K, hK⟩ : ∃ K, D.K i = K := ⟨_, rfl⟩
    obtain ⟨NM, hNM⟩ : ∃ NM, D.NM i = NM := ⟨_, rfl⟩
    obtain ⟨OC, hOC⟩ : ∃ OC, D.OC i = OC := ⟨_, rfl⟩
    obtain ⟨L, hL⟩ : ∃ L, D.KL i = L := ⟨_, rfl⟩
    rw [hK] at c0 hkinds
    rw [hNM] at c1
    rw [hL] at c2 HKID hat hll htot
    rw [hOC] at c3
    have HAT := hide hat
    have HK := hide hK
    have HL := hide hL
    clear hr hat hK hNM hOC hL hRN hcp hcc
    rcases hkinds with rfl | rfl | rfl | rfl
    · have hno : L = [] := by have h9 := leaf_kids9 (HNB.out) (by rw [HK.out]; decide); rw [HL.out] at h9; exact h9
      subst hno
      have HE := hide (ed_leaf (rev := rev) HLO.out (by rw [HK.out]; decide))
      simp only [List.length_nil] at c2
      go_enter Tryd.func79, Tryd.ntmps79
      go_wp2
      go_ret
      rw [HE.out]
      exact ⟨_, 1, rfl, intR_one _ _ _, (HST.out _).alloc (by simp) _⟩
    · have HE := hide (ed_seq (rev := rev) HLO.out HK.out)
      rw [HL.out] at HE
      by_cases hL0 : L = []
      · subst hL0
        simp only [List.length_nil] at c2
        have HE2 : Hid (ed D rev i = []) := hide (by rw [HE.out]; cases rev <;> rfl)
        clear HE
        go_enter Tryd.func79, Tryd.ntmps79
        go_wp2
        go_loopw [8, 9] (fun ov mv wr => ov = .slice (some ⟨w.heap.size + 1, 0, none⟩) 0 0 ∧ mv = .int .i64 0 ∧ wr.cell? ⟨w.heap.size, 2, none⟩ = some (.slice ad 0 cp) ∧ Hid (IntR (w.heap.size + 1) wr (some ⟨w.heap.size + 1, 0, none⟩) 0 []) ∧ Hid (Below w.heap.size w wr)) (fun _ _ _ => 0)
        case atStart => exact ⟨rfl, rfl, by simp, hide (intR_made w _), hide ((HST.out _).alloc (by simp) _)⟩
        case round =>
          obtain ⟨rfl, rfl, q0, HS, HB⟩ := hrel
          go_wp2
          go_ret
          rw [HE2.out]
          exact ⟨_, 0, rfl, intR_low HS.out (by omega), HB.out⟩
      have hl0 : ((L.length : Int) == 0) = false := by
        rw [beq_eq_false_iff_ne]
        intro h9
        exact hL0 (List.length_eq_zero_iff.1 (by omega))
      clear hL0
      obtain ⟨M, hM⟩ : ∃ M, ordL rev L = M := ⟨_, rfl⟩
      have hml : M.length = L.length := by rw [← hM, ordL_len]
      have HMI : Hid (∀ m, m < L.length → M[m]?.getD 0 = L[if rev = true then L.length - 1 - m else m]?.getD 0) := hide (fun m hm => by
        rw [← hM]
        unfold ordL
        cases rev
        · rfl
        · rw [if_pos rfl, if_pos rfl, List.getElem?_reverse hm])
      have htt : (M.map (fun k => ed D rev k.toNat)).flatten.length ≤ i := by rw [← hM, flat_ord]; exact htot
      rw [hM] at HE
      have HML := hide hml
      clear hM hml htot
      go_enter Tryd.func79, Tryd.ntmps79
      go_wp2
      · go_loopw [8, 9] (fun ov mv wr => ∃ (m : Nat) (sa : Option Addr) (sc : Nat), m ≤ L.length ∧ mv = .int .i64 m ∧ ov = .slice sa (seqE (fun k => ed D rev k.toNat) (fun k => nl D k.toNat) (M.take m)).length sc ∧ Hid (IntR (w.heap.size + 1) wr sa sc (seqE (fun k => ed D rev k.toNat) (fun k => nl D k.toNat) (M.take m))) ∧ Hid (NdAt wr w.heap.size 2 NM ad L.length cp OC) ∧ Hid (Below w.heap.size w wr) ∧ Hid (∀ j ∈ M.take m, (fun k => nl D k.toNat) j = true)) (fun _ mv _ => L.length - (intOf mv).toNat)
        case atStart => exact ⟨0, _, 0, Nat.zero_le _, rfl, rfl, hide (by rw [List.take_zero]; exact intR_made w _), hide (ndAt_go (ndAt_new w _ _ _ _ _ _ _) ((Below.refl _ _).alloc (Nat.le_refl _) _)), hide ((HST.out _).alloc (by simp) _), hide (fun j hj => by simp at hj)⟩
        case round =>
          obtain ⟨m, sa, sc, hm, rfl, rfl, HS, HN, HB, HA⟩ := hrel
          obtain ⟨a0, a1, a2, a3⟩ := ndAt_cells HN.out
          by_cases hlt : m < L.length
          · obtain ⟨b9, off9, rfl, hb9, hc9⟩ := HAT.out (fun h => by rw [h] at hlt; exact absurd hlt (Nat.not_lt_zero _))
            have hmM : m < M.length := by rw [HML.out]; exact hlt
            have hkx : (if rev = true then L.length - 1 - m else m) < L.length := by split <;> omega
            have k0 := (HB.out.cell (p := ⟨b9, off9 + (if rev = true then L.length - 1 - m else m), none⟩) hb9).trans (hc9 _ hkx)
            rw [← HMI.out m hlt] at k0
            have hkk := HKID.out (M[m]?.getD 0) (by rw [HMI.out m hlt, List.getElem?_eq_getElem hkx]; exact List.getElem_mem hkx)
            obtain ⟨v, hv⟩ : ∃ v, M[m]?.getD 0 = v := ⟨_, rfl⟩
            have hMv : M[m] = v := by rw [← hv, List.getElem?_eq_getElem hmM]; rfl
            have HMM : Hid (M.take (m + 1) = M.take m ++ [v]) := hide (by rw [List.take_succ_eq_append_getElem hmM, hMv])
            have HMD : Hid (M = M.take m ++ v :: M.drop (m + 1)) := hide (by rw [← hMv, ← List.drop_eq_getElem_cons hmM, List.take_append_drop])
            have HSN : Hid (seqE (fun k => ed D rev k.toNat) (fun k => nl D k.toNat) (M.take (m + 1)) = seqE (fun k => ed D rev k.toNat) (fun k => nl D k.toNat) (M.take m) ++ ed D rev v.toNat) := hide (by rw [HMM.out, seqE_snoc, if_pos (all_take HA.out)])
            have hbl : (seqE (fun k => ed D rev k.toNat) (fun k => nl D k.toNat) (M.take (m + 1))).length ≤ i := Nat.le_trans (Nat.le_trans (seqE_len _) (flat_take _ _ _)) htt
            rw [HSN.out, List.length_append] at hbl
            rw [hv] at k0 hkk
            obtain ⟨c, rfl⟩ : ∃ c : Nat, v = (c : Int) := ⟨v.toNat, by omega⟩
            have CI := hide (IH.out c (by omega) (by omega) wr (Nat.lt_of_lt_of_le hbs HB.out.size) (pnRow_up (pnRow_go HR.out hbs HB.out) HB.out.size))
            rw [show ((c : Int)).toNat = c by omega] at HSN hbl
            obtain ⟨O, hO⟩ : ∃ O, seqE (fun k => ed D rev k.toNat) (fun k => nl D k.toNat) (M.take m) = O := ⟨_, rfl⟩
            obtain ⟨P, hP⟩ : ∃ P, ed D rev c = P := ⟨_, rfl⟩
            rw [hO] at HS HSN hbl ⊢
            rw [hP] at CI HSN hbl
            have hmi : (m : Int) < (L.length : Int) := by omega
            have hm0 : (0 : Int) ≤ (m : Int) := by omega
            have hsz : w.heap.size + 1 ≤ wr.heap.size := ndAt_lt HN.out
            clear hc9 hv hO hP hMv hmM hkx
            have CNL := hide (fun (W : World) (hW : Below w.heap.size w W) => HNL.out c (by omega) W (Nat.lt_of_lt_of_le hbs hW.size) (pnRow_up (pnRow_go HR.out hbs hW) hW.size))
            cases rev
            all_goals
              try rw [if_neg (by decide)] at k0
              try rw [if_pos rfl] at k0
              obtain ⟨Z, hZ⟩ : ∃ Z, nl D c = Z := ⟨_, rfl⟩
              rw [hZ] at CNL
              have HZ := hide hZ
              clear hZ
              have K0 := hide hb9
              cases Z
              · go_wp2_with (first | (go_at_call 79; refine CI.out.mono ?_; rintro r w2 ⟨ad2, c2', rfl, ho2, hb2⟩; have HP2 := hide ho2; have HS2 := hide (show IntR (w.heap.size + 1) w2 sa sc O from gOwn_after HS.out hb2); have HB2 := hide (HB.out.trans (hb2.mono HB.out.size)); have HN2 := hide (ndAt_go HN.out hb2); have k1 := (hb2.cell (p := ⟨b9, _, none⟩) (Nat.lt_of_lt_of_le hb9 HB.out.size)).trans k0; have hsz2 : w.heap.size + 1 ≤ w2.heap.size := Nat.le_trans hsz hb2.size; clear ho2 hb2) | (at_builtin; refine wpList_append_src (by rfl) (.tmp 42) (.tmp 50) 30 (by rfl) (w.heap.size + 1) 2 i0 (.int .i64 0) 1 8 Tryd.underlying30 hi0 hz0 hz1 hz2 rfl (by decide) (.slice sa O.length sc) O.length (O.map (Value.int .i64)) (by rfl) HS2.out ad2 P.length c2' (P.map (Value.int .i64)) (by rfl) (by rw [List.length_map, Nat.mul_one]) (fun hp => intR_src HP2.out hp) (ints_one _) (by unfold maxLen; omega) (by omega) hsz2 ?_; intro a9 c9 w9 hown9 hgr9; have HO9 := hide (intR_join hown9); have HB9 := hide (HB2.out.grown hgr9 (Nat.le_trans (Nat.le_succ _) hsz2) (fun k hk => Nat.le_trans (Nat.le_succ _) (HS2.out.lt k hk).1)); have HN9 := hide (nd_grown HN2.out hgr9 (fun e => by have := (HS2.out.lt _ e).1; omega)); obtain ⟨a0, a1, a2, a3⟩ := ndAt_cells HN9.out; have k0 := (cell_gr9 hgr9 k1 (fun e => Nat.lt_irrefl _ (Nat.lt_of_le_of_lt ((HS2.out.lt _ e).1) (Nat.lt_succ_of_lt hb9)))); clear hown9 hgr9) | (go_at_call 80; refine (CNL.out _ HB9.out).mono ?_; rintro r w3 ⟨rfl, hb3⟩; have HB3 := hide (HB9.out.trans (hb3.mono HB9.out.size)); have HO3 := hide (show IntR (w.heap.size + 1) w3 a9 c9 (O ++ P) from gOwn_after HO9.out hb3); clear hb3))
                go_ret
                have hfin := HE.out
                rw [HMD.out, seqE_stop _ _ (by simpa using HZ.out), ← HMM.out, HSN.out] at hfin
                rw [hfin]
                exact ⟨a9, c9, by rw [List.length_append]; rfl, intR_low HO3.out (by omega), HB3.out⟩
              · go_wp2_with (first | (go_at_call 79; refine CI.out.mono ?_; rintro r w2 ⟨ad2, c2', rfl, ho2, hb2⟩; have HP2 := hide ho2; have HS2 := hide (show IntR (w.heap.size + 1) w2 sa sc O from gOwn_after HS.out hb2); have HB2 := hide (HB.out.trans (hb2.mono HB.out.size)); have HN2 := hide (ndAt_go HN.out hb2); have k1 := (hb2.cell (p := ⟨b9, _, none⟩) (Nat.lt_of_lt_of_le hb9 HB.out.size)).trans k0; have hsz2 : w.heap.size + 1 ≤ w2.heap.size := Nat.le_trans hsz hb2.size; clear ho2 hb2) | (at_builtin; refine wpList_append_src (by rfl) (.tmp 42) (.tmp 50) 30 (by rfl) (w.heap.size + 1) 2 i0 (.int .i64 0) 1 8 Tryd.underlying30 hi0 hz0 hz1 hz2 rfl (by decide) (.slice sa O.length sc) O.length (O.map (Value.int .i64)) (by rfl) HS2.out ad2 P.length c2' (P.map (Value.int .i64)) (by rfl) (by rw [List.length_map, Nat.mul_one]) (fun hp => intR_src HP2.out hp) (ints_one _) (by unfold maxLen; omega) (by omega) hsz2 ?_; intro a9 c9 w9 hown9 hgr9; have HO9 := hide (intR_join hown9); have HB9 := hide (HB2.out.grown hgr9 (Nat.le_trans (Nat.le_succ _) hsz2) (fun k hk => Nat.le_trans (Nat.le_succ _) (HS2.out.lt k hk).1)); have HN9 := hide (nd_grown HN2.out hgr9 (fun e => by have := (HS2.out.lt _ e).1; omega)); obtain ⟨a0, a1, a2, a3⟩ := ndAt_cells HN9.out; have k0 := (cell_gr9 hgr9 k1 (fun e => Nat.lt_irrefl _ (Nat.lt_of_le_of_lt ((HS2.out.lt _ e).1) (Nat.lt_succ_of_lt hb9)))); clear hown9 hgr9) | (go_at_call 80; refine (CNL.out _ HB9.out).mono ?_; rintro r w3 ⟨rfl, hb3⟩; have HB3 := hide (HB9.out.trans (hb3.mono HB9.out.size)); have HO3 := hide (show IntR (w.heap.size + 1) w3 a9 c9 (O ++ P) from gOwn_after HO9.out hb3); have HN3 := hide (ndAt_go HN9.out hb3); clear hb3))
                go_roundw
                case rel => exact ⟨m + 1, a9, c9, by omega, by go_num, by rw [HSN.out, List.length_append], hide (by rw [HSN.out]; exact HO3.out), HN3, HB3, hide (fun j hj => by
                  rw [HMM.out] at hj
                  rcases List.mem_append.1 hj with hj | hj
                  · exact HA.out j hj
                  · simp at hj; subst hj; simpa using HZ.out)⟩
                case measure => simp [intOf]; omega
          · have hml : m = L.length := by omega
            subst hml
            rw [show M.take L.length = M by rw [← HML.out, List.take_length]] at HS ⊢
            rw [← HE.out] at HS ⊢
            go_wp2
            go_ret
            exact ⟨sa, sc, rfl, intR_low HS.out (by omega), HB.out⟩
    · have HE := hide (ed_or (rev := rev) HLO.out HK.out)
      rw [HL.out] at HE
      have hl0 : ((L.length : Int) == 0) = false := by
        rw [beq_eq_false_iff_ne]
        have h9 := HNB.out
        unfold nodeB ndB at h9
        rw [HK.out, HL.out] at h9
        simp at h9
        omega
      obtain ⟨M, hM⟩ : ∃ M, ordL rev L = M := ⟨_, rfl⟩
      have hml : M.length = L.length := by rw [← hM, ordL_len]
      have HMI : Hid (∀ m, m < L.length → M[m]?.getD 0 = L[if rev = true then L.length - 1 - m else m]?.getD 0) := hide (fun m hm => by
        rw [← hM]
        unfold ordL
        cases rev
        · rfl
        · rw [if_pos rfl, if_pos rfl, List.getElem?_reverse hm])
      have htt : (M.map (fun k => ed D rev k.toNat)).flatten.length ≤ i := by rw [← hM, flat_ord]; exact htot
      rw [hM] at HE
      have HML := hide hml
      clear hM hml htot
      go_enter Tryd.func79, Tryd.ntmps79
      go_wp2
      · go_loopw [8, 9] (fun ov mv wr => ∃ (m : Nat) (sa : Option Addr) (sc : Nat), m ≤ L.length ∧ mv = .int .i64 m ∧ ov = .slice sa (seqE (fun k => ed D rev k.toNat) (fun _ => true) (M.take m)).length sc ∧ Hid (IntR (w.heap.size + 1) wr sa sc (seqE (fun k => ed D rev k.toNat) (fun _ => true) (M.take m))) ∧ Hid (NdAt wr w.heap.size 3 NM ad L.length cp OC) ∧ Hid (Below w.heap.size w wr) ∧ Hid (∀ j ∈ M.take m, (fun _ => true) j = true)) (fun _ mv _ => L.length - (intOf mv).toNat)
        case atStart => exact ⟨0, _, 0, Nat.zero_le _, rfl, rfl, hide (by rw [List.take_zero]; exact intR_made w _), hide (ndAt_go (ndAt_new w _ _ _ _ _ _ _) ((Below.refl _ _).alloc (Nat.le_refl _) _)), hide ((HST.out _).alloc (by simp) _), hide (fun j hj => by simp at hj)⟩
        case round =>
          obtain ⟨m, sa, sc, hm, rfl, rfl, HS, HN, HB, HA⟩ := hrel
          obtain ⟨a0, a1, a2, a3⟩ := ndAt_cells HN.out
          by_cases hlt : m < L.length
          · obtain ⟨b9, off9, rfl, hb9, hc9⟩ := HAT.out (fun h => by rw [h] at hlt; exact absurd hlt (Nat.not_lt_zero _))
            have hmM : m < M.length := by rw [HML.out]; exact hlt
            have hkx : (if rev = true then L.length - 1 - m else m) < L.length := by split <;> omega
            have k0 := (HB.out.cell (p := ⟨b9, off9 + (if rev = true then L.length - 1 - m else m), none⟩) hb9).trans (hc9 _ hkx)
            rw [← HMI.out m hlt] at k0
            have hkk := HKID.out (M[m]?.getD 0) (by rw [HMI.out m hlt, List.getElem?_eq_getElem hkx]; exact List.getElem_mem hkx)
            obtain ⟨v, hv⟩ : ∃ v, M[m]?.getD 0 = v := ⟨_, rfl⟩
            have hMv : M[m] = v := by rw [← hv, List.getElem?_eq_getElem hmM]; rfl
            have HMM : Hid (M.take (m + 1) = M.take m ++ [v]) := hide (by rw [List.take_succ_eq_append_getElem hmM, hMv])
            have HMD : Hid (M = M.take m ++ v :: M.drop (m + 1)) := hide (by rw [← hMv, ← List.drop_eq_getElem_cons hmM, List.take_append_drop])
            have HSN : Hid (seqE (fun k => ed D rev k.toNat) (fun _ => true) (M.take (m + 1)) = seqE (fun k => ed D rev k.toNat) (fun _ => true) (M.take m) ++ ed D rev v.toNat) := hide (by rw [HMM.out, seqE_snoc, if_pos (all_take HA.out)])
            have hbl : (seqE (fun k => ed D rev k.toNat) (fun _ => true) (M.take (m + 1))).length ≤ i := Nat.le_trans (Nat.le_trans (seqE_len _) (flat_take _ _ _)) htt
            rw [HSN.out, List.length_append] at hbl
            rw [hv] at k0 hkk
            obtain ⟨c, rfl⟩ : ∃ c : Nat, v = (c : Int) := ⟨v.toNat, by omega⟩
            have CI := hide (IH.out c (by omega) (by omega) wr (Nat.lt_of_lt_of_le hbs HB.out.size) (pnRow_up (pnRow_go HR.out hbs HB.out) HB.out.size))
            rw [show ((c : Int)).toNat = c by omega] at HSN hbl
            obtain ⟨O, hO⟩ : ∃ O, seqE (fun k => ed D rev k.toNat) (fun _ => true) (M.take m) = O := ⟨_, rfl⟩
            obtain ⟨P, hP⟩ : ∃ P, ed D rev c = P := ⟨_, rfl⟩
            rw [hO] at HS HSN hbl ⊢
            rw [hP] at CI HSN hbl
            have hmi : (m : Int) < (L.length : Int) := by omega
            have hm0 : (0 : Int) ≤ (m : Int) := by omega
            have hsz : w.heap.size + 1 ≤ wr.heap.size := ndAt_lt HN.out
            clear hc9 hv hO hP hMv hmM hkx
            have CNL := hide (fun (W : World) (hW : Below w.heap.size w W) => HNL.out c (by omega) W (Nat.lt_of_lt_of_le hbs hW.size) (pnRow_up (pnRow_go HR.out hbs hW) hW.size))
            cases rev
            all_goals
              try rw [if_neg (by decide)] at k0
              try rw [if_pos rfl] at k0
              go_wp2_with (first | (go_at_call 79; refine CI.out.mono ?_; rintro r w2 ⟨ad2, c2', rfl, ho2, hb2⟩; have HP2 := hide ho2; have HS2 := hide (show IntR (w.heap.size + 1) w2 sa sc O from gOwn_after HS.out hb2); have HB2 := hide (HB.out.trans (hb2.mono HB.out.size)); have HN2 := hide (ndAt_go HN.out hb2); have hsz2 : w.heap.size + 1 ≤ w2.heap.size := Nat.le_trans hsz hb2.size; clear ho2 hb2) | (at_builtin; refine wpList_append_src (by rfl) (.tmp 42) (.tmp 50) 30 (by rfl) (w.heap.size + 1) 2 i0 (.int .i64 0) 1 8 Tryd.underlying30 hi0 hz0 hz1 hz2 rfl (by decide) (.slice sa O.length sc) O.length (O.map (Value.int .i64)) (by rfl) HS2.out ad2 P.length c2' (P.map (Value.int .i64)) (by rfl) (by rw [List.length_map, Nat.mul_one]) (fun hp => intR_src HP2.out hp) (ints_one _) (by unfold maxLen; omega) (by omega) hsz2 ?_; intro a9 c9 w9 hown9 hgr9; have HO9 := hide (intR_join hown9); have HB9 := hide (HB2.out.grown hgr9 (Nat.le_trans (Nat.le_succ _) hsz2) (fun k hk => Nat.le_trans (Nat.le_succ _) (HS2.out.lt k hk).1)); have HN9 := hide (nd_grown HN2.out hgr9 (fun e => by have := (HS2.out.lt _ e).1; omega)); obtain ⟨a0, a1, a2, a3⟩ := ndAt_cells HN9.out; have k0 := k0; clear hown9 hgr9))
              go_roundw
              case rel => exact ⟨m + 1, a9, c9, by omega, by go_num, by rw [HSN.out, List.length_append], hide (by rw [HSN.out]; exact HO9.out), HN9, HB9, hide (fun _ _ => by first | rfl | trivial)⟩
              case measure => simp [intOf]; omega
          · have hml : m = L.length := by omega
            subst hml
            rw [show M.take L.length = M by rw [← HML.out, List.take_length]] at HS ⊢
            rw [← HE.out] at HS ⊢
            go_wp2
            go_ret
            exact ⟨sa, sc, rfl, intR_low HS.out (by omega), HB.out⟩
    · have hno : L = [] := by have h9 := leaf_kids9 (HNB.out) (by rw [HK.out]; decide); rw [HL.out] at h9; exact h9
      subst hno
      have HE := hide (ed_leaf (rev := rev) HLO.out (by rw [HK.out]; decide))
      simp only [List.length_nil] at c2
      go_enter Tryd.func79, Tryd.ntmps79
      go_wp2
      go_ret
      rw [HE.out]
      exact ⟨_, 1, rfl, intR_one _ _ _, (HST.out _).alloc (by simp) _⟩
end Go.Proofs.YtfohfljdgmlibaaDoor

/-
  Plain facts on what may follow a position, as the specification gathers it, of no program's run.
-/
namespace Go.Proofs.YtfohfljdgmlibaaDoor
set_option linter.unusedVariables false
set_option linter.unusedSimpArgs false
/-- What a node lets follow when it stands again. -/
def sgL (D : Pn) (z : Int) (i : Nat) : List Int := if 2 ≤ D.OC i ∧ z ∈ ed D true i then ed D false i else []
/-- What begins behind the a-th kid. -/
def kdL (D : Pn) (z : Int) (L : List Int) (a : Nat) : List Int := if z ∈ ed D true (L[a]?.getD 0).toNat then seqE (fun k => ed D false k.toNat) (fun k => nl D k.toNat) (L.drop (a + 1)) else []
def skL (D : Pn) (z : Int) (L : List Int) : Nat → List Int
  | 0 => []
  | a + 1 => skL D z L a ++ kdL D z L a
def ndL (D : Pn) (z : Int) (i : Nat) : List Int := sgL D z i ++ (if D.K i = 2 then skL D z (D.KL i) (D.KL i).length else [])
def foL (D : Pn) (z : Int) : Nat → List Int
  | 0 => []
  | i + 1 => foL D z i ++ ndL D z i
theorem mem_skL {D : Pn} {z q : Int} {L : List Int} : ∀ m, q ∈ skL D z L m ↔ ∃ a, a < m ∧ q ∈ kdL D z L a
  | 0 => by constructor
            · intro h; exact absurd h (List.not_mem_nil)
            · rintro ⟨a, ha, -⟩; omega
  | m + 1 => by
    rw [skL, List.mem_append, mem_skL m]
    constructor
    · rintro (⟨a, ha, h⟩ | h)
      · exact ⟨a, by omega, h⟩
      · exact ⟨m, by omega, h⟩
    · rintro ⟨a, ha, h⟩
      by_cases e : a = m
      · subst e; exact .inr h
      · exact .inl ⟨a, by omega, h⟩
theorem mem_foL {D : Pn} {z q : Int} : ∀ m, q ∈ foL D z m ↔ ∃ i, i < m ∧ q ∈ ndL D z i
  | 0 => by constructor
            · intro h; exact absurd h (List.not_mem_nil)
            · rintro ⟨a, ha, -⟩; omega
  | m + 1 => by
    rw [foL, List.mem_append, mem_foL m]
    constructor
    · rintro (⟨a, ha, h⟩ | h)
      · exact ⟨a, by omega, h⟩
      · exact ⟨m, by omega, h⟩
    · rintro ⟨a, ha, h⟩
      by_cases e : a = m
      · subst e; exact .inr h
      · exact .inl ⟨a, by omega, h⟩
theorem mem_ndL {D : Pn} {z q : Int} {i : Nat} : q ∈ ndL D z i ↔ OwP D i z q := by
  unfold ndL OwP
  rw [List.mem_append]
  refine or_congr ?_ ?_
  · unfold sgL
    split
    · rename_i h; exact ⟨fun hq => ⟨h.1, h.2, hq⟩, fun hq => hq.2.2⟩
    · rename_i h; exact ⟨fun hq => absurd hq (List.not_mem_nil), fun hq => absurd ⟨hq.1, hq.2.1⟩ h⟩
  · by_cases hk : D.K i = 2
    · rw [if_pos hk, mem_skL, ow_spec (L := D.KL i) (nul := fun k => nl D k.toNat) (g := fun k => ed D true k.toNat) (h := fun k => ed D false k.toNat) (p := z) (q := q)]
      constructor
      · rintro ⟨a, ha, h⟩
        unfold kdL at h
        split at h
        · rename_i hz
          refine ⟨hk, (D.KL i).take a, (D.KL i)[a], (D.KL i).drop (a + 1), ?_, ?_, h⟩
          · rw [← List.drop_eq_getElem_cons ha, List.take_append_drop]
          · rw [List.getElem?_eq_getElem ha] at hz; exact hz
        · exact absurd h (List.not_mem_nil)
      · rintro ⟨-, L1, a, R, e, h1, h2⟩
        refine ⟨L1.length, by rw [e]; simp, ?_⟩
        unfold kdL
        rw [e, List.getElem?_append_right (Nat.le_refl _), Nat.sub_self, List.getElem?_cons_zero]
        have e2 : (L1 ++ a :: R).drop (L1.length + 1) = R := by
          rw [List.drop_append]
          simp
        rw [e2]
        show q ∈ (if z ∈ ed D true a.toNat then _ else _)
        rw [if_pos h1]
        exact h2
    · rw [if_neg hk]
      exact ⟨fun h => absurd h (List.not_mem_nil), fun h => absurd h.1 hk⟩
theorem mem_root {D : Pn} (h : pkB D = true) {p q : Int} : q ∈ foL D p D.n ↔ lk D (D.n - 1) p q := by
  have h1 := (pk_facts h).1
  rw [mem_foL]
  constructor
  · rintro ⟨i, hi, hq⟩
    exact tr_lk (D.n) (D.n - 1) 0 (by omega) (lo_root h) (pk_facts h).2.2.1 i (Nat.zero_le _) (by omega) (mem_ndL.1 hq)
  · intro hq
    obtain ⟨j, hj, h2⟩ := lk_node (D.n) (D.n - 1) (by omega) (lo_root h) hq
    exact ⟨j, by omega, mem_ndL.2 h2⟩
theorem fd_klen {g : Nat → Option Nat} : ∀ (ks : List Int) (a f : Nat), (∀ j c, j < a → g j = some c → c ≤ j) → fd g ks a = some f → ks.length ≤ a
  | [], a, f, _, _ => by simp
  | k :: ks, a, f, h2, h => by
    by_cases hc : 0 < a ∧ k = (a : Int) - 1
    · cases hg : g (a - 1) with
      | none => rw [fd_none hc hg] at h; cases h
      | some c =>
        have hb := h2 _ c (by omega) hg
        rw [fd_yes hc hg] at h
        have := fd_klen ks c f (fun j d hj => h2 j d (by omega)) h
        rw [List.length_cons]
        omega
    · rw [fd_no hc] at h; cases h
theorem rn_klen {D : Pn} {n : Nat} (h : RN D n) {i : Nat} (hi : i < n) : (D.KL i).length ≤ 40 := by
  obtain ⟨c, hc⟩ := h.2.2.2.2.1 i hi
  rw [tr_eq] at hc
  have := fd_klen _ i c (fun j d _ hd => tr_le hd) hc
  rw [List.length_reverse] at this
  have := h.2.1
  omega
theorem flat_drop (g : Int → List Int) (M : List Int) (k : Nat) : ((M.drop k).map g).flatten.length ≤ (M.map g).flatten.length := by
  have h : ((M.take k).map g).flatten ++ ((M.drop k).map g).flatten = (M.map g).flatten := by rw [← List.flatten_append, ← List.map_append, List.take_append_drop]
  have := congrArg List.length h
  rw [List.length_append] at this
  omega
theorem rn_flat {D : Pn} {n : Nat} {rev : Bool} (hRN : RN D n) {i : Nat} (hi : i < n) : ((D.KL i).map fun k => ed D rev k.toNat).flatten.length ≤ 40 := by
  obtain ⟨cc, hcc⟩ := hRN.2.2.2.2.1 i hi
  have := (ed_len (rev := rev) (by rw [hRN.1]; exact hRN.2.2.2.1) (i + 1) i cc (by omega) (by rw [hRN.1]; exact hi) hcc).2
  have := hRN.2.1
  omega
theorem rn_seq {D : Pn} {n : Nat} (hRN : RN D n) {i : Nat} (hi : i < n) (a m : Nat) : (seqE (fun k => ed D false k.toNat) (fun k => nl D k.toNat) (((D.KL i).drop a).take m)).length ≤ 40 :=
  Nat.le_trans (seqE_len _) (Nat.le_trans (flat_take _ _ _) (Nat.le_trans (flat_drop _ _ _) (rn_flat hRN hi)))
theorem kdL_len {D : Pn} {n : Nat} (hRN : RN D n) {i : Nat} (hi : i < n) (z : Int) (a : Nat) : (kdL D z (D.KL i) a).length ≤ 40 := by
  unfold kdL
  split
  · have := rn_seq hRN hi (a + 1) (D.KL i).length
    rwa [List.take_of_length_le (by rw [List.length_drop]; omega)] at this
  · simp
theorem skL_len {D : Pn} {n : Nat} (hRN : RN D n) {i : Nat} (hi : i < n) (z : Int) : ∀ m, (skL D z (D.KL i) m).length ≤ 40 * m
  | 0 => by simp [skL]
  | m + 1 => by
    rw [skL, List.length_append]
    have h1 := skL_len hRN hi z m
    have h2 := kdL_len hRN hi z m
    omega
theorem ed_small9 {D : Pn} {n : Nat} {rev : Bool} (hRN : RN D n) {i : Nat} (hi : i < n) : (ed D rev i).length ≤ 40 := by
  obtain ⟨cc, hcc⟩ := hRN.2.2.2.2.1 i hi
  have := (ed_len (rev := rev) (by rw [hRN.1]; exact hRN.2.2.2.1) (i + 1) i cc (by omega) (by rw [hRN.1]; exact hi) hcc).1
  have := hRN.2.1
  omega
theorem sgL_len {D : Pn} {n : Nat} (hRN : RN D n) {i : Nat} (hi : i < n) (z : Int) : (sgL D z i).length ≤ 40 := by
  unfold sgL
  split
  · exact ed_small9 hRN hi
  · simp
theorem foL_len {D : Pn} {n : Nat} (hRN : RN D n) (z : Int) : ∀ m, m ≤ n → (foL D z m).length ≤ 1640 * m
  | 0, _ => by simp [foL]
  | m + 1, hm => by
    rw [foL, List.length_append]
    have h1 := foL_len hRN z m (by omega)
    have h2 := sgL_len hRN (i := m) (by omega) z
    have h3 := skL_len hRN (i := m) (by omega) z (D.KL m).length
    have h4 := rn_klen hRN (i := m) (by omega)
    have h5 : (ndL D z m).length ≤ 1640 := by
      unfold ndL
      rw [List.length_append]
      split
      · omega
      · simp; omega
    omega
/-- Only leaves are positions. -/
theorem ed_leaves {D : Pn} {rev : Bool} (hk : ∀ j, j < D.n → D.K j = 1 ∨ D.K j = 2 ∨ D.K j = 3 ∨ D.K j = 4) : ∀ (m i : Nat), i < m → i < D.n → Lo D i → ∀ x ∈ ed D rev i, D.K x.toNat = 1 ∨ D.K x.toNat = 4
  | 0, i, hm, _, _ => by omega
  | m + 1, i, hm, hi, hl => by
    intro x hx
    rw [ed_eq hl] at hx
    unfold bdE at hx
    split at hx
    · obtain ⟨L1, k, L2, e, -, hx⟩ := mem_seqE.1 hx
      have hk2 := hl i (Nat.le_refl _) k (mem_ordL.1 (by rw [e]; simp))
      exact ed_leaves hk m k.toNat (by omega) (by omega) (lo_less hl (by omega)) x hx
    · rename_i hn
      simp at hx
      subst hx
      have := hk i hi
      simp only [Int.toNat_natCast]
      omega
theorem lk_leaf {D : Pn} {n : Nat} (hRN : RN D n) {p q : Int} (hn : 1 ≤ n) (h : lk D (n - 1) p q) : 0 ≤ p ∧ p < (n : Int) ∧ (D.K p.toNat = 1 ∨ D.K p.toNat = 4) := by
  have hlo : Lo D (n - 1) := fun j hj => hRN.2.2.2.1 j (by omega)
  have hkk : ∀ j, j < D.n → D.K j = 1 ∨ D.K j = 2 ∨ D.K j = 3 ∨ D.K j = 4 := fun j hj => rn_kinds hRN (by rw [← hRN.1]; exact hj)
  obtain ⟨j, hj, h8⟩ := lk_node n (n - 1) (by omega) hlo h
  rcases h8 with ⟨-, h8, -⟩ | ⟨-, L1, a, L2, b, L3, e9, -, h8, -⟩
  · have h1 := ed_range (j + 1) j (by omega) (lo_less hlo hj) _ h8
    exact ⟨h1.1, by omega, ed_leaves hkk (j + 1) j (by omega) (by rw [hRN.1]; omega) (lo_less hlo hj) _ h8⟩
  · have hk := hlo j hj a (by rw [e9]; simp)
    have h1 := ed_range (a.toNat + 1) a.toNat (by omega) (lo_less hlo (by omega)) _ h8
    exact ⟨h1.1, by omega, ed_leaves hkk (a.toNat + 1) a.toNat (by omega) (by rw [hRN.1]; omega) (lo_less hlo (by omega)) _ h8⟩
def posB (D : Pn) (x : Int) : Bool := decide (0 ≤ x ∧ x ≤ (D.n : Int) - 1) && decide (D.K x.toNat = 1 ∨ D.K x.toNat = 4)
/-- What may follow a position of a model. -/
def flV (D : Pn) (x : Int) : List Int := if pkB D = true ∧ posB D x = true then srtL (foL D x D.n) else []
theorem foL_range {D : Pn} (h : pkB D = true) {x : Int} : ∀ z ∈ foL D x D.n, 0 ≤ z ∧ z < (D.n : Int) := by
  intro z hz
  have h1 := (pk_facts h).1
  have hlo := lo_root h
  obtain ⟨j, hj, h8⟩ := lk_node D.n (D.n - 1) (by omega) hlo ((mem_root h).1 hz)
  rcases h8 with ⟨-, -, h8⟩ | ⟨-, L1, a, L2, b, L3, e9, -, -, h8⟩
  · have h1 := ed_range (j + 1) j (by omega) (lo_less hlo hj) _ h8
    omega
  · have hk := hlo j hj b (by rw [e9]; simp)
    have h1 := ed_range (b.toNat + 1) b.toNat (by omega) (lo_less hlo (by omega)) _ h8
    omega
theorem flV_len {D : Pn} {x : Int} : (flV D x).length ≤ 40 := by
  unfold flV
  split
  · rename_i h
    have := sorted_len (n := D.n) (srt_sorted (foL D x D.n)) (fun z hz => foL_range h.1 z ((srt_mem _ z).1 hz))
    have := (pk_facts h.1).1
    omega
  · simp
/-- The program's ways tell the same. -/
theorem tk_follow {D : Pn} {F : Nat → Nat} {e : Nat} (hpk : pkB D = true) (hT : TkOf D F e) {x : Nat} (hx : x < D.n) : bts (F x) = flV D x ∧ F x < 18446744073709551616 := by
  have hn := (pk_facts hpk).1
  obtain ⟨h1, h2⟩ := hT.1 x (by omega)
  have hb : BitS (F x) (foL D x D.n) := ⟨h1, fun q => by rw [h2 q, mem_root hpk]⟩
  refine ⟨?_, Nat.lt_of_lt_of_le h1 (by decide)⟩
  rw [bts_srt hb (fun z hz => (foL_range hpk z hz).1)]
  unfold flV
  by_cases hp : posB D x = true
  · rw [if_pos ⟨hpk, hp⟩]
  · rw [if_neg (fun h => hp h.2)]
    have : foL D x D.n = [] := by
      rw [List.eq_nil_iff_forall_not_mem]
      intro q hq
      have hRN : RN D D.n := ⟨rfl, hn.2, (pk_facts hpk).2.1, fun j hj => (pk_lo hpk j hj).2, fun j hj => (pk_lo hpk j hj).1, fun j hj => by
        obtain ⟨c, hc⟩ := (pk_lo hpk j hj).1
        rw [tr_eq] at hc
        have := fd_klen _ j c (fun j d _ hd => tr_le hd) hc
        rw [List.length_reverse] at this
        omega⟩
      have := lk_leaf hRN hn.1 ((mem_root hpk).1 hq)
      apply hp
      unfold posB
      rw [decide_eq_true (by omega), decide_eq_true this.2.2]
      rfl
    rw [this]
    rfl
end Go.Proofs.YtfohfljdgmlibaaDoor
