/-
  Contract: NamesOf, the program's; the walk of FnExactNamesOf.
-/
import Derived.Test.YtdfcpgdfmhicoaaDoorQnN
namespace Go.Proofs.YtdfcpgdfmhicoaaDoor
open Go.RowKit Go.Joins Go.Maps
set_option linter.unusedVariables false
set_option linter.unusedSimpArgs false
/-- While the names of items are told: the block at the end of w holds the document and the maps. -/
def NpRel (D : Dc) (n b off cap : Nat) (sa : Option Addr) (c : Nat) (ms : List Nat) (w wr : World) (i : Nat) (L : QL) (ad : Option Addr) (c' : Nat) : Prop :=
  nmF D i = some L ∧ OwnQ (w.heap.size + 1) wr ad L.length c' (qA L) (qB L) ∧ Below (w.heap.size + 1) (w.alloc (.cells #[.slice (some ⟨b, off, none⟩) n cap, .slice sa n c] 69)) wr ∧ ScAt wr D n b off cap sa c ms
section
variable {D : Dc} {n b off cap : Nat} {sa : Option Addr} {c : Nat} {ms : List Nat} {w wr w2 : World} {i : Nat} {L : QL} {ad : Option Addr} {c' : Nat}
theorem np_size (h : NpRel D n b off cap sa c ms w wr i L ad c') : w.heap.size + 1 ≤ wr.heap.size := by have := h.2.2.1.size; simpa using this
theorem np_go (h : NpRel D n b off cap sa c ms w wr i L ad c') (hb : Below wr.heap.size wr w2) : NpRel D n b off cap sa c ms w w2 i L ad c' :=
  ⟨h.1, ownQ_go h.2.1 hb, h.2.2.1.trans (hb.mono (np_size h)), scAt_go h.2.2.2 hb⟩
theorem np_below (h : NpRel D n b off cap sa c ms w wr i L ad c') : Below w.heap.size w wr := ((Below.refl w.heap.size w).alloc (Nat.le_refl _) _).trans (h.2.2.1.mono (Nat.le_succ _))
theorem np_box (h : NpRel D n b off cap sa c ms w wr i L ad c') : CellsAt wr w.heap.size #[.slice (some ⟨b, off, none⟩) n cap, .slice sa n c] := cellsAt_go (cellsAt_new w _ _) h.2.2.1 (Nat.lt_succ_self _)
end
set_option maxRecDepth 100000 in
set_option maxHeartbeats 8000000 in
theorem i_namesof (D : Dc) (n : Nat) (a : Option Addr) (cap : Nat) (w : World) (hD : D.n = n) (hz : dcTot D ≤ 1048576) (hr : DcAt w a D w.heap.size) (hT : Tabs w) :
    Calls Tryd.prog 25 #[.slice a n cap] w (QAns (noQ D) w) := by
  have HD := hide hD
  have HR := hide hr
  have HZ := hide hz
  have CD := hide (i_docok D n a cap w hD hz hr hT)
  have hn : n ≤ 1048576 := by rw [← hD]; exact (dc_sz hz).1
  obtain ⟨i0, hi, hz0, hz1, hz2⟩ := info_parts infoQ
  have HSN : Hid (∀ j, j < n → (D.NM j).size ≤ 1048576) := hide (fun j hj => by have := ((dc_sz hz).2 j (by omega)).1; omega)
  clear hr hD hz hT
  cases hd : docokB D
  · have HV := hide (noQ_no hd)
    rw [hd] at CD
    go_enter Tryd.func25, Tryd.ntmps25
    go_wp2_with (first | (go_at_call 12; refine CD.out.mono ?_; rintro e w1 ⟨rfl, hb1⟩; have HB := hide hb1; clear hb1))
    go_ret2
    exact qans_no HV.out HB.out
  · have HF := hide (dc_facts hd HZ.out)
    have HV := hide (noQ_yes hd)
    have HTN : Hid (∀ k, k < n → (D.NM k).toList.isEmpty = true → D.AC k = 0) := hide (fun k hk he => text_none hd (by rw [HD.out]; exact hk) he)
    obtain ⟨⟨g1, g2⟩, -, -⟩ := docok_facts hd
    rw [HD.out] at g1 g2 HF HV
    rw [hd] at CD
    obtain ⟨b, off, rfl, hbs, hrow⟩ := HR.out (by rw [HD.out]; omega)
    have HRW := hide hrow
    clear hrow hd
    go_enter Tryd.func25, Tryd.ntmps25
    go_wp2_with fail
    refine CD.out.mono ?_
    rintro e w1 ⟨rfl, hb1⟩
    have hbw : b < w1.heap.size := Nat.lt_of_lt_of_le hbs hb1.size
    have hrow1 := dcRow_up (dcRow_go HRW.out hbs hb1) hb1.size
    have CS := hide (i_scopes D n b off cap w1 HD.out g2 hbw hrow1 HF.out.2.2.2.2)
    have HRW1 := hide hrow1
    have HB := hide hb1
    clear hb1 hrow1
    go_wp2_with fail
    refine CS.out.mono ?_
    rintro e w2 ⟨sa, c, ms, rfl, hml, ho, hms, hb2⟩
    have HS2 : Hid (ScAt w2 D n b off cap sa c ms) := hide ⟨Nat.lt_of_lt_of_le hbw hb2.size, dcRow_up (dcRow_go HRW1.out hbw hb2) hb2.size, hml, ⟨_, ho⟩, hms⟩
    have HB2 := hide (HB.out.trans (hb2.mono HB.out.size))
    clear ho hms hb2
    go_wp2
    go_loopw [5, 19] (fun v iv wr => ∃ (i : Nat) (L : QL) (ad : Option Addr) (c' : Nat), i ≤ n ∧ iv = .int .i64 i ∧ v = .slice ad L.length c' ∧ NpRel D n b off cap sa c ms w2 wr i L ad c') (fun _ iv _ => n - (intOf iv).toNat)
    case atStart => exact ⟨0, [], none, 0, Nat.zero_le _, rfl, rfl, rfl, ownQ_none _ _ _ _, Below.refl _ _, scAt_go HS2.out ((Below.refl _ _).alloc (Nat.le_refl _) _)⟩
    case round =>
      obtain ⟨i, L, ad, c', hi9, rfl, rfl, hrel⟩ := hrel
      have HRL := hide hrel
      have hLi := nmF_len i L hrel.1
      have HBw := hide (HB2.out.trans ((np_below hrel).mono HB2.out.size))
      have hsz := np_size hrel
      have g0 : wr.cell? ⟨w2.heap.size, 0, none⟩ = some (.slice (some ⟨b, off, none⟩) n cap) := cellsAt_cell (np_box hrel) 0
      have g1' : wr.cell? ⟨w2.heap.size, 1, none⟩ = some (.slice sa n c) := cellsAt_cell (np_box hrel) 1
      by_cases hlt : i < n
      · obtain ⟨ad9, cp9, hc9, -⟩ := hrel.2.2.2.2.1 i (by rw [HD.out]; omega)
        obtain ⟨c0, c1, c2, c3⟩ := hc9
        clear hrel
        have hiI : (i : Int) < (n : Int) := by omega
        have hi00 : (0 : Int) ≤ (i : Int) := by omega
        have hnz := HSN.out i hlt
        have HLI := hide hLi
        have hLn : L.length ≤ 200 := by omega
        clear hLi
        have HRL1 := hide (np_go HRL.out ((Below.refl wr.heap.size wr).alloc (Nat.le_refl _) (.cells #[.int .i64 (D.U i), .string (D.NM i), .string (D.TX i), .slice ad9 (D.AC i) cp9] 51)))
        have CA : Hid (∀ w9 : World, ScAt w9 D n b off cap sa c ms → Calls Tryd.prog 56 #[.agg #[.slice (some ⟨b, off, none⟩) n cap, .slice sa n c], .int .i64 i] w9 (QAns (qn D i (D.AN i) (D.AC i)) w9)) := hide fun w9 h => i_attrNames D n b off cap sa c ms w9 i HF.out hlt h
        obtain ⟨V, Lo, K, HCN, HNO, HNY⟩ : ∃ (V Lo : ByteArray) (K : Bool), Hid (∀ w9 : World, ScAt w9 D n b off cap sa c ms → Calls Tryd.prog 55 #[.agg #[.slice (some ⟨b, off, none⟩) n cap, .slice sa n c], .int .i64 i, .string (D.NM i)] w9 fun e w' => e = .returned (.tuple #[.agg #[.string V, .string Lo], .bool K]) ∧ Below w9.heap.size w9 w') ∧ Hid (K = false ∨ qn D i (D.AN i) (D.AC i) = none → nmQ D i = none) ∧ Hid (K = true → (qn D i (D.AN i) (D.AC i)).isSome = true → nmQ D i = some (V, Lo)) := by
          cases he : (D.NM i).toList.isEmpty
          · refine ⟨_, _, _, hide fun w9 h => i_nameOf D n b off cap sa c ms w9 i (D.NM i) HF.out hlt hnz he h, hide ?_, hide fun h1 h2 => nmQ_yes he h1 h2⟩
            rintro (h | h)
            · exact nmQ_no1 he h
            · exact nmQ_no2 he h
          · refine ⟨⟨#[]⟩, ⟨#[]⟩, true, hide fun w9 h => i_nameOf0 _ _ _ (D.NM i) w9 he ⟨_, rfl⟩ ⟨_, _, _, rfl⟩ ⟨_, _, _, rfl⟩, hide ?_, hide fun _ _ => nmQ_text he⟩
            rintro (h | h)
            · cases h
            · rw [HTN.out i hlt he] at h; cases h
        have up : ∀ (q : Addr) (v : Value), q.block < wr.heap.size → wr.cell? q = some v → ∀ o, (wr.alloc o).cell? q = some v := fun q v hq h o => (((Below.refl wr.heap.size wr).alloc (Nat.le_refl _) o).cell hq).trans h
        have u0 := up ⟨w2.heap.size, 0, none⟩ _ (by show w2.heap.size < wr.heap.size; omega) g0
        have u1 := up ⟨w2.heap.size, 1, none⟩ _ (by show w2.heap.size < wr.heap.size; omega) g1'
        clear up
        go_wp2_with fail
        refine (HCN.out _ HRL1.out.2.2.2).mono ?_
        rintro e w3 ⟨rfl, hb3⟩
        have HRL3 := hide (np_go HRL1.out hb3)
        clear hb3 g0 g1' c0 c1 c2 c3 u0 u1
        have HRL4 := hide (np_go HRL3.out ((Below.refl w3.heap.size w3).alloc (Nat.le_refl _) (.cells #[.string V, .string Lo] 73)))
        have K4 := hide (cellsAt_new w3 #[.string V, .string Lo] 73)
        cases K
        · have HE := hide (nmF_none (nmF_no HRL3.out.1 (HNO.out (.inl rfl))) n (by omega))
          go_wp2
          go_ret2
          exact qans_no (by rw [HV.out]; exact HE.out) (HB2.out.trans ((np_below HRL4.out).mono HB2.out.size))
        · have g0 : (w3.alloc (.cells #[.string V, .string Lo] 73)).cell? ⟨w2.heap.size, 0, none⟩ = some (.slice (some ⟨b, off, none⟩) n cap) := cellsAt_cell (np_box HRL4.out) 0
          have g1' : (w3.alloc (.cells #[.string V, .string Lo] 73)).cell? ⟨w2.heap.size, 1, none⟩ = some (.slice sa n c) := cellsAt_cell (np_box HRL4.out) 1
          have h0 : w3.cell? ⟨w2.heap.size, 0, none⟩ = some (.slice (some ⟨b, off, none⟩) n cap) := cellsAt_cell (np_box HRL3.out) 0
          have h1' : w3.cell? ⟨w2.heap.size, 1, none⟩ = some (.slice sa n c) := cellsAt_cell (np_box HRL3.out) 1
          go_wp2_with fail
          refine (CA.out _ HRL4.out.2.2.2).mono ?_
          intro e w5 hq
          obtain ⟨hb5, ⟨h1, rfl⟩ | ⟨L5, ad5, c5, h1, rfl, -⟩⟩ := hq
          · have HRL5 := hide (np_go HRL4.out hb5)
            have HE := hide (nmF_none (nmF_no HRL5.out.1 (HNO.out (.inr h1))) n (by omega))
            clear hb5 h1 g0 g1' h0 h1'
            go_wp2
            go_ret2
            exact qans_no (by rw [HV.out]; exact HE.out) (HB2.out.trans ((np_below HRL5.out).mono HB2.out.size))
          · have HRL5 := hide (np_go HRL4.out hb5)
            have K5 := hide (cellsAt_go K4.out hb5 (by simp))
            have k0 : w5.cell? ⟨w3.heap.size, 0, none⟩ = some (.string V) := cellsAt_cell K5.out 0
            have k1 : w5.cell? ⟨w3.heap.size, 1, none⟩ = some (.string Lo) := cellsAt_cell K5.out 1
            have hsz5 := np_size HRL5.out
            have HNE := hide (nmF_put HRL5.out.1 (HNY.out (by first | rfl | trivial) (by rw [h1]; rfl)))
            obtain ⟨xs, hox, hpx⟩ := HRL5.out.2.1
            have HOX := hide hox
            have HPX := hide hpx
            clear hox hpx hb5 h1 g0 g1' h0 h1'
            go_wp2_with (first | (at_builtin; refine wpList_append_own _ rfl (.tmp 42) (.tmp 44) 39 rfl (w2.heap.size + 1) 73 i0 (.agg #[.string ⟨#[]⟩, .string ⟨#[]⟩]) 2 32 Tryd.underlying39 hi hz0 hz1 hz2 rfl (by decide) _ _ _ rfl (HOX.out.alloc _) ⟨w5.heap.size, 0, none⟩ 1 1 [.string V, .string Lo] rfl rfl (fun j u hj => gTwo_new w5 _ _ _ j u hj) (gStr_two _ _) (by unfold maxLen; omega) (by omega) (by simp; omega) ?_; intro v2 w6 hown2 hgrow2 _; obtain ⟨ad2, c2', hv2⟩ := gOwn_shape hown2; rw [hv2] at hown2 ⊢; clear hv2; have HB6 := hide (gBelow_oneB HRL5.out.2.2.1 (np_size HRL5.out) HOX.out hgrow2); have HO6 := hide hown2; clear hown2 hgrow2))
            go_roundw
            case rel =>
              refine ⟨i + 1, L ++ [(V, Lo)], ad2, c2', by omega, by go_num, by simp, HNE.out, ?_, HB6.out, ?_⟩
              · have h := own_put HPX.out HOX.out.1 rfl (V, Lo) HO6.out
                simpa using h
              · exact scAt_go HS2.out (((Below.refl w2.heap.size w2).alloc (Nat.le_refl _) _).trans (HB6.out.mono (Nat.le_succ _)))
            case measure => simp [intOf]; omega
      · have him : i = n := by omega
        subst him
        clear hrel
        go_wp2
        go_ret2
        exact ⟨HBw.out, .inr ⟨L, ad, c', by rw [HV.out]; exact HRL.out.1, rfl, ownQ_lower HRL.out.2.1 (by have := HB2.out.size; omega)⟩⟩
set_option maxRecDepth 100000 in
set_option maxHeartbeats 8000000 in
theorem no_walk (D : Dc) (n : Nat) (a : Option Addr) (cap : Nat) (w : World) (hD : D.n = n) (hz : DcSz D) (hr : DcAt w a D w.heap.size) (hT : Tabs w) :
    Calls Tryd.prog 7 #[.slice a n cap] w fun e w' => e = .returned (.bool true) ∧ Below w.heap.size w w' := by
  have HX := hide hD
  have HR := hide hr
  have HT := hide hT
  have HS := hide (l_szIs D n a cap w hD hz hr)
  by_cases hbig : (dcTot D : Int) ≤ 1048576
  · have HL := hide (dn_yes hbig)
    have hb9 : dcTot D ≤ 1048576 := by omega
    have hl2 : n ≤ 1048576 := by rw [← hD]; exact (dc_sz hb9).1
    have HNR : Hid (∀ j, j < n → D.AC j ≤ 1048576) := hide (fun j hj => by have := ((dc_sz hb9).2 j (by omega)).1; omega)
    have HAC : Hid (sumN D.AC n ≤ 1048576) := hide (by rw [← hD]; exact sumN_acQ hb9)
    have hl9 : (0 : Int) ≤ 1048576 - (dcTot D : Int) := by omega
    have hkl : (lst (noQ D)).length ≤ 1048576 := noQ_len hb9
    have CS := hide (fun (a' : Option Addr) (c' : Nat) (w' : World) (h : DcAt w' a' D w'.heap.size) => (s_namesof D n a' c' w' hD hb9 h).mono fun _ _ h => tell_of h)
    have CI := hide (fun (a' : Option Addr) (c' : Nat) (w' : World) (h : DcAt w' a' D w'.heap.size) (hT' : Tabs w') => (i_namesof D n a' c' w' hD hb9 h hT').mono fun _ _ h => tell_of h)
    unfold QTell at CS CI
    obtain ⟨N, hN⟩ : ∃ N, qA (lst (noQ D)) = N := ⟨_, rfl⟩
    obtain ⟨V, hV⟩ : ∃ V, qB (lst (noQ D)) = V := ⟨_, rfl⟩
    obtain ⟨m, hm⟩ : ∃ m, (lst (noQ D)).length = m := ⟨_, rfl⟩
    obtain ⟨K, hK⟩ : ∃ K, (noQ D).isSome = K := ⟨_, rfl⟩
    rw [hN, hV, hm, hK] at CS CI
    rw [hm] at hkl
    have hc1 : ¬ (1 + 2 * (m : Int)) < 0 := by omega
    clear hr hD hz hT hb9 hN hV hm hK
    go_enter Tryd.func7, Tryd.ntmps7
    go_wp2_with fail
    refine HS.out.mono ?_
    rintro e w1 ⟨rfl, hb1⟩
    rw [HL.out]
    have HA1 := hide (dcAt_up (dcAt_go HR.out hb1) hb1.size)
    have HB1 := hide hb1
    clear hb1
    go_wp2_with fail
    refine (l_toIs D n a cap _ HX.out hl2 HNR.out HA1.out).mono ?_
    rintro e w2 ⟨g2, rfl, hg2, hr2, hb2⟩
    have HB2 := hide (HB1.out.trans (hb2.mono HB1.out.size))
    have HR2 := hide hr2
    clear hr2 hb2
    go_wp2_with fail
    refine (CS.out _ _ _ HR2.out).mono ?_
    rintro e w3 ⟨adA, cA, rfl, hoA, hb3⟩
    have OA := hide hoA
    have HB3 := hide (HB2.out.trans (hb3.mono HB2.out.size))
    have HA3 := hide (dcAt_up (dcAt_go HR.out HB3.out) HB3.out.size)
    clear hoA hb3
    go_wp2_with fail
    refine (l_toIs2 D n a cap _ HX.out hl2 HNR.out HA3.out).mono ?_
    rintro e w4 ⟨g4, rfl, hg4, hr4, hsh4, hb4⟩
    have HB4 := hide (HB3.out.trans (hb4.mono HB3.out.size))
    have HB34 := hide hb4
    have HR4 := hide hr4
    have HSH4 := hide hsh4
    have OA4 := hide (ownQ_go OA.out hb4)
    clear hr4 hsh4 hb4
    go_wp2_with fail
    refine (CI.out _ _ _ HR4.out (tabs_below HT.out HB4.out)).mono ?_
    rintro e w5 ⟨adB, cB, rfl, hoB, hb5⟩
    have OB := hide hoB
    have HB45 := hide hb5
    have HB5 := hide (HB4.out.trans (hb5.mono HB4.out.size))
    have OA5 := hide (ownQ_go OA4.out hb5)
    clear hoB hb5
    go_wp2_with fail
    refine (l_eqQs adB adA m cB cA N V _ hkl (ownQ_at OB.out) (ownQ_at OA5.out)).mono ?_
    rintro e w6 ⟨rfl, hb6⟩
    have HB6 := hide (HB5.out.trans (hb6.mono HB5.out.size))
    have HB46 := hide (HB45.out.trans (hb6.mono HB45.out.size))
    have OA6 := hide (ownQ_go OA5.out hb6)
    have OB6 := hide (ownQ_go OB.out hb6)
    have HA6 := hide (dcAt_up (dcAt_go HR.out HB6.out) HB6.out.size)
    clear hb6
    go_wp2_with fail
    refine (l_toIs D n a cap _ HX.out hl2 HNR.out HA6.out).mono ?_
    rintro e w7 ⟨g7, rfl, hg7, hr7, hb7⟩
    have HB7 := hide (HB6.out.trans (hb7.mono HB6.out.size))
    have HB47 := hide (HB46.out.trans (hb7.mono HB46.out.size))
    have HR7 := hide hr7
    have HR47 := hide (dcAt_up (dcAt_go HR4.out HB47.out) HB47.out.size)
    have OA7 := hide (ownQ_go OA6.out hb7)
    have OB7 := hide (ownQ_go OB6.out hb7)
    clear hr7 hb7
    go_wp2_with fail
    refine (l_eqIs D n _ _ _ _ _ HX.out hl2 HNR.out HR47.out HR7.out).mono ?_
    rintro e w8 ⟨rfl, hb8⟩
    have HB8 := hide (HB7.out.trans (hb8.mono HB7.out.size))
    have HB48 := hide (HB47.out.trans (hb8.mono HB47.out.size))
    have OA8 := hide (ownQ_go OA7.out hb8)
    have OB8 := hide (ownQ_go OB7.out hb8)
    have HSH8 := hide (shI_go HSH4.out (chg_below (lo := 0) (hi := 0) HB48.out) (.inr (Nat.zero_le _)))
    clear hb8
    go_wp2_with fail
    refine (l_markIs g4 n n D.AC w3.heap.size w4.heap.size _ hl2 HAC.out HSH8.out).mono ?_
    rintro e w9 ⟨kk, rfl, hkk, hc9⟩
    have hkk2 : ¬ kk < 0 := by omega
    have HB9 := hide (below_chg HB8.out (Nat.le_refl _) HB3.out.size hc9)
    have OA9 := hide (ownQ_chg OA8.out hc9 (fun j hj => .inl (ownQ_lt OA.out j hj).2))
    have OB9 := hide (ownQ_chg OB8.out hc9 (fun j hj => .inr (ownQ_lt OB.out j hj).1))
    clear hc9
    go_wp2_with fail
    refine (l_eqQs adB adA m cB cA N V _ hkl (ownQ_at OB9.out) (ownQ_at OA9.out)).mono ?_
    rintro e w10 ⟨rfl, hb10⟩
    have HB10 := hide (HB9.out.trans (hb10.mono HB9.out.size))
    have OA10 := hide (ownQ_go OA9.out hb10)
    have OB10 := hide (ownQ_go OB9.out hb10)
    clear hb10
    go_wp2_with fail
    refine (l_markQs w4.heap.size adB m cB N V _ hkl OB10.out).mono ?_
    rintro e w11 ⟨rfl, ho11, hb11⟩
    have O11 := hide ho11
    have OA11 := hide (ownQ_stays OA10.out hb11 (fun j hj => Nat.lt_of_lt_of_le (ownQ_lt OA.out j hj).2 HB34.out.size))
    have HB11 := hide (HB10.out.trans (hb11.mono HB4.out.size))
    clear ho11 hb11
    go_wp2_with fail
    refine (l_heldQs adB m cB _ hkl (ownQ_at O11.out)).mono ?_
    rintro e w12 ⟨rfl, hb12⟩
    have HB12 := hide (HB11.out.trans (hb12.mono HB11.out.size))
    have HA12 := hide (dcAt_up (dcAt_go HR.out HB12.out) HB12.out.size)
    have O12 := hide (ownQ_go O11.out hb12)
    have OA12 := hide (ownQ_go OA11.out hb12)
    clear hb12
    go_wp2_with fail
    refine (l_toIs D n a cap _ HX.out hl2 HNR.out HA12.out).mono ?_
    rintro e w13 ⟨g13, rfl, hg13, hr13, hb13⟩
    have HB13 := hide (HB12.out.trans (hb13.mono HB12.out.size))
    have HR13 := hide hr13
    have OA13 := hide (ownQ_go OA12.out hb13)
    have O13 := hide (ownQ_go O12.out hb13)
    clear hr13 hb13
    go_wp2_with fail
    refine (CI.out _ _ _ HR13.out (tabs_below HT.out HB13.out)).mono ?_
    rintro e w14 ⟨adC, cC, rfl, hoC, hb14⟩
    have OC := hide hoC
    have HB14 := hide (HB13.out.trans (hb14.mono HB13.out.size))
    have OA14 := hide (ownQ_go OA13.out hb14)
    have O14 := hide (ownQ_go O13.out hb14)
    clear hoC hb14
    go_wp2_with fail
    refine (l_eqQs adC adA m cC cA N V _ hkl (ownQ_at OC.out) (ownQ_at OA14.out)).mono ?_
    rintro e w15 ⟨rfl, hb15⟩
    have HB15 := hide (HB14.out.trans (hb15.mono HB14.out.size))
    have O15 := hide (ownQ_go O14.out hb15)
    clear hb15
    go_wp2_with fail
    refine (l_heldQs adB m cB _ hkl (ownQ_at O15.out)).mono ?_
    rintro e w16 ⟨rfl, hb16⟩
    have HB16 := hide (HB15.out.trans (hb16.mono HB15.out.size))
    clear hb16
    go_wp2
    go_ret
    exact ⟨rfl, HB16.out⟩
  · have HL := hide (dn_no hbig)
    clear hr hD hz hT
    go_enter Tryd.func7, Tryd.ntmps7
    go_wp2_with fail
    refine HS.out.mono ?_
    rintro e w1 ⟨rfl, hb1⟩
    rw [HL.out]
    have HB1 := hide hb1
    clear hb1
    go_wp2
    go_ret
    exact ⟨rfl, HB1.out⟩
end Go.Proofs.YtdfcpgdfmhicoaaDoor
