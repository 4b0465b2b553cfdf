/-
  Contract: NamesOf, the program's; the walk of FnExactNamesOf.
-/
import Derived.Test.YtogeicckbdfldaaDoorQnN
namespace Go.Proofs.YtogeicckbdfldaaDoor
open Go.RowKit Go.Joins Go.Maps
set_option linter.unusedVariables false
set_option linter.unusedSimpArgs false
/-- While the names of items are told: the block at the end of w holds the document and the maps. -/
def NpRel (D : Dc) (n b off cap : Nat) (sa : Option Addr) (c : Nat) (ms : List Nat) (w wr : World) (i : Nat) (L : QL) (ad : Option Addr) (c' : Nat) : Prop :=
  nmF D i = some L ∧ OwnQ (w.heap.size + 1) wr ad L.length c' (qA L) (qB L) ∧ Below (w.heap.size + 1) (w.alloc (.cells #[.slice (some ⟨b, off, none⟩) n cap, .slice sa n c] 62)) wr ∧ ScAt wr D n b off cap sa c ms
section
variable {D : Dc} {n b off cap : Nat} {sa : Option Addr} {c : Nat} {ms : List Nat} {w wr w2 : World} {i : Nat} {L : QL} {ad : Option Addr} {c' : Nat}
theorem np_size (h : NpRel D n b off cap sa c ms w wr i L ad c') : w.heap.size + 1 ≤ wr.heap.size := by have := h.2.2.1.size; simpa using this
theorem np_go (h : NpRel D n b off cap sa c ms w wr i L ad c') (hb : Below wr.heap.size wr w2) : NpRel D n b off cap sa c ms w w2 i L ad c' :=
  ⟨h.1, ownQ_go h.2.1 hb, h.2.2.1.trans (hb.mono (np_size h)), scAt_go h.2.2.2 hb⟩
theorem np_below (h : NpRel D n b off cap sa c ms w wr i L ad c') : Below w.heap.size w wr := ((Below.refl w.heap.size w).alloc (Nat.le_refl _) _).trans (h.2.2.1.mono (Nat.le_succ _))
theorem np_box (h : NpRel D n b off cap sa c ms w wr i L ad c') : CellsAt wr w.heap.size #[.slice (some ⟨b, off, none⟩) n cap, .slice sa n c] := cellsAt_go (cellsAt_new w _ _) h.2.2.1 (Nat.lt_succ_self _)
end
set_option maxRecDepth 100000 in
set_option maxHeartbeats 8000000 in
theorem i_namesof (D : Dc) (n : Nat) (a : Option Addr) (cap : Nat) (w : World) (hD : D.n = n) (hz : dcTot D ≤ 1048576) (hr : DcAt w a D w.heap.size) (hT : Tabs w) :
    Calls Tryd.prog 15 #[.slice a n cap] w (QAns (noQ D) w) := by
  have HD := hide hD
  have HR := hide hr
  have HZ := hide hz
  have CD := hide (i_docok D n a cap w hD hz hr hT)
  have hn : n ≤ 1048576 := by rw [← hD]; exact (dc_sz hz).1
  obtain ⟨i0, hi, hz0, hz1, hz2⟩ := info_parts infoQ
  have HSN : Hid (∀ j, j < n → (D.NM j).size ≤ 1048576) := hide (fun j hj => by have := ((dc_sz hz).2 j (by omega)).1; omega)
  clear hr hD hz hT
  cases hd : docokB D
  · have HV := hide (noQ_no hd)
    rw [hd] at CD
    go_enter Tryd.func15, Tryd.ntmps15
    go_wp2_with (first | (go_at_call 13; refine CD.out.mono ?_; rintro e w1 ⟨rfl, hb1⟩; have HB := hide hb1; clear hb1))
    go_ret2
    exact qans_no HV.out HB.out
  · have HF := hide (dc_facts hd HZ.out)
    have HV := hide (noQ_yes hd)
    have HTN : Hid (∀ k, k < n → (D.NM k).toList.isEmpty = true → D.AC k = 0) := hide (fun k hk he => text_none hd (by rw [HD.out]; exact hk) he)
    obtain ⟨⟨g1, g2⟩, -, -⟩ := docok_facts hd
    rw [HD.out] at g1 g2 HF HV
    rw [hd] at CD
    obtain ⟨b, off, rfl, hbs, hrow⟩ := HR.out (by rw [HD.out]; omega)
    have HRW := hide hrow
    clear hrow hd
    go_enter Tryd.func15, Tryd.ntmps15
    go_wp2_with fail
    refine CD.out.mono ?_
    rintro e w1 ⟨rfl, hb1⟩
    have hbw : b < w1.heap.size := Nat.lt_of_lt_of_le hbs hb1.size
    have hrow1 := dcRow_up (dcRow_go HRW.out hbs hb1) hb1.size
    have CS := hide (i_scopes D n b off cap w1 HD.out g2 hbw hrow1 HF.out.2.2.2.2)
    have HRW1 := hide hrow1
    have HB := hide hb1
    clear hb1 hrow1
    go_wp2_with fail
    refine CS.out.mono ?_
    rintro e w2 ⟨sa, c, ms, rfl, hml, ho, hms, hb2⟩
    have HS2 : Hid (ScAt w2 D n b off cap sa c ms) := hide ⟨Nat.lt_of_lt_of_le hbw hb2.size, dcRow_up (dcRow_go HRW1.out hbw hb2) hb2.size, hml, ⟨_, ho⟩, hms⟩
    have HB2 := hide (HB.out.trans (hb2.mono HB.out.size))
    clear ho hms hb2
    go_wp2
    go_loopw [5, 19] (fun v iv wr => ∃ (i : Nat) (L : QL) (ad : Option Addr) (c' : Nat), i ≤ n ∧ iv = .int .i64 i ∧ v = .slice ad L.length c' ∧ NpRel D n b off cap sa c ms w2 wr i L ad c') (fun _ iv _ => n - (intOf iv).toNat)
    case atStart => exact ⟨0, [], none, 0, Nat.zero_le _, rfl, rfl, rfl, ownQ_none _ _ _ _, Below.refl _ _, scAt_go HS2.out ((Below.refl _ _).alloc (Nat.le_refl _) _)⟩
    case round =>
      obtain ⟨i, L, ad, c', hi9, rfl, rfl, hrel⟩ := hrel
      have HRL := hide hrel
      have hLi := nmF_len i L hrel.1
      have HBw := hide (HB2.out.trans ((np_below hrel).mono HB2.out.size))
      have hsz := np_size hrel
      have g0 : wr.cell? ⟨w2.heap.size, 0, none⟩ = some (.slice (some ⟨b, off, none⟩) n cap) := cellsAt_cell (np_box hrel) 0
      have g1' : wr.cell? ⟨w2.heap.size, 1, none⟩ = some (.slice sa n c) := cellsAt_cell (np_box hrel) 1
      by_cases hlt : i < n
      · obtain ⟨ad9, cp9, hc9, -⟩ := hrel.2.2.2.2.1 i (by rw [HD.out]; omega)
        obtain ⟨c0, c1, c2, c3⟩ := hc9
        clear hrel
        have hiI : (i : Int) < (n : Int) := by omega
        have hi00 : (0 : Int) ≤ (i : Int) := by omega
        have hnz := HSN.out i hlt
        have HLI := hide hLi
        have hLn : L.length ≤ 200 := by omega
        clear hLi
        have HRL1 := hide (np_go HRL.out ((Below.refl wr.heap.size wr).alloc (Nat.le_refl _) (.cells #[.int .i64 (D.U i), .string (D.NM i), .string (D.TX i), .slice ad9 (D.AC i) cp9] 34)))
        have CA : Hid (∀ w9 : World, ScAt w9 D n b off cap sa c ms → Calls Tryd.prog 39 #[.agg #[.slice (some ⟨b, off, none⟩) n cap, .slice sa n c], .int .i64 i] w9 (QAns (qn D i (D.AN i) (D.AC i)) w9)) := hide fun w9 h => i_attrNames D n b off cap sa c ms w9 i HF.out hlt h
        obtain ⟨V, Lo, K, HCN, HNO, HNY⟩ : ∃ (V Lo : ByteArray) (K : Bool), Hid (∀ w9 : World, ScAt w9 D n b off cap sa c ms → Calls Tryd.prog 38 #[.agg #[.slice (some ⟨b, off, none⟩) n cap, .slice sa n c], .int .i64 i, .string (D.NM i)] w9 fun e w' => e = .returned (.tuple #[.agg #[.string V, .string Lo], .bool K]) ∧ Below w9.heap.size w9 w') ∧ Hid (K = false ∨ qn D i (D.AN i) (D.AC i) = none → nmQ D i = none) ∧ Hid (K = true → (qn D i (D.AN i) (D.AC i)).isSome = true → nmQ D i = some (V, Lo)) := by
          cases he : (D.NM i).toList.isEmpty
          · refine ⟨_, _, _, hide fun w9 h => i_nameOf D n b off cap sa c ms w9 i (D.NM i) HF.out hlt hnz he h, hide ?_, hide fun h1 h2 => nmQ_yes he h1 h2⟩
            rintro (h | h)
            · exact nmQ_no1 he h
            · exact nmQ_no2 he h
          · refine ⟨⟨#[]⟩, ⟨#[]⟩, true, hide fun w9 h => i_nameOf0 _ _ _ (D.NM i) w9 he ⟨_, rfl⟩ ⟨_, _, _, rfl⟩ ⟨_, _, _, rfl⟩, hide ?_, hide fun _ _ => nmQ_text he⟩
            rintro (h | h)
            · cases h
            · rw [HTN.out i hlt he] at h; cases h
        have up : ∀ (q : Addr) (v : Value), q.block < wr.heap.size → wr.cell? q = some v → ∀ o, (wr.alloc o).cell? q = some v := fun q v hq h o => (((Below.refl wr.heap.size wr).alloc (Nat.le_refl _) o).cell hq).trans h
        have u0 := up ⟨w2.heap.size, 0, none⟩ _ (by show w2.heap.size < wr.heap.size; omega) g0
        have u1 := up ⟨w2.heap.size, 1, none⟩ _ (by show w2.heap.size < wr.heap.size; omega) g1'
        clear up
        go_wp2_with fail
        refine (HCN.out _ HRL1.out.2.2.2).mono ?_
        rintro e w3 ⟨rfl, hb3⟩
        have HRL3 := hide (np_go HRL1.out hb3)
        clear hb3 g0 g1' c0 c1 c2 c3 u0 u1
        have HRL4 := hide (np_go HRL3.out ((Below.refl w3.heap.size w3).alloc (Nat.le_refl _) (.cells #[.string V, .string Lo] 41)))
        have K4 := hide (cellsAt_new w3 #[.string V, .string Lo] 41)
        cases K
        · have HE := hide (nmF_none (nmF_no HRL3.out.1 (HNO.out (.inl rfl))) n (by omega))
          go_wp2
          go_ret2
          exact qans_no (by rw [HV.out]; exact HE.out) (HB2.out.trans ((np_below HRL4.out).mono HB2.out.size))
        · have g0 : (w3.alloc (.cells #[.string V, .string Lo] 41)).cell? ⟨w2.heap.size, 0, none⟩ = some (.slice (some ⟨b, off, none⟩) n cap) := cellsAt_cell (np_box HRL4.out) 0
          have g1' : (w3.alloc (.cells #[.string V, .string Lo] 41)).cell? ⟨w2.heap.size, 1, none⟩ = some (.slice sa n c) := cellsAt_cell (np_box HRL4.out) 1
          have h0 : w3.cell? ⟨w2.heap.size, 0, none⟩ = some (.slice (some ⟨b, off, none⟩) n cap) := cellsAt_cell (np_box HRL3.out) 0
          have h1' : w3.cell? ⟨w2.heap.size, 1, none⟩ = some (.slice sa n c) := cellsAt_cell (np_box HRL3.out) 1
          go_wp2_with fail
          refine (CA.out _ HRL4.out.2.2.2).mono ?_
          intro e w5 hq
          obtain ⟨hb5, ⟨h1, rfl⟩ | ⟨L5, ad5, c5, h1, rfl, -⟩⟩ := hq
          · have HRL5 := hide (np_go HRL4.out hb5)
            have HE := hide (nmF_none (nmF_no HRL5.out.1 (HNO.out (.inr h1))) n (by omega))
            clear hb5 h1 g0 g1' h0 h1'
            go_wp2
            go_ret2
            exact qans_no (by rw [HV.out]; exact HE.out) (HB2.out.trans ((np_below HRL5.out).mono HB2.out.size))
          · have HRL5 := hide (np_go HRL4.out hb5)
            have K5 := hide (cellsAt_go K4.out hb5 (by simp))
            have k0 : w5.cell? ⟨w3.heap.size, 0, none⟩ = some (.string V) := cellsAt_cell K5.out 0
            have k1 : w5.cell? ⟨w3.heap.size, 1, none⟩ = some (.string Lo) := cellsAt_cell K5.out 1
            have hsz5 := np_size HRL5.out
            have HNE := hide (nmF_put HRL5.out.1 (HNY.out (by first | rfl | trivial) (by rw [h1]; rfl)))
            obtain ⟨xs, hox, hpx⟩ := HRL5.out.2.1
            have HOX := hide hox
            have HPX := hide hpx
            clear hox hpx hb5 h1 g0 g1' h0 h1'
            go_wp2_with (first | (at_builtin; refine wpList_append_own _ rfl (.tmp 42) (.tmp 44) 37 rfl (w2.heap.size + 1) 41 i0 (.agg #[.string ⟨#[]⟩, .string ⟨#[]⟩]) 2 32 Tryd.underlying37 hi hz0 hz1 hz2 rfl (by decide) _ _ _ rfl (HOX.out.alloc _) ⟨w5.heap.size, 0, none⟩ 1 1 [.string V, .string Lo] rfl rfl (fun j u hj => gTwo_new w5 _ _ _ j u hj) (gStr_two _ _) (by unfold maxLen; omega) (by omega) (by simp; omega) ?_; intro v2 w6 hown2 hgrow2 _; obtain ⟨ad2, c2', hv2⟩ := gOwn_shape hown2; rw [hv2] at hown2 ⊢; clear hv2; have HB6 := hide (gBelow_oneB HRL5.out.2.2.1 (np_size HRL5.out) HOX.out hgrow2); have HO6 := hide hown2; clear hown2 hgrow2))
            go_roundw
            case rel =>
              refine ⟨i + 1, L ++ [(V, Lo)], ad2, c2', by omega, by go_num, by simp, HNE.out, ?_, HB6.out, ?_⟩
              · have h := own_put HPX.out HOX.out.1 rfl (V, Lo) HO6.out
                simpa using h
              · exact scAt_go HS2.out (((Below.refl w2.heap.size w2).alloc (Nat.le_refl _) _).trans (HB6.out.mono (Nat.le_succ _)))
            case measure => simp [intOf]; omega
      · have him : i = n := by omega
        subst him
        clear hrel
        go_wp2
        go_ret2
        exact ⟨HBw.out, .inr ⟨L, ad, c', by rw [HV.out]; exact HRL.out.1, rfl, ownQ_lower HRL.out.2.1 (by have := HB2.out.size; omega)⟩⟩
end Go.Proofs.YtogeicckbdfldaaDoor
