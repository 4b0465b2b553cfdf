/-
  Contracts: AttrNames, the program's and the specification's; the walk of FnExactAttrNames.
-/
import Derived.Test.YtdfcpgdfmhicoaaDoorQnJ
import Derived.Test.YtdfcpgdfmhicoaaDoorBnW
import Derived.Test.YtdfcpgdfmhicoaaDoorKdLaw0
namespace Go.Proofs.YtdfcpgdfmhicoaaDoor
open Go.RowKit Go.Joins Go.Maps
set_option linter.unusedVariables false
set_option linter.unusedSimpArgs false
def lst (o : Option QL) : QL := o.getD []
/-- An answer of names, told as a row and a flag. -/
def QTell (o : Option QL) (w : World) (e : Ending) (w' : World) : Prop := ∃ ad c, e = .returned (.tuple #[.slice ad (lst o).length c, .bool o.isSome]) ∧ OwnQ w.heap.size w' ad (lst o).length c (qA (lst o)) (qB (lst o)) ∧ Below w.heap.size w w'
theorem tell_of {o : Option QL} {w w' : World} {e : Ending} (h : QAns o w e w') : QTell o w e w' := by
  obtain ⟨hb, ⟨rfl, rfl⟩ | ⟨L, ad, c, rfl, rfl, ho⟩⟩ := h
  · exact ⟨none, 0, rfl, ownQ_none _ _ _ _, hb⟩
  · exact ⟨ad, c, rfl, ho, hb⟩
theorem qans_no {o : Option QL} {w w' : World} (h : o = none) (hb : Below w.heap.size w w') : QAns o w (.returned (.tuple #[.slice none 0 0, .bool false])) w' := ⟨hb, .inl ⟨h, rfl⟩⟩
theorem qans_up {o o' : Option QL} {w w1 w2 : World} {e : Ending} (h : QAns o w1 e w2) (hb : Below w.heap.size w w1) (ho : o' = o) : QAns o' w e w2 := by
  subst ho
  obtain ⟨hb2, ⟨h1, h2⟩ | ⟨L, ad, c, h1, h2, h3⟩⟩ := h
  · exact ⟨hb.trans (hb2.mono hb.size), .inl ⟨h1, h2⟩⟩
  · exact ⟨hb.trans (hb2.mono hb.size), .inr ⟨L, ad, c, h1, h2, ownQ_lower h3 hb.size⟩⟩
theorem dc_facts {D : Dc} (hd : docokB D = true) (hz : dcTot D ≤ 1048576) : DcFacts D D.n := by
  obtain ⟨⟨g1, g2⟩, -, -⟩ := docok_facts hd
  refine ⟨rfl, g2, docok_dec hd, attrs_ok hd, fun j hj => ?_⟩
  have h := (dc_sz hz).2 j hj
  exact ⟨by have := h.1; omega, fun i hi => (h.2 i hi).1⟩
theorem sumN_acQ {D : Dc} (h : dcTot D ≤ 1048576) : sumN D.AC D.n ≤ 1048576 := by
  unfold dcTot at h
  have h1 : ∀ m, sumN D.AC m ≤ sumN (itSz D) m := by
    intro m
    induction m with
    | zero => exact Nat.le_refl _
    | succ m ih =>
      show sumN D.AC m + D.AC m ≤ sumN (itSz D) m + itSz D m
      have : D.AC m ≤ itSz D m := by unfold itSz atTot; omega
      omega
  have := h1 D.n
  omega
def anQ (D : Dc) (x : Int) : Option QL := if hasB' D x = true then qn D x (D.AN x.toNat) (D.AC x.toNat) else none
theorem anQ_no {D : Dc} {x : Int} (h : hasB' D x = false) : anQ D x = none := by unfold anQ; rw [h]; rfl
theorem anQ_yes {D : Dc} {x : Int} (h : hasB' D x = true) : anQ D x = qn D x (D.AN x.toNat) (D.AC x.toNat) := by unfold anQ; rw [h]; rfl
theorem anQ_len {D : Dc} {x : Int} (hz : dcTot D ≤ 1048576) : (lst (anQ D x)).length ≤ 1048576 := by
  unfold lst anQ
  cases h : hasB' D x
  · exact Nat.zero_le _
  · rw [if_pos rfl]
    obtain ⟨hd, h0, h1⟩ := has_facts h
    cases hq : qn D x (D.AN x.toNat) (D.AC x.toNat) with
    | none => exact Nat.zero_le _
    | some L =>
      have h1' := qn_len _ L hq
      have h2 := ((dc_facts hd hz).2.2.2.2 x.toNat (by omega)).1
      show L.length ≤ _
      omega
set_option maxRecDepth 100000 in
set_option maxHeartbeats 4000000 in
theorem s_attrnames (D : Dc) (n : Nat) (a : Option Addr) (cap : Nat) (x : Int) (w : World) (hD : D.n = n) (hz : dcTot D ≤ 1048576) (hr : DcAt w a D w.heap.size) :
    Calls Tryd.prog 29 #[.slice a n cap, .int .i64 x] w (QAns (anQ D x) w) := by
  have HD := hide hD
  have HR := hide hr
  have HZ := hide hz
  have CD := hide (s_docok D n a cap w hD hz hr)
  have hn : n ≤ 1048576 := by rw [← hD]; exact (dc_sz hz).1
  clear hr hD hz
  cases hd : docokB D
  · have HV := hide (anQ_no (show hasB' D x = false by unfold hasB'; rw [hd]; rfl))
    rw [hd] at CD
    go_enter Tryd.func29, Tryd.ntmps29
    go_wp2_with (first | (go_at_call 10; refine CD.out.mono ?_; rintro e w1 ⟨rfl, hb1⟩; have HB := hide hb1; clear hb1))
    go_ret2
    exact qans_no HV.out HB.out
  · have HF := hide (dc_facts hd HZ.out)
    obtain ⟨⟨g1, g2⟩, -, -⟩ := docok_facts hd
    rw [HD.out] at g1 g2 HF
    rw [hd] at CD
    have hlen : (1 : Int) ≤ (n : Int) := by omega
    by_cases hin : 0 ≤ x ∧ x ≤ (n : Int) - 1
    · have HIN := hide hin
      obtain ⟨h0, h1⟩ := hin
      have HV := hide (anQ_yes (show hasB' D x = true by unfold hasB'; rw [hd, HD.out, decide_eq_true HIN.out]; rfl))
      obtain ⟨b, off, rfl, hbs, hrow⟩ := HR.out (by rw [HD.out]; omega)
      have HRW := hide hrow
      clear hrow
      go_enter Tryd.func29, Tryd.ntmps29
      go_wp2_with fail
      refine CD.out.mono ?_
      rintro e w1 ⟨rfl, hb1⟩
      have hbw : b < w1.heap.size := Nat.lt_of_lt_of_le hbs hb1.size
      have hx' : x = (x.toNat : Int) := by omega
      have CT : Hid (Calls Tryd.prog 54 #[.slice (some ⟨b, off, none⟩) n cap, .int .i64 x] w1 (QAns (qn D x (D.AN x.toNat) (D.AC x.toNat)) w1)) := hide (by
        have h := s_qattrs D n b off cap w1 x.toNat HD.out g2 (by omega) hbw (dcRow_up (dcRow_go HRW.out hbs hb1) hb1.size) HF.out.2.2.1 HF.out.2.2.2.2 HF.out.2.2.2.1
        rw [← hx'] at h
        exact h)
      have HB := hide hb1
      clear hb1 hx'
      go_wp2_with (first | (go_at_call 32; refine (s_inT _ _ _ _ HIN.out).mono ?_; rintro e w9 ⟨rfl, h9⟩; rw [h9]; clear h9 w9))
      refine CT.out.mono ?_
      intro e w2 hq
      obtain ⟨hb2, ⟨h1, rfl⟩ | ⟨L, ad, c, h1, rfl, ho⟩⟩ := hq
      · have HQ : Hid (QAns (anQ D x) w (.returned (.tuple #[.slice none 0 0, .bool false])) w2) := hide (qans_up ⟨hb2, .inl ⟨h1, rfl⟩⟩ HB.out HV.out)
        clear hb2 h1
        go_wp2
        go_ret2
        exact HQ.out
      · have HQ : Hid (QAns (anQ D x) w (.returned (.tuple #[.slice ad L.length c, .bool true])) w2) := hide (qans_up ⟨hb2, .inr ⟨L, ad, c, h1, rfl, ho⟩⟩ HB.out HV.out)
        clear hb2 h1 ho
        go_wp2
        go_ret2
        exact HQ.out
    · have HV := hide (anQ_no (show hasB' D x = false by unfold hasB'; rw [HD.out, decide_eq_false hin]; simp))
      have HIN := hide hin
      clear hin
      go_enter Tryd.func29, Tryd.ntmps29
      go_wp2_with (first | (go_at_call 10; refine CD.out.mono ?_; rintro e w1 ⟨rfl, hb1⟩; have HB := hide hb1; clear hb1) | (go_at_call 32; refine (s_inF _ _ _ _ HIN.out).mono ?_; rintro e w9 ⟨rfl, rfl⟩))
      go_ret2
      exact qans_no HV.out HB.out
set_option maxRecDepth 100000 in
set_option maxHeartbeats 4000000 in
theorem i_attrnames (D : Dc) (n : Nat) (a : Option Addr) (cap : Nat) (x : Int) (w : World) (hD : D.n = n) (hz : dcTot D ≤ 1048576) (hr : DcAt w a D w.heap.size) (hT : Tabs w) :
    Calls Tryd.prog 30 #[.slice a n cap, .int .i64 x] w (QAns (anQ D x) w) := by
  have HD := hide hD
  have HR := hide hr
  have HZ := hide hz
  have CH := hide (i_hasItem D n a cap x w hD hz hr hT)
  clear hr hD hz hT
  cases hh : hasB' D x
  · have HV := hide (anQ_no hh)
    rw [hh] at CH
    go_enter Tryd.func30, Tryd.ntmps30
    go_wp2_with (first | (go_at_call 43; refine CH.out.mono ?_; rintro e w1 ⟨rfl, hb1⟩; have HB := hide hb1; clear hb1))
    go_ret2
    exact qans_no HV.out HB.out
  · have HV := hide (anQ_yes hh)
    obtain ⟨hd, h0, h1⟩ := has_facts hh
    have HF := hide (dc_facts hd HZ.out)
    obtain ⟨⟨g1, g2⟩, -, -⟩ := docok_facts hd
    rw [HD.out] at g1 g2 HF h1
    rw [hh] at CH
    obtain ⟨b, off, rfl, hbs, hrow⟩ := HR.out (by rw [HD.out]; omega)
    have HRW := hide hrow
    clear hrow
    go_enter Tryd.func30, Tryd.ntmps30
    go_wp2_with fail
    refine CH.out.mono ?_
    rintro e w1 ⟨rfl, hb1⟩
    have hbw : b < w1.heap.size := Nat.lt_of_lt_of_le hbs hb1.size
    have hrow1 := dcRow_up (dcRow_go HRW.out hbs hb1) hb1.size
    have CS := hide (i_scopes D n b off cap w1 HD.out g2 hbw hrow1 HF.out.2.2.2.2)
    have HRW1 := hide hrow1
    have HB := hide hb1
    clear hb1 hrow1
    go_wp2_with fail
    refine CS.out.mono ?_
    rintro e w2 ⟨sa, c, ms, rfl, hml, ho, hms, hb2⟩
    have hx' : x = (x.toNat : Int) := by omega
    have CL : Hid (Calls Tryd.prog 56 #[.agg #[.slice (some ⟨b, off, none⟩) n cap, .slice sa n c], .int .i64 x] w2 (QAns (qn D x (D.AN x.toNat) (D.AC x.toNat)) w2)) := hide (by
      have h := i_attrNames D n b off cap sa c ms w2 x.toNat HF.out (by omega) ⟨Nat.lt_of_lt_of_le hbw hb2.size, dcRow_up (dcRow_go HRW1.out hbw hb2) hb2.size, hml, ⟨_, ho⟩, hms⟩
      rw [← hx'] at h
      exact h)
    have HB2 := hide (HB.out.trans (hb2.mono HB.out.size))
    clear hx' ho hms hb2
    go_wp2_with fail
    refine CL.out.mono ?_
    intro e w3 hq
    obtain ⟨hb3, ⟨h1, rfl⟩ | ⟨L, ad, c3, h1, rfl, ho⟩⟩ := hq
    · have HQ : Hid (QAns (anQ D x) w (.returned (.tuple #[.slice none 0 0, .bool false])) w3) := hide (qans_up ⟨hb3, .inl ⟨h1, rfl⟩⟩ HB2.out HV.out)
      clear hb3 h1
      go_wp2
      go_ret2
      exact HQ.out
    · have HQ : Hid (QAns (anQ D x) w (.returned (.tuple #[.slice ad L.length c3, .bool true])) w3) := hide (qans_up ⟨hb3, .inr ⟨L, ad, c3, h1, rfl, ho⟩⟩ HB2.out HV.out)
      clear hb3 h1 ho
      go_wp2
      go_ret2
      exact HQ.out
set_option maxRecDepth 100000 in
set_option maxHeartbeats 8000000 in
theorem an_walk (D : Dc) (n : Nat) (a : Option Addr) (cap : Nat) (x : Int) (w : World) (hD : D.n = n) (hz : DcSz D) (hr : DcAt w a D w.heap.size) (hT : Tabs w) :
    Calls Tryd.prog 8 #[.slice a n cap, .int .i64 x] w fun e w' => e = .returned (.bool true) ∧ Below w.heap.size w w' := by
  have HX := hide hD
  have HR := hide hr
  have HT := hide hT
  have HS := hide (l_szIs D n a cap w hD hz hr)
  by_cases hbig : (dcTot D : Int) ≤ 1048576
  · have HL := hide (dn_yes hbig)
    have hb9 : dcTot D ≤ 1048576 := by omega
    have hl2 : n ≤ 1048576 := by rw [← hD]; exact (dc_sz hb9).1
    have HNR : Hid (∀ j, j < n → D.AC j ≤ 1048576) := hide (fun j hj => by have := ((dc_sz hb9).2 j (by omega)).1; omega)
    have HAC : Hid (sumN D.AC n ≤ 1048576) := hide (by rw [← hD]; exact sumN_acQ hb9)
    have hl9 : (0 : Int) ≤ 1048576 - (dcTot D : Int) := by omega
    have hkl : (lst (anQ D x)).length ≤ 1048576 := anQ_len hb9
    have CS := hide (fun (a' : Option Addr) (c' : Nat) (w' : World) (h : DcAt w' a' D w'.heap.size) => (s_attrnames D n a' c' x w' hD hb9 h).mono fun _ _ h => tell_of h)
    have CI := hide (fun (a' : Option Addr) (c' : Nat) (w' : World) (h : DcAt w' a' D w'.heap.size) (hT' : Tabs w') => (i_attrnames D n a' c' x w' hD hb9 h hT').mono fun _ _ h => tell_of h)
    unfold QTell at CS CI
    obtain ⟨N, hN⟩ : ∃ N, qA (lst (anQ D x)) = N := ⟨_, rfl⟩
    obtain ⟨V, hV⟩ : ∃ V, qB (lst (anQ D x)) = V := ⟨_, rfl⟩
    obtain ⟨m, hm⟩ : ∃ m, (lst (anQ D x)).length = m := ⟨_, rfl⟩
    obtain ⟨K, hK⟩ : ∃ K, (anQ D x).isSome = K := ⟨_, rfl⟩
    rw [hN, hV, hm, hK] at CS CI
    rw [hm] at hkl
    have hc1 : ¬ (1 + 2 * (m : Int)) < 0 := by omega
    clear hr hD hz hT hb9 hN hV hm hK
    go_enter Tryd.func8, Tryd.ntmps8
    go_wp2_with fail
    refine HS.out.mono ?_
    rintro e w1 ⟨rfl, hb1⟩
    rw [HL.out]
    have HA1 := hide (dcAt_up (dcAt_go HR.out hb1) hb1.size)
    have HB1 := hide hb1
    clear hb1
    go_wp2_with fail
    refine (l_toIs D n a cap _ HX.out hl2 HNR.out HA1.out).mono ?_
    rintro e w2 ⟨g2, rfl, hg2, hr2, hb2⟩
    have HB2 := hide (HB1.out.trans (hb2.mono HB1.out.size))
    have HR2 := hide hr2
    clear hr2 hb2
    go_wp2_with fail
    refine (CS.out _ _ _ HR2.out).mono ?_
    rintro e w3 ⟨adA, cA, rfl, hoA, hb3⟩
    have OA := hide hoA
    have HB3 := hide (HB2.out.trans (hb3.mono HB2.out.size))
    have HA3 := hide (dcAt_up (dcAt_go HR.out HB3.out) HB3.out.size)
    clear hoA hb3
    go_wp2_with fail
    refine (l_toIs2 D n a cap _ HX.out hl2 HNR.out HA3.out).mono ?_
    rintro e w4 ⟨g4, rfl, hg4, hr4, hsh4, hb4⟩
    have HB4 := hide (HB3.out.trans (hb4.mono HB3.out.size))
    have HB34 := hide hb4
    have HR4 := hide hr4
    have HSH4 := hide hsh4
    have OA4 := hide (ownQ_go OA.out hb4)
    clear hr4 hsh4 hb4
    go_wp2_with fail
    refine (CI.out _ _ _ HR4.out (tabs_below HT.out HB4.out)).mono ?_
    rintro e w5 ⟨adB, cB, rfl, hoB, hb5⟩
    have OB := hide hoB
    have HB45 := hide hb5
    have HB5 := hide (HB4.out.trans (hb5.mono HB4.out.size))
    have OA5 := hide (ownQ_go OA4.out hb5)
    clear hoB hb5
    go_wp2_with fail
    refine (l_eqQs adB adA m cB cA N V _ hkl (ownQ_at OB.out) (ownQ_at OA5.out)).mono ?_
    rintro e w6 ⟨rfl, hb6⟩
    have HB6 := hide (HB5.out.trans (hb6.mono HB5.out.size))
    have HB46 := hide (HB45.out.trans (hb6.mono HB45.out.size))
    have OA6 := hide (ownQ_go OA5.out hb6)
    have OB6 := hide (ownQ_go OB.out hb6)
    have HA6 := hide (dcAt_up (dcAt_go HR.out HB6.out) HB6.out.size)
    clear hb6
    go_wp2_with fail
    refine (l_toIs D n a cap _ HX.out hl2 HNR.out HA6.out).mono ?_
    rintro e w7 ⟨g7, rfl, hg7, hr7, hb7⟩
    have HB7 := hide (HB6.out.trans (hb7.mono HB6.out.size))
    have HB47 := hide (HB46.out.trans (hb7.mono HB46.out.size))
    have HR7 := hide hr7
    have HR47 := hide (dcAt_up (dcAt_go HR4.out HB47.out) HB47.out.size)
    have OA7 := hide (ownQ_go OA6.out hb7)
    have OB7 := hide (ownQ_go OB6.out hb7)
    clear hr7 hb7
    go_wp2_with fail
    refine (l_eqIs D n _ _ _ _ _ HX.out hl2 HNR.out HR47.out HR7.out).mono ?_
    rintro e w8 ⟨rfl, hb8⟩
    have HB8 := hide (HB7.out.trans (hb8.mono HB7.out.size))
    have HB48 := hide (HB47.out.trans (hb8.mono HB47.out.size))
    have OA8 := hide (ownQ_go OA7.out hb8)
    have OB8 := hide (ownQ_go OB7.out hb8)
    have HSH8 := hide (shI_go HSH4.out (chg_below (lo := 0) (hi := 0) HB48.out) (.inr (Nat.zero_le _)))
    clear hb8
    go_wp2_with fail
    refine (l_markIs g4 n n D.AC w3.heap.size w4.heap.size _ hl2 HAC.out HSH8.out).mono ?_
    rintro e w9 ⟨kk, rfl, hkk, hc9⟩
    have hkk2 : ¬ kk < 0 := by omega
    have HB9 := hide (below_chg HB8.out (Nat.le_refl _) HB3.out.size hc9)
    have OA9 := hide (ownQ_chg OA8.out hc9 (fun j hj => .inl (ownQ_lt OA.out j hj).2))
    have OB9 := hide (ownQ_chg OB8.out hc9 (fun j hj => .inr (ownQ_lt OB.out j hj).1))
    clear hc9
    go_wp2_with fail
    refine (l_eqQs adB adA m cB cA N V _ hkl (ownQ_at OB9.out) (ownQ_at OA9.out)).mono ?_
    rintro e w10 ⟨rfl, hb10⟩
    have HB10 := hide (HB9.out.trans (hb10.mono HB9.out.size))
    have OA10 := hide (ownQ_go OA9.out hb10)
    have OB10 := hide (ownQ_go OB9.out hb10)
    clear hb10
    go_wp2_with fail
    refine (l_markQs w4.heap.size adB m cB N V _ hkl OB10.out).mono ?_
    rintro e w11 ⟨rfl, ho11, hb11⟩
    have O11 := hide ho11
    have OA11 := hide (ownQ_stays OA10.out hb11 (fun j hj => Nat.lt_of_lt_of_le (ownQ_lt OA.out j hj).2 HB34.out.size))
    have HB11 := hide (HB10.out.trans (hb11.mono HB4.out.size))
    clear ho11 hb11
    go_wp2_with fail
    refine (l_heldQs adB m cB _ hkl (ownQ_at O11.out)).mono ?_
    rintro e w12 ⟨rfl, hb12⟩
    have HB12 := hide (HB11.out.trans (hb12.mono HB11.out.size))
    have HA12 := hide (dcAt_up (dcAt_go HR.out HB12.out) HB12.out.size)
    have O12 := hide (ownQ_go O11.out hb12)
    have OA12 := hide (ownQ_go OA11.out hb12)
    clear hb12
    go_wp2_with fail
    refine (l_toIs D n a cap _ HX.out hl2 HNR.out HA12.out).mono ?_
    rintro e w13 ⟨g13, rfl, hg13, hr13, hb13⟩
    have HB13 := hide (HB12.out.trans (hb13.mono HB12.out.size))
    have HR13 := hide hr13
    have OA13 := hide (ownQ_go OA12.out hb13)
    have O13 := hide (ownQ_go O12.out hb13)
    clear hr13 hb13
    go_wp2_with fail
    refine (CI.out _ _ _ HR13.out (tabs_below HT.out HB13.out)).mono ?_
    rintro e w14 ⟨adC, cC, rfl, hoC, hb14⟩
    have OC := hide hoC
    have HB14 := hide (HB13.out.trans (hb14.mono HB13.out.size))
    have OA14 := hide (ownQ_go OA13.out hb14)
    have O14 := hide (ownQ_go O13.out hb14)
    clear hoC hb14
    go_wp2_with fail
    refine (l_eqQs adC adA m cC cA N V _ hkl (ownQ_at OC.out) (ownQ_at OA14.out)).mono ?_
    rintro e w15 ⟨rfl, hb15⟩
    have HB15 := hide (HB14.out.trans (hb15.mono HB14.out.size))
    have O15 := hide (ownQ_go O14.out hb15)
    clear hb15
    go_wp2_with fail
    refine (l_heldQs adB m cB _ hkl (ownQ_at O15.out)).mono ?_
    rintro e w16 ⟨rfl, hb16⟩
    have HB16 := hide (HB15.out.trans (hb16.mono HB15.out.size))
    clear hb16
    go_wp2
    go_ret
    exact ⟨rfl, HB16.out⟩
  · have HL := hide (dn_no hbig)
    clear hr hD hz hT
    go_enter Tryd.func8, Tryd.ntmps8
    go_wp2_with fail
    refine HS.out.mono ?_
    rintro e w1 ⟨rfl, hb1⟩
    rw [HL.out]
    have HB1 := hide hb1
    clear hb1
    go_wp2
    go_ret
    exact ⟨rfl, HB1.out⟩
end Go.Proofs.YtdfcpgdfmhicoaaDoor
