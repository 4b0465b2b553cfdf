/-
  Contracts: BoundAt, the program's and the specification's; the walk of FnExactBoundAt.
-/
import Derived.Test.YtdfcpgdfmhicoaaDoorBnS
import Derived.Test.YtdfcpgdfmhicoaaDoorBnSd
import Derived.Test.YtdfcpgdfmhicoaaDoorBnL
import Derived.Test.YtdfcpgdfmhicoaaDoorDocS
import Derived.Test.YtdfcpgdfmhicoaaDoorTxI
import Derived.Test.YtdfcpgdfmhicoaaDoorItEq
namespace Go.Proofs.YtdfcpgdfmhicoaaDoor
open Go.RowKit Go.Joins Go.Maps
set_option linter.unusedVariables false
set_option linter.unusedSimpArgs false
def baV (D : Dc) (x : Int) (p : ByteArray) : ByteArray := if hasB' D x = true then bnV D x p else ⟨#[]⟩
def baK (D : Dc) (x : Int) (p : ByteArray) : Bool := if hasB' D x = true then bnK D x p else false
theorem ba_no {D : Dc} {x : Int} {p : ByteArray} (h : hasB' D x = false) : baV D x p = ⟨#[]⟩ ∧ baK D x p = false := by unfold baV baK; rw [h]; exact ⟨rfl, rfl⟩
theorem ba_yes {D : Dc} {x : Int} {p : ByteArray} (h : hasB' D x = true) : baV D x p = bnV D x p ∧ baK D x p = bnK D x p := by unfold baV baK; rw [h]; exact ⟨rfl, rfl⟩
theorem has_facts {D : Dc} {x : Int} (h : hasB' D x = true) : docokB D = true ∧ 0 ≤ x ∧ x ≤ (D.n : Int) - 1 := by
  unfold hasB' at h
  simp only [Bool.and_eq_true, decide_eq_true_eq] at h
  exact h
theorem attrs_ok {D : Dc} (h : docokB D = true) : AttrsOk D D.n := by
  intro j hj
  have h1 := (docok_facts h).2.1 j hj
  unfold itB at h1
  rw [Bool.and_eq_true] at h1
  have h2 := h1.2
  unfold pB partB at h2
  split at h2
  · simp only [Bool.and_eq_true, beq_iff_eq] at h2
    have h3 : D.AC j = 0 := by have := h2.2.1; omega
    rw [h3]
    exact ⟨fun k hk => absurd hk (Nat.not_lt_zero _), fun k i hk => absurd hk (Nat.not_lt_zero _)⟩
  · rw [Bool.and_eq_true, Bool.and_eq_true] at h2
    have h3 := h2.2.2
    unfold attrsB at h3
    rw [Bool.and_eq_true] at h3
    have h4 : ∀ k, k < D.AC j → atB (D.AN j) (D.AV j) k = true := fun k hk => List.all_eq_true.1 h3.2 k (by simpa using hk)
    have h5 : ∀ k, k < D.AC j → (spl (D.AN j k)).2.2 = true := fun k hk => by
      have := h4 k hk
      unfold atB at this
      rw [Bool.and_eq_true] at this
      exact this.1
    have h6 : ∀ k i, k < i → i < D.AC j → D.AN j k ≠ D.AN j i := fun k i hk hi e => by
      have := h4 i hi
      unfold atB at this
      simp only [Bool.and_eq_true, Bool.not_eq_true'] at this
      have h7 := this.2.2
      rw [anyS_hit (k := k) hk (by rw [e]; simp)] at h7
      cases h7
    refine ⟨h5, fun k i hk hi e => ?_⟩
    rcases Nat.lt_trichotomy k i with h | h | h
    · exact absurd e (h6 k i h hi)
    · exact h
    · exact absurd e.symm (h6 i k h hk)
set_option maxRecDepth 100000 in
set_option maxHeartbeats 4000000 in
theorem s_boundat (D : Dc) (n : Nat) (a : Option Addr) (cap : Nat) (x : Int) (p : ByteArray) (w : World) (hp : p.size ≤ 1048576) (hD : D.n = n) (hz : dcTot D ≤ 1048576) (hr : DcAt w a D w.heap.size) :
    Calls Tryd.prog 22 #[.slice a n cap, .int .i64 x, .string p] w fun e w' => e = .returned (.tuple #[.string (baV D x p), .bool (baK D x p)]) ∧ Below w.heap.size w w' := by
  have HD := hide hD
  have HR := hide hr
  have HSZ := hide (dc_sz hz)
  have hn : n ≤ 1048576 := by rw [← hD]; exact (dc_sz hz).1
  have CD := hide (s_docok D n a cap w hD hz hr)
  clear hr hD hz
  cases hd : docokB D
  · have HV := hide (ba_no (p := p) (show hasB' D x = false by unfold hasB'; rw [hd]; rfl))
    rw [hd] at CD
    go_enter Tryd.func22, Tryd.ntmps22
    go_wp2_with (first | (go_at_call 10; refine CD.out.mono ?_; rintro e w1 ⟨rfl, hb1⟩; have HB := hide hb1; clear hb1))
    go_ret2
    exact ⟨bn_ret HV.out.1 HV.out.2, HB.out⟩
  · obtain ⟨⟨g1, g2⟩, -, -⟩ := docok_facts hd
    have HDEC := hide (docok_dec hd)
    rw [HD.out] at g1 g2 HDEC
    rw [hd] at CD
    have hlen : (1 : Int) ≤ (n : Int) := by omega
    by_cases hin : 0 ≤ x ∧ x ≤ (n : Int) - 1
    · have HIN := hide hin
      obtain ⟨h0, h1⟩ := hin
      have HV := hide (ba_yes (p := p) (show hasB' D x = true by unfold hasB'; rw [hd, HD.out, decide_eq_true HIN.out]; rfl))
      obtain ⟨b, off, rfl, hbs, hrow⟩ := HR.out (by rw [HD.out]; omega)
      have HRW := hide hrow
      clear hrow
      go_enter Tryd.func22, Tryd.ntmps22
      go_wp2_with fail
      refine CD.out.mono ?_
      rintro e w1 ⟨rfl, hb1⟩
      have hbw : b < w1.heap.size := Nat.lt_of_lt_of_le hbs hb1.size
      have hx' : x = (x.toNat : Int) := by omega
      have CT : Hid (Calls Tryd.prog 50 #[.slice (some ⟨b, off, none⟩) n cap, .int .i64 x, .string p] w1 fun e w' => e = .returned (.tuple #[.string (bnV D x p), .bool (bnK D x p)]) ∧ w' = w1) := hide (by
        rw [hx']
        exact s_bound D n b off cap w1 x.toNat p HD.out g2 (by omega) hbw (dcRow_up (dcRow_go HRW.out hbs hb1) hb1.size) (fun j hj => (HDEC.out j hj).2) (fun j hj => (HDEC.out j hj).1) (fun j hj => by have := (HSZ.out.2 j (by rw [HD.out]; exact hj)).1; omega) hp)
      have HB := hide hb1
      clear hb1 hx'
      go_wp2_with (first | (go_at_call 32; refine (s_inT _ _ _ _ HIN.out).mono ?_; rintro e w9 ⟨rfl, rfl⟩) | (go_at_call 50; refine CT.out.mono ?_; rintro e w2 ⟨rfl, rfl⟩))
      go_ret2
      exact ⟨bn_ret HV.out.1 HV.out.2, HB.out⟩
    · have HV := hide (ba_no (p := p) (show hasB' D x = false by unfold hasB'; rw [HD.out, decide_eq_false hin]; simp))
      have HIN := hide hin
      clear hin
      go_enter Tryd.func22, Tryd.ntmps22
      go_wp2_with (first | (go_at_call 10; refine CD.out.mono ?_; rintro e w1 ⟨rfl, hb1⟩; have HB := hide hb1; clear hb1) | (go_at_call 32; refine (s_inF _ _ _ _ HIN.out).mono ?_; rintro e w9 ⟨rfl, rfl⟩))
      go_ret2
      exact ⟨bn_ret HV.out.1 HV.out.2, HB.out⟩
set_option maxRecDepth 100000 in
set_option maxHeartbeats 4000000 in
theorem i_boundat (D : Dc) (n : Nat) (a : Option Addr) (cap : Nat) (x : Int) (p : ByteArray) (w : World) (hp : p.size ≤ 1048576) (hD : D.n = n) (hz : dcTot D ≤ 1048576) (hr : DcAt w a D w.heap.size) (hT : Tabs w) :
    Calls Tryd.prog 23 #[.slice a n cap, .int .i64 x, .string p] w fun e w' => e = .returned (.tuple #[.string (baV D x p), .bool (baK D x p)]) ∧ Below w.heap.size w w' := by
  have HD := hide hD
  have HR := hide hr
  have HSZ := hide (dc_sz hz)
  have CH := hide (i_hasItem D n a cap x w hD hz hr hT)
  clear hr hD hz hT
  cases hh : hasB' D x
  · have HV := hide (ba_no (p := p) hh)
    rw [hh] at CH
    go_enter Tryd.func23, Tryd.ntmps23
    go_wp2_with (first | (go_at_call 43; refine CH.out.mono ?_; rintro e w1 ⟨rfl, hb1⟩; have HB := hide hb1; clear hb1))
    go_ret2
    exact ⟨bn_ret HV.out.1 HV.out.2, HB.out⟩
  · have HV := hide (ba_yes (p := p) hh)
    obtain ⟨hd, h0, h1⟩ := has_facts hh
    obtain ⟨⟨g1, g2⟩, -, -⟩ := docok_facts hd
    have HDEC := hide (docok_dec hd)
    have HOK := hide (attrs_ok hd)
    rw [HD.out] at g1 g2 HDEC HOK h1
    rw [hh] at CH
    obtain ⟨b, off, rfl, hbs, hrow⟩ := HR.out (by rw [HD.out]; omega)
    have HRW := hide hrow
    clear hrow
    go_enter Tryd.func23, Tryd.ntmps23
    go_wp2_with fail
    refine CH.out.mono ?_
    rintro e w1 ⟨rfl, hb1⟩
    have hbw : b < w1.heap.size := Nat.lt_of_lt_of_le hbs hb1.size
    have hrow1 := dcRow_up (dcRow_go HRW.out hbs hb1) hb1.size
    have CS := hide (i_scopes D n b off cap w1 HD.out g2 hbw hrow1 (fun j hj => by have h := HSZ.out.2 j (by rw [HD.out]; exact hj); exact ⟨by have := h.1; omega, fun i hi => (h.2 i hi).1⟩))
    have HRW1 := hide hrow1
    have HB := hide hb1
    clear hb1 hrow1
    go_wp2_with fail
    refine CS.out.mono ?_
    rintro e w2 ⟨sa, c, ms, rfl, hml, ho, hms, hb2⟩
    have hx' : x = (x.toNat : Int) := by omega
    have CL : Hid (Calls Tryd.prog 52 #[.agg #[.slice (some ⟨b, off, none⟩) n cap, .slice sa n c], .int .i64 x, .string p] w2 fun e w' => e = .returned (.tuple #[.string (bnV D x p), .bool (bnK D x p)]) ∧ Below w2.heap.size w2 w') := hide (by
      rw [hx']
      exact i_look D n b off cap sa c ms w2 x.toNat p HD.out g2 (by omega) (Nat.lt_of_lt_of_le hbw hb2.size) (dcRow_up (dcRow_go HRW1.out hbw hb2) hb2.size) HDEC.out HOK.out hp hml ⟨_, ho⟩ hms)
    have HB2 := hide (HB.out.trans (hb2.mono HB.out.size))
    clear hx' ho hms hb2
    go_wp2_with fail
    refine CL.out.mono ?_
    rintro e w3 ⟨rfl, hb3⟩
    have HB3 := hide (HB2.out.trans (hb3.mono HB2.out.size))
    clear hb3
    go_wp2
    go_ret2
    exact ⟨bn_ret HV.out.1 HV.out.2, HB3.out⟩
set_option maxRecDepth 100000 in
set_option maxHeartbeats 4000000 in
theorem bn_walk (D : Dc) (n : Nat) (a : Option Addr) (cap : Nat) (x : Int) (p : ByteArray) (w : World) (hps : p.size ≤ maxLen) (hD : D.n = n) (hz : DcSz D) (hr : DcAt w a D w.heap.size) (hT : Tabs w) :
    Calls Tryd.prog 6 #[.slice a n cap, .int .i64 x, .string p] w fun e w' => e = .returned (.bool true) ∧ Below w.heap.size w w' := by
  unfold maxLen at hps
  by_cases hpb : p.size ≤ 1048576
  · have hp1 := hpb
    have hpi : (p.size : Int) ≤ 1048576 := by omega
    clear hpb hps
    have HX := hide hD
    have HR := hide hr
    have HT := hide hT
    have HS := hide (l_szIs D n a cap w hD hz hr)
    by_cases hbig : (dcTot D : Int) ≤ 1048576
    · have HL := hide (dn_yes hbig)
      have hb9 : dcTot D ≤ 1048576 := by omega
      have HZ := hide hb9
      have hl2 : n ≤ 1048576 := by rw [← hD]; exact (dc_sz hb9).1
      have HNR : Hid (∀ j, j < n → D.AC j ≤ 1048576) := hide (fun j hj => by have := ((dc_sz hb9).2 j (by omega)).1; omega)
      have hl9 : (0 : Int) ≤ 1048576 - (dcTot D : Int) := by omega
      clear hr hD hz hT hb9
      go_enter Tryd.func6, Tryd.ntmps6
      go_wp2_with fail
      refine HS.out.mono ?_
      rintro e w1 ⟨rfl, hb1⟩
      rw [HL.out]
      have HA1 := hide (dcAt_up (dcAt_go HR.out hb1) hb1.size)
      have HB1 := hide hb1
      clear hb1
      go_wp2_with fail
      refine (l_toIs D n a cap _ HX.out hl2 HNR.out HA1.out).mono ?_
      rintro e w2 ⟨g2, rfl, hg2, hr2, hb2⟩
      have HB2 := hide (HB1.out.trans (hb2.mono HB1.out.size))
      have HR2 := hide hr2
      clear hr2 hb2
      go_wp2_with fail
      refine (s_boundat D n _ _ x p _ hp1 HX.out HZ.out HR2.out).mono ?_
      rintro e w3 ⟨rfl, hb3⟩
      have HB3 := hide (HB2.out.trans (hb3.mono HB2.out.size))
      have HA3 := hide (dcAt_up (dcAt_go HR.out HB3.out) HB3.out.size)
      clear hb3
      obtain ⟨V, hV⟩ : ∃ V, baV D x p = V := ⟨_, rfl⟩
      obtain ⟨B, hB⟩ : ∃ B, baK D x p = B := ⟨_, rfl⟩
      rw [hV, hB]
      have HV := hide hV
      have HBB := hide hB
      clear hV hB
      go_wp2_with fail
      refine (l_toIs D n a cap _ HX.out hl2 HNR.out HA3.out).mono ?_
      rintro e w4 ⟨g4, rfl, hg4, hr4, hb4⟩
      have HB4 := hide (HB3.out.trans (hb4.mono HB3.out.size))
      have HR4 := hide hr4
      clear hr4 hb4
      go_wp2_with fail
      refine (i_boundat D n _ _ x p _ hp1 HX.out HZ.out HR4.out (tabs_below HT.out HB4.out)).mono ?_
      rintro e w5 ⟨rfl, hb5⟩
      rw [HV.out, HBB.out]
      have HB5 := hide (HB4.out.trans (hb5.mono HB4.out.size))
      have HR5 := hide (dcAt_up (dcAt_go HR4.out hb5) hb5.size)
      have HA5 := hide (dcAt_up (dcAt_go HR.out HB5.out) HB5.out.size)
      clear hb5
      go_wp2_with fail
      refine (l_toIs D n a cap _ HX.out hl2 HNR.out HA5.out).mono ?_
      rintro e w6 ⟨g6, rfl, hg6, hr6, hb6⟩
      have HB6 := hide (HB5.out.trans (hb6.mono HB5.out.size))
      have HR6 := hide hr6
      have HR56 := hide (dcAt_up (dcAt_go HR5.out hb6) hb6.size)
      clear hr6 hb6
      go_wp2_with fail
      refine (l_eqIs D n _ _ _ _ _ HX.out hl2 HNR.out HR56.out HR6.out).mono ?_
      rintro e w7 ⟨rfl, hb7⟩
      have HB7 := hide (HB6.out.trans (hb7.mono HB6.out.size))
      clear hb7
      go_wp2
      go_ret
      exact ⟨rfl, HB7.out⟩
    · have HL := hide (dn_no hbig)
      clear hr hD hz hT
      go_enter Tryd.func6, Tryd.ntmps6
      go_wp2_with fail
      refine HS.out.mono ?_
      rintro e w1 ⟨rfl, hb1⟩
      rw [HL.out]
      have HB1 := hide hb1
      clear hb1
      go_wp2
      go_ret
      exact ⟨rfl, HB1.out⟩
  · have hpi : (1048576 : Int) < (p.size : Int) := by omega
    clear hr hD hz hT
    go_enter Tryd.func6, Tryd.ntmps6
    go_wp2
    go_ret
    exact ⟨rfl, Below.refl _ _⟩
end Go.Proofs.YtdfcpgdfmhicoaaDoor
