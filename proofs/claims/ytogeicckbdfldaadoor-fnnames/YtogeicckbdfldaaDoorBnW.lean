/-
  Contracts: BoundAt, the program's and the specification's; the walk of FnExactBoundAt.
-/
import Derived.Test.YtogeicckbdfldaaDoorBnS
import Derived.Test.YtogeicckbdfldaaDoorBnSd
import Derived.Test.YtogeicckbdfldaaDoorBnL
import Derived.Test.YtogeicckbdfldaaDoorDocS
import Derived.Test.YtogeicckbdfldaaDoorTxI
import Derived.Test.YtogeicckbdfldaaDoorItEq
namespace Go.Proofs.YtogeicckbdfldaaDoor
open Go.RowKit Go.Joins Go.Maps
set_option linter.unusedVariables false
set_option linter.unusedSimpArgs false
def baV (D : Dc) (x : Int) (p : ByteArray) : ByteArray := if hasB' D x = true then bnV D x p else ⟨#[]⟩
def baK (D : Dc) (x : Int) (p : ByteArray) : Bool := if hasB' D x = true then bnK D x p else false
theorem ba_no {D : Dc} {x : Int} {p : ByteArray} (h : hasB' D x = false) : baV D x p = ⟨#[]⟩ ∧ baK D x p = false := by unfold baV baK; rw [h]; exact ⟨rfl, rfl⟩
theorem ba_yes {D : Dc} {x : Int} {p : ByteArray} (h : hasB' D x = true) : baV D x p = bnV D x p ∧ baK D x p = bnK D x p := by unfold baV baK; rw [h]; exact ⟨rfl, rfl⟩
theorem has_facts {D : Dc} {x : Int} (h : hasB' D x = true) : docokB D = true ∧ 0 ≤ x ∧ x ≤ (D.n : Int) - 1 := by
  unfold hasB' at h
  simp only [Bool.and_eq_true, decide_eq_true_eq] at h
  exact h
theorem attrs_ok {D : Dc} (h : docokB D = true) : AttrsOk D D.n := by
  intro j hj
  have h1 := (docok_facts h).2.1 j hj
  unfold itB at h1
  rw [Bool.and_eq_true] at h1
  have h2 := h1.2
  unfold pB partB at h2
  split at h2
  · simp only [Bool.and_eq_true, beq_iff_eq] at h2
    have h3 : D.AC j = 0 := by have := h2.2.1; omega
    rw [h3]
    exact ⟨fun k hk => absurd hk (Nat.not_lt_zero _), fun k i hk => absurd hk (Nat.not_lt_zero _)⟩
  · rw [Bool.and_eq_true, Bool.and_eq_true] at h2
    have h3 := h2.2.2
    unfold attrsB at h3
    rw [Bool.and_eq_true] at h3
    have h4 : ∀ k, k < D.AC j → atB (D.AN j) (D.AV j) k = true := fun k hk => List.all_eq_true.1 h3.2 k (by simpa using hk)
    have h5 : ∀ k, k < D.AC j → (spl (D.AN j k)).2.2 = true := fun k hk => by
      have := h4 k hk
      unfold atB at this
      rw [Bool.and_eq_true] at this
      exact this.1
    have h6 : ∀ k i, k < i → i < D.AC j → D.AN j k ≠ D.AN j i := fun k i hk hi e => by
      have := h4 i hi
      unfold atB at this
      simp only [Bool.and_eq_true, Bool.not_eq_true'] at this
      have h7 := this.2.2
      rw [anyS_hit (k := k) hk (by rw [e]; simp)] at h7
      cases h7
    refine ⟨h5, fun k i hk hi e => ?_⟩
    rcases Nat.lt_trichotomy k i with h | h | h
    · exact absurd e (h6 k i h hi)
    · exact h
    · exact absurd e.symm (h6 i k h hk)
set_option maxRecDepth 100000 in
set_option maxHeartbeats 4000000 in
theorem s_boundat (D : Dc) (n : Nat) (a : Option Addr) (cap : Nat) (x : Int) (p : ByteArray) (w : World) (hp : p.size ≤ 1048576) (hD : D.n = n) (hz : dcTot D ≤ 1048576) (hr : DcAt w a D w.heap.size) :
    Calls Tryd.prog 21 #[.slice a n cap, .int .i64 x, .string p] w fun e w' => e = .returned (.tuple #[.string (baV D x p), .bool (baK D x p)]) ∧ Below w.heap.size w w' := by
  have HD := hide hD
  have HR := hide hr
  have HSZ := hide (dc_sz hz)
  have hn : n ≤ 1048576 := by rw [← hD]; exact (dc_sz hz).1
  have CD := hide (s_docok D n a cap w hD hz hr)
  clear hr hD hz
  cases hd : docokB D
  · have HV := hide (ba_no (p := p) (show hasB' D x = false by unfold hasB'; rw [hd]; rfl))
    rw [hd] at CD
    go_enter Tryd.func21, Tryd.ntmps21
    go_wp2_with (first | (go_at_call 22; refine CD.out.mono ?_; rintro e w1 ⟨rfl, hb1⟩; have HB := hide hb1; clear hb1))
    go_ret2
    exact ⟨bn_ret HV.out.1 HV.out.2, HB.out⟩
  · obtain ⟨⟨g1, g2⟩, -, -⟩ := docok_facts hd
    have HDEC := hide (docok_dec hd)
    rw [HD.out] at g1 g2 HDEC
    rw [hd] at CD
    have hlen : (1 : Int) ≤ (n : Int) := by omega
    by_cases hin : 0 ≤ x ∧ x ≤ (n : Int) - 1
    · have HIN := hide hin
      obtain ⟨h0, h1⟩ := hin
      have HV := hide (ba_yes (p := p) (show hasB' D x = true by unfold hasB'; rw [hd, HD.out, decide_eq_true HIN.out]; rfl))
      obtain ⟨b, off, rfl, hbs, hrow⟩ := HR.out (by rw [HD.out]; omega)
      have HRW := hide hrow
      clear hrow
      go_enter Tryd.func21, Tryd.ntmps21
      go_wp2_with fail
      refine CD.out.mono ?_
      rintro e w1 ⟨rfl, hb1⟩
      have hbw : b < w1.heap.size := Nat.lt_of_lt_of_le hbs hb1.size
      have hx' : x = (x.toNat : Int) := by omega
      have CT : Hid (Calls Tryd.prog 41 #[.slice (some ⟨b, off, none⟩) n cap, .int .i64 x, .string p] w1 fun e w' => e = .returned (.tuple #[.string (bnV D x p), .bool (bnK D x p)]) ∧ w' = w1) := hide (by
        rw [hx']
        exact s_bound D n b off cap w1 x.toNat p HD.out g2 (by omega) hbw (dcRow_up (dcRow_go HRW.out hbs hb1) hb1.size) (fun j hj => (HDEC.out j hj).2) (fun j hj => (HDEC.out j hj).1) (fun j hj => by have := (HSZ.out.2 j (by rw [HD.out]; exact hj)).1; omega) hp)
      have HB := hide hb1
      clear hb1 hx'
      go_wp2_with (first | (go_at_call 30; refine (s_inT _ _ _ _ HIN.out).mono ?_; rintro e w9 ⟨rfl, rfl⟩) | (go_at_call 41; refine CT.out.mono ?_; rintro e w2 ⟨rfl, rfl⟩))
      go_ret2
      exact ⟨bn_ret HV.out.1 HV.out.2, HB.out⟩
    · have HV := hide (ba_no (p := p) (show hasB' D x = false by unfold hasB'; rw [HD.out, decide_eq_false hin]; simp))
      have HIN := hide hin
      clear hin
      go_enter Tryd.func21, Tryd.ntmps21
      go_wp2_with (first | (go_at_call 22; refine CD.out.mono ?_; rintro e w1 ⟨rfl, hb1⟩; have HB := hide hb1; clear hb1) | (go_at_call 30; refine (s_inF _ _ _ _ HIN.out).mono ?_; rintro e w9 ⟨rfl, rfl⟩))
      go_ret2
      exact ⟨bn_ret HV.out.1 HV.out.2, HB.out⟩
set_option maxRecDepth 100000 in
set_option maxHeartbeats 4000000 in
theorem i_boundat (D : Dc) (n : Nat) (a : Option Addr) (cap : Nat) (x : Int) (p : ByteArray) (w : World) (hp : p.size ≤ 1048576) (hD : D.n = n) (hz : dcTot D ≤ 1048576) (hr : DcAt w a D w.heap.size) (hT : Tabs w) :
    Calls Tryd.prog 18 #[.slice a n cap, .int .i64 x, .string p] w fun e w' => e = .returned (.tuple #[.string (baV D x p), .bool (baK D x p)]) ∧ Below w.heap.size w w' := by
  have HD := hide hD
  have HR := hide hr
  have HSZ := hide (dc_sz hz)
  have CH := hide (i_hasItem D n a cap x w hD hz hr hT)
  clear hr hD hz hT
  cases hh : hasB' D x
  · have HV := hide (ba_no (p := p) hh)
    rw [hh] at CH
    go_enter Tryd.func18, Tryd.ntmps18
    go_wp2_with (first | (go_at_call 26; refine CH.out.mono ?_; rintro e w1 ⟨rfl, hb1⟩; have HB := hide hb1; clear hb1))
    go_ret2
    exact ⟨bn_ret HV.out.1 HV.out.2, HB.out⟩
  · have HV := hide (ba_yes (p := p) hh)
    obtain ⟨hd, h0, h1⟩ := has_facts hh
    obtain ⟨⟨g1, g2⟩, -, -⟩ := docok_facts hd
    have HDEC := hide (docok_dec hd)
    have HOK := hide (attrs_ok hd)
    rw [HD.out] at g1 g2 HDEC HOK h1
    rw [hh] at CH
    obtain ⟨b, off, rfl, hbs, hrow⟩ := HR.out (by rw [HD.out]; omega)
    have HRW := hide hrow
    clear hrow
    go_enter Tryd.func18, Tryd.ntmps18
    go_wp2_with fail
    refine CH.out.mono ?_
    rintro e w1 ⟨rfl, hb1⟩
    have hbw : b < w1.heap.size := Nat.lt_of_lt_of_le hbs hb1.size
    have hrow1 := dcRow_up (dcRow_go HRW.out hbs hb1) hb1.size
    have CS := hide (i_scopes D n b off cap w1 HD.out g2 hbw hrow1 (fun j hj => by have h := HSZ.out.2 j (by rw [HD.out]; exact hj); exact ⟨by have := h.1; omega, fun i hi => (h.2 i hi).1⟩))
    have HRW1 := hide hrow1
    have HB := hide hb1
    clear hb1 hrow1
    go_wp2_with fail
    refine CS.out.mono ?_
    rintro e w2 ⟨sa, c, ms, rfl, hml, ho, hms, hb2⟩
    have hx' : x = (x.toNat : Int) := by omega
    have CL : Hid (Calls Tryd.prog 45 #[.agg #[.slice (some ⟨b, off, none⟩) n cap, .slice sa n c], .int .i64 x, .string p] w2 fun e w' => e = .returned (.tuple #[.string (bnV D x p), .bool (bnK D x p)]) ∧ Below w2.heap.size w2 w') := hide (by
      rw [hx']
      exact i_look D n b off cap sa c ms w2 x.toNat p HD.out g2 (by omega) (Nat.lt_of_lt_of_le hbw hb2.size) (dcRow_up (dcRow_go HRW1.out hbw hb2) hb2.size) HDEC.out HOK.out hp hml ⟨_, ho⟩ hms)
    have HB2 := hide (HB.out.trans (hb2.mono HB.out.size))
    clear hx' ho hms hb2
    go_wp2_with fail
    refine CL.out.mono ?_
    rintro e w3 ⟨rfl, hb3⟩
    have HB3 := hide (HB2.out.trans (hb3.mono HB2.out.size))
    clear hb3
    go_wp2
    go_ret2
    exact ⟨bn_ret HV.out.1 HV.out.2, HB3.out⟩
end Go.Proofs.YtogeicckbdfldaaDoor
