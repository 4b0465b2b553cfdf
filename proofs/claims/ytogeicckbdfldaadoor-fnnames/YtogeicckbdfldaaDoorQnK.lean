/-
  Contracts: AttrNames, the program's and the specification's; the walk of FnExactAttrNames.
-/
import Derived.Test.YtogeicckbdfldaaDoorQnJ
import Derived.Test.YtogeicckbdfldaaDoorBnW
import Derived.Test.YtogeicckbdfldaaDoorKdLaw0
namespace Go.Proofs.YtogeicckbdfldaaDoor
open Go.RowKit Go.Joins Go.Maps
set_option linter.unusedVariables false
set_option linter.unusedSimpArgs false
def lst (o : Option QL) : QL := o.getD []
/-- An answer of names, told as a row and a flag. -/
def QTell (o : Option QL) (w : World) (e : Ending) (w' : World) : Prop := ∃ ad c, e = .returned (.tuple #[.slice ad (lst o).length c, .bool o.isSome]) ∧ OwnQ w.heap.size w' ad (lst o).length c (qA (lst o)) (qB (lst o)) ∧ Below w.heap.size w w'
theorem tell_of {o : Option QL} {w w' : World} {e : Ending} (h : QAns o w e w') : QTell o w e w' := by
  obtain ⟨hb, ⟨rfl, rfl⟩ | ⟨L, ad, c, rfl, rfl, ho⟩⟩ := h
  · exact ⟨none, 0, rfl, ownQ_none _ _ _ _, hb⟩
  · exact ⟨ad, c, rfl, ho, hb⟩
theorem qans_no {o : Option QL} {w w' : World} (h : o = none) (hb : Below w.heap.size w w') : QAns o w (.returned (.tuple #[.slice none 0 0, .bool false])) w' := ⟨hb, .inl ⟨h, rfl⟩⟩
theorem qans_up {o o' : Option QL} {w w1 w2 : World} {e : Ending} (h : QAns o w1 e w2) (hb : Below w.heap.size w w1) (ho : o' = o) : QAns o' w e w2 := by
  subst ho
  obtain ⟨hb2, ⟨h1, h2⟩ | ⟨L, ad, c, h1, h2, h3⟩⟩ := h
  · exact ⟨hb.trans (hb2.mono hb.size), .inl ⟨h1, h2⟩⟩
  · exact ⟨hb.trans (hb2.mono hb.size), .inr ⟨L, ad, c, h1, h2, ownQ_lower h3 hb.size⟩⟩
theorem dc_facts {D : Dc} (hd : docokB D = true) (hz : dcTot D ≤ 1048576) : DcFacts D D.n := by
  obtain ⟨⟨g1, g2⟩, -, -⟩ := docok_facts hd
  refine ⟨rfl, g2, docok_dec hd, attrs_ok hd, fun j hj => ?_⟩
  have h := (dc_sz hz).2 j hj
  exact ⟨by have := h.1; omega, fun i hi => (h.2 i hi).1⟩
theorem sumN_acQ {D : Dc} (h : dcTot D ≤ 1048576) : sumN D.AC D.n ≤ 1048576 := by
  unfold dcTot at h
  have h1 : ∀ m, sumN D.AC m ≤ sumN (itSz D) m := by
    intro m
    induction m with
    | zero => exact Nat.le_refl _
    | succ m ih =>
      show sumN D.AC m + D.AC m ≤ sumN (itSz D) m + itSz D m
      have : D.AC m ≤ itSz D m := by unfold itSz atTot; omega
      omega
  have := h1 D.n
  omega
def anQ (D : Dc) (x : Int) : Option QL := if hasB' D x = true then qn D x (D.AN x.toNat) (D.AC x.toNat) else none
theorem anQ_no {D : Dc} {x : Int} (h : hasB' D x = false) : anQ D x = none := by unfold anQ; rw [h]; rfl
theorem anQ_yes {D : Dc} {x : Int} (h : hasB' D x = true) : anQ D x = qn D x (D.AN x.toNat) (D.AC x.toNat) := by unfold anQ; rw [h]; rfl
theorem anQ_len {D : Dc} {x : Int} (hz : dcTot D ≤ 1048576) : (lst (anQ D x)).length ≤ 1048576 := by
  unfold lst anQ
  cases h : hasB' D x
  · exact Nat.zero_le _
  · rw [if_pos rfl]
    obtain ⟨hd, h0, h1⟩ := has_facts h
    cases hq : qn D x (D.AN x.toNat) (D.AC x.toNat) with
    | none => exact Nat.zero_le _
    | some L =>
      have h1' := qn_len _ L hq
      have h2 := ((dc_facts hd hz).2.2.2.2 x.toNat (by omega)).1
      show L.length ≤ _
      omega
set_option maxRecDepth 100000 in
set_option maxHeartbeats 4000000 in
theorem i_attrnames (D : Dc) (n : Nat) (a : Option Addr) (cap : Nat) (x : Int) (w : World) (hD : D.n = n) (hz : dcTot D ≤ 1048576) (hr : DcAt w a D w.heap.size) (hT : Tabs w) :
    Calls Tryd.prog 19 #[.slice a n cap, .int .i64 x] w (QAns (anQ D x) w) := by
  have HD := hide hD
  have HR := hide hr
  have HZ := hide hz
  have CH := hide (i_hasItem D n a cap x w hD hz hr hT)
  clear hr hD hz hT
  cases hh : hasB' D x
  · have HV := hide (anQ_no hh)
    rw [hh] at CH
    go_enter Tryd.func19, Tryd.ntmps19
    go_wp2_with (first | (go_at_call 26; refine CH.out.mono ?_; rintro e w1 ⟨rfl, hb1⟩; have HB := hide hb1; clear hb1))
    go_ret2
    exact qans_no HV.out HB.out
  · have HV := hide (anQ_yes hh)
    obtain ⟨hd, h0, h1⟩ := has_facts hh
    have HF := hide (dc_facts hd HZ.out)
    obtain ⟨⟨g1, g2⟩, -, -⟩ := docok_facts hd
    rw [HD.out] at g1 g2 HF h1
    rw [hh] at CH
    obtain ⟨b, off, rfl, hbs, hrow⟩ := HR.out (by rw [HD.out]; omega)
    have HRW := hide hrow
    clear hrow
    go_enter Tryd.func19, Tryd.ntmps19
    go_wp2_with fail
    refine CH.out.mono ?_
    rintro e w1 ⟨rfl, hb1⟩
    have hbw : b < w1.heap.size := Nat.lt_of_lt_of_le hbs hb1.size
    have hrow1 := dcRow_up (dcRow_go HRW.out hbs hb1) hb1.size
    have CS := hide (i_scopes D n b off cap w1 HD.out g2 hbw hrow1 HF.out.2.2.2.2)
    have HRW1 := hide hrow1
    have HB := hide hb1
    clear hb1 hrow1
    go_wp2_with fail
    refine CS.out.mono ?_
    rintro e w2 ⟨sa, c, ms, rfl, hml, ho, hms, hb2⟩
    have hx' : x = (x.toNat : Int) := by omega
    have CL : Hid (Calls Tryd.prog 39 #[.agg #[.slice (some ⟨b, off, none⟩) n cap, .slice sa n c], .int .i64 x] w2 (QAns (qn D x (D.AN x.toNat) (D.AC x.toNat)) w2)) := hide (by
      have h := i_attrNames D n b off cap sa c ms w2 x.toNat HF.out (by omega) ⟨Nat.lt_of_lt_of_le hbw hb2.size, dcRow_up (dcRow_go HRW1.out hbw hb2) hb2.size, hml, ⟨_, ho⟩, hms⟩
      rw [← hx'] at h
      exact h)
    have HB2 := hide (HB.out.trans (hb2.mono HB.out.size))
    clear hx' ho hms hb2
    go_wp2_with fail
    refine CL.out.mono ?_
    intro e w3 hq
    obtain ⟨hb3, ⟨h1, rfl⟩ | ⟨L, ad, c3, h1, rfl, ho⟩⟩ := hq
    · have HQ : Hid (QAns (anQ D x) w (.returned (.tuple #[.slice none 0 0, .bool false])) w3) := hide (qans_up ⟨hb3, .inl ⟨h1, rfl⟩⟩ HB2.out HV.out)
      clear hb3 h1
      go_wp2
      go_ret2
      exact HQ.out
    · have HQ : Hid (QAns (anQ D x) w (.returned (.tuple #[.slice ad L.length c3, .bool true])) w3) := hide (qans_up ⟨hb3, .inr ⟨L, ad, c3, h1, rfl, ho⟩⟩ HB2.out HV.out)
      clear hb3 h1 ho
      go_wp2
      go_ret2
      exact HQ.out
end Go.Proofs.YtogeicckbdfldaaDoor
