/-
  Contract of the specification: what FieldOf answers.
-/
import Derived.Test.YtfbahffljhnjbaaGreatDoorX47
namespace Go.Proofs.YtfbahffljhnjbaaGreatDoor
open Go.RowKit Go.Joins
set_option linter.unusedVariables false
set_option linter.unusedSimpArgs false
/-- What FieldOf answers. -/
def FoAns (D : Dc) (x : Int) (s : ByteArray) (w : World) (e : Ending) (w' : World) : Prop := e = .returned (.tuple #[.string (foV D x s).1, .int .i64 (foV D x s).2]) ∧ Below w.heap.size w w'
theorem fo_no {D : Dc} {x : Int} {s : ByteArray} {w w' : World} (h : foV D x s = (⟨#[]⟩, -1)) (hb : Below w.heap.size w w') : FoAns D x s w (.returned (.tuple #[.string ⟨#[]⟩, .int .i64 (-1)])) w' := ⟨by rw [h], hb⟩
set_option maxRecDepth 100000 in
set_option maxHeartbeats 4000000 in
theorem s_fieldOf (D : Dc) (n : Nat) (a : Option Addr) (cap : Nat) (x : Int) (s : ByteArray) (w : World) (hD : D.n = n) (hz : dcTot D ≤ 1048576) (hs : s.size ≤ 1048576) (hr : DcAt w a D w.heap.size) :
    Calls Tryz.prog 7 #[.slice a n cap, .int .i64 x, .string s] w (FoAns D x s w) := by
  have HD := hide hD
  have HR := hide hr
  have hn : n ≤ 1048576 := by rw [← hD]; exact (dc_sz hz).1
  have C := hide (s_field s w hs)
  have CD : Hid (∀ w2, Below w.heap.size w w2 → Calls Tryz.prog 32 #[.slice a n cap] w2 fun e w' => e = .returned (.bool (docokB D)) ∧ Below w2.heap.size w2 w') := hide (fun w2 h => s_docok D n a cap w2 hD hz (dcAt_up (dcAt_go hr h) h.size))
  clear hr hD hz
  go_enter Tryz.func7, Tryz.ntmps7
  go_wp2_with fail
  refine C.out.mono ?_
  rintro e w2 ⟨hb2, U, A2, rfl, -⟩
  have HB2 := hide hb2
  have CD2 := hide (CD.out w2 hb2)
  clear hb2 C CD
  cases hd : docokB D
  · have HV := hide (fo_out (D := D) (x := x) (s := s) (by unfold txOk; rw [hd]; rfl))
    rw [hd] at CD2
    go_wp2_with (go_at_call 32; refine CD2.out.mono ?_; rintro e w1 ⟨rfl, hb1⟩; have HB := hide (HB2.out.trans (hb1.mono HB2.out.size)); clear hb1)
    go_ret2
    exact fo_no HV.out HB.out
  · obtain ⟨⟨g1, g2⟩, hit, hsum⟩ := docok_facts hd
    rw [HD.out] at g1 g2
    rw [hd] at CD2
    have HDK := hide hd
    have hlen : (1 : Int) ≤ (n : Int) := by omega
    clear hit hsum hd
    by_cases hin : 0 ≤ x ∧ x ≤ (n : Int) - 1
    · have HIN := hide hin
      obtain ⟨h0, h1⟩ := hin
      obtain ⟨b, off, rfl, hbs, hrow⟩ := HR.out (by rw [HD.out]; omega)
      obtain ⟨ad, cp, hc, -⟩ := hrow x.toNat (by rw [HD.out]; omega)
      have HRW := hide hrow
      have HCC := hide hc
      have hxn : x < (n : Int) := by omega
      clear hrow hc
      cases he : (D.NM x.toNat).toList.isEmpty
      · have HTX : Hid (txOk D x = true) := hide (by unfold txOk; rw [HDK.out, HD.out, decide_eq_true HIN.out, he]; rfl)
        have hne : (D.NM x.toNat).toList ≠ [] := by simpa using he
        cases hfo : fld s.data.toList with
        | none =>
          have HV := hide (fo_none (D := D) (x := x) hfo)
          go_wp2_with (first | (go_at_call 32; refine CD2.out.mono ?_; rintro e w1 ⟨rfl, hb1⟩; have HB := hide (HB2.out.trans (hb1.mono HB2.out.size)); obtain ⟨c0, c1, c2, c3⟩ := dcCells_go HCC.out hbs HB.out; clear hb1) | (go_at_call 33; refine (s_inT _ _ _ _ HIN.out).mono ?_; rintro e w9 ⟨rfl, h9⟩; rw [h9]; clear h9 w9))
          go_ret2
          exact fo_no HV.out HB.out
        | some q =>
          have hsm : s.size ≤ 20000 := by have := fld_small hfo; simpa using this
          have hsmi : (s.size : Int) ≤ 20000 := by omega
          have HV := hide (fo_some hfo HTX.out)
          have hx' : (x.toNat : Int) = x := by omega
          have CV : Hid (∀ w5, Below w.heap.size w w5 → Calls Tryz.prog 34 #[.slice (some ⟨b, off, none⟩) n cap, .int .i64 x, .string s] w5 fun e w' => e = .returned (.tuple #[.string (foV D x s).1, .int .i64 (foV D x s).2]) ∧ Below w5.heap.size w5 w') := hide (fun w5 h5 => by
            have h9 := s_value D n b off cap x.toNat s q w5 HD.out HDK.out (by omega) hs hfo (Nat.lt_of_lt_of_le hbs h5.size) (dcRow_up (dcRow_go HRW.out hbs h5) h5.size)
            rw [hx'] at h9
            rw [HV.out, HD.out]
            exact h9)
          obtain ⟨R, hR⟩ : ∃ R, foV D x s = R := ⟨_, rfl⟩
          have HRR := hide hR
          rw [hR] at CV
          obtain ⟨r1, r2⟩ := R
          clear hx' hR hfo
          go_wp2_with (first | (go_at_call 32; refine CD2.out.mono ?_; rintro e w1 ⟨rfl, hb1⟩; have HB := hide (HB2.out.trans (hb1.mono HB2.out.size)); obtain ⟨c0, c1, c2, c3⟩ := dcCells_go HCC.out hbs HB.out; clear hb1) | (go_at_call 33; refine (s_inT _ _ _ _ HIN.out).mono ?_; rintro e w9 ⟨rfl, h9⟩; rw [h9]; clear h9 w9) | (go_at_call 34; refine (CV.out _ HB.out).mono ?_; rintro e w6 ⟨rfl, hb6⟩; have HB6 := hide (HB.out.trans (hb6.mono HB.out.size)); clear hb6))
          go_ret2
          exact ⟨by rw [HRR.out]; rfl, HB6.out⟩
      · have HV := hide (fo_out (D := D) (x := x) (s := s) (by unfold txOk; rw [he]; simp))
        have hne : (D.NM x.toNat).toList = [] := by simpa using he
        go_wp2_with (first | (go_at_call 32; refine CD2.out.mono ?_; rintro e w1 ⟨rfl, hb1⟩; have HB := hide (HB2.out.trans (hb1.mono HB2.out.size)); obtain ⟨c0, c1, c2, c3⟩ := dcCells_go HCC.out hbs HB.out; clear hb1) | (go_at_call 33; refine (s_inT _ _ _ _ HIN.out).mono ?_; rintro e w9 ⟨rfl, h9⟩; rw [h9]; clear h9 w9))
        go_ret2
        exact fo_no HV.out HB.out
    · have HV := hide (fo_out (D := D) (x := x) (s := s) (by unfold txOk; rw [HD.out, decide_eq_false hin]; simp))
      have HIN := hide hin
      clear hin
      go_wp2_with (first | (go_at_call 32; refine CD2.out.mono ?_; rintro e w1 ⟨rfl, hb1⟩; have HB := hide (HB2.out.trans (hb1.mono HB2.out.size)); clear hb1) | (go_at_call 33; refine (s_inF _ _ _ _ HIN.out).mono ?_; rintro e w9 ⟨rfl, h9⟩; rw [h9]; clear h9 w9))
      go_ret2
      exact fo_no HV.out HB.out
end Go.Proofs.YtfbahffljhnjbaaGreatDoor
