/-
  Contracts: the text of an element, by the specification and by the program.
-/
import Derived.Test.YtogeicckbdfldaaDoorKdS
import Derived.Test.YtogeicckbdfldaaDoorDocS
namespace Go.Proofs.YtogeicckbdfldaaDoor
open Go.RowKit Go.Joins
set_option linter.unusedVariables false
set_option linter.unusedSimpArgs false
theorem txV_no {D : Dc} {x : Int} (h : txOk D x = false) : txV D x = ⟨#[]⟩ := by unfold txV; rw [h]; rfl
theorem txV_yes {D : Dc} {x : Int} (h : txOk D x = true) : txV D x = txF D x D.n := by unfold txV; rw [h]; rfl
theorem tx_ret {a a' : ByteArray} {b b' : Bool} (h1 : a = a') (h2 : b = b') : Ending.returned (.tuple #[.string a, .bool b]) = .returned (.tuple #[.string a', .bool b']) := by rw [h1, h2]
set_option maxRecDepth 100000 in
set_option maxHeartbeats 4000000 in
theorem s_textof (D : Dc) (n : Nat) (a : Option Addr) (cap : Nat) (x : Int) (w : World) (hD : D.n = n) (hz : dcTot D ≤ 1048576) (hr : DcAt w a D w.heap.size) :
    Calls Tryd.prog 10 #[.slice a n cap, .int .i64 x] w fun e w' => e = .returned (.tuple #[.string (txV D x), .bool (txOk D x)]) ∧ Below w.heap.size w w' := by
  have HD := hide hD
  have HR := hide hr
  have hn : n ≤ 1048576 := by rw [← hD]; exact (dc_sz hz).1
  have CD := hide (s_docok D n a cap w hD hz hr)
  clear hr hD hz
  cases hd : docokB D
  · have hv : txOk D x = false := by unfold txOk; rw [hd]; rfl
    have HV := hide (txV_no hv)
    have HW := hide hv
    rw [hd] at CD
    clear hv
    go_enter Tryd.func10, Tryd.ntmps10
    go_wp2_with (first | (go_at_call 22; refine CD.out.mono ?_; rintro e w1 ⟨rfl, hb1⟩; have HB := hide hb1; clear hb1))
    go_ret2
    exact ⟨tx_ret HV.out.symm HW.out.symm, HB.out⟩
  · obtain ⟨⟨g1, g2⟩, hit, hsum⟩ := docok_facts hd
    have hdec := docok_dec hd
    rw [HD.out] at g1 g2 hit hsum hdec
    rw [hd] at CD
    have hlen : (1 : Int) ≤ (n : Int) := by omega
    have HS := hide hsum
    have HC := hide hdec
    clear hit hsum hdec
    by_cases hin : 0 ≤ x ∧ x ≤ (n : Int) - 1
    · have HIN := hide hin
      obtain ⟨h0, h1⟩ := hin
      obtain ⟨b, off, rfl, hbs, hrow⟩ := HR.out (by rw [HD.out]; omega)
      obtain ⟨ad, cp, hc, -⟩ := hrow x.toNat (by rw [HD.out]; omega)
      have HRW := hide hrow
      have HCC := hide hc
      have hxn : x < (n : Int) := by omega
      clear hrow hc
      cases he : (D.NM x.toNat).toList.isEmpty
      · have hv : txOk D x = true := by unfold txOk; rw [hd, HD.out, decide_eq_true HIN.out, he]; rfl
        have HV := hide (txV_yes hv)
        have HW := hide hv
        rw [HD.out] at HV
        clear hv
        go_enter Tryd.func10, Tryd.ntmps10
        go_wp2_with fail
        refine CD.out.mono ?_
        rintro e w1 ⟨rfl, hb1⟩
        obtain ⟨c0, c1, c2, c3⟩ := dcCells_go HCC.out hbs hb1
        have hbw : b < w1.heap.size := Nat.lt_of_lt_of_le hbs hb1.size
        have hx' : x = (x.toNat : Int) := by omega
        have CT : Hid (Calls Tryd.prog 31 #[.slice (some ⟨b, off, none⟩) n cap, .int .i64 x] w1 fun e w' => e = .returned (.string (txF D x n)) ∧ Below w1.heap.size w1 w') := hide (by rw [hx']; exact s_text2 D n b off cap w1 x.toNat HD.out g2 (by omega) hbw (dcRow_up (dcRow_go HRW.out hbs hb1) hb1.size) (fun j hj => (HC.out j hj).2) HS.out)
        have HB := hide hb1
        clear hb1 hx'
        go_wp2_with (first | (go_at_call 30; refine (s_inT _ _ _ _ HIN.out).mono ?_; rintro e w9 ⟨rfl, rfl⟩) | (go_at_call 31; refine CT.out.mono ?_; rintro e w2 ⟨rfl, hb2⟩; have HB2 := hide (HB.out.trans (hb2.mono HB.out.size)); clear hb2))
        go_ret2
        exact ⟨tx_ret HV.out.symm HW.out.symm, HB2.out⟩
      · have hv : txOk D x = false := by unfold txOk; rw [he]; simp
        have HV := hide (txV_no hv)
        have HW := hide hv
        clear hv
        go_enter Tryd.func10, Tryd.ntmps10
        go_wp2_with fail
        refine CD.out.mono ?_
        rintro e w1 ⟨rfl, hb1⟩
        obtain ⟨c0, c1, c2, c3⟩ := dcCells_go HCC.out hbs hb1
        have HB := hide hb1
        clear hb1
        go_wp2_with (first | (go_at_call 30; refine (s_inT _ _ _ _ HIN.out).mono ?_; rintro e w9 ⟨rfl, rfl⟩))
        go_ret2
        exact ⟨tx_ret HV.out.symm HW.out.symm, HB.out⟩
    · have hv : txOk D x = false := by unfold txOk; rw [HD.out, decide_eq_false hin]; simp
      have HV := hide (txV_no hv)
      have HW := hide hv
      have HIN := hide hin
      clear hv hin
      go_enter Tryd.func10, Tryd.ntmps10
      go_wp2_with (first | (go_at_call 22; refine CD.out.mono ?_; rintro e w1 ⟨rfl, hb1⟩; have HB := hide hb1; clear hb1) | (go_at_call 30; refine (s_inF _ _ _ _ HIN.out).mono ?_; rintro e w9 ⟨rfl, rfl⟩))
      go_ret2
      exact ⟨tx_ret HV.out.symm HW.out.symm, HB.out⟩
end Go.Proofs.YtogeicckbdfldaaDoor
