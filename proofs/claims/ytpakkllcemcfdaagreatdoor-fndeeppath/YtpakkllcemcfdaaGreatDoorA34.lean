/-
  Contract: what a path selects, the specification's answer.
-/
import Derived.Test.YtpakkllcemcfdaaGreatDoorA22
import Derived.Test.YtpakkllcemcfdaaGreatDoorA32
import Derived.Test.YtpakkllcemcfdaaGreatDoorA33
namespace Go.Proofs.YtpakkllcemcfdaaGreatDoor
open Go.RowKit
set_option linter.unusedVariables false
set_option linter.unusedSimpArgs false
theorem sel_none {D : Dc} {x : Int} {s : ByteArray} {w W : World} (h : selV D x s = []) (hb : Below w.heap.size w W) : SelAns D x s w (.returned (.slice (some ⟨W.heap.size, 0, none⟩) 0 0)) (W.alloc (.cells #[] 2)) :=
  ⟨some ⟨W.heap.size, 0, none⟩, 0, by rw [h]; rfl, by rw [h]; exact World.ownsRow_made (base := w.heap.size) (e := 2) (size := 1) W #[] 0 hb.size (Nat.zero_le _) rfl, hb.alloc hb.size _⟩
set_option maxRecDepth 100000 in
set_option maxHeartbeats 4000000 in
theorem s_select (D : Dc) (n : Nat) (a : Option Addr) (cap : Nat) (x : Int) (s : ByteArray) (w : World) (hD : D.n = n) (hz : dcTot D ≤ 1048576) (hs : s.size ≤ 1048576) (hr : DcAt w a D w.heap.size) :
    Calls Tryz.prog 10 #[.slice a n cap, .int .i64 x, .string s] w (SelAns D x s w) := by
  have HD := hide hD
  have HR := hide hr
  have hn : n ≤ 1048576 := by rw [← hD]; exact (dc_sz hz).1
  have CD := hide (s_docok D n a cap w hD hz hr)
  have CP := hide (fun (W : World) => s_path s W hs)
  clear hr hD hz
  cases hd : docokB D
  · have HV := hide (selV_no (D := D) (x := x) (s := s) (.inr (by unfold txOk; rw [hd]; rfl)))
    rw [hd] at CD
    go_enter Tryz.func10, Tryz.ntmps10
    go_wp2_with (first | (go_at_call 13; refine CD.out.mono ?_; rintro e w1 ⟨rfl, hb1⟩; have HB := hide hb1; clear hb1))
    go_ret
    exact sel_none HV.out HB.out
  · obtain ⟨⟨g1, g2⟩, hit, hsum⟩ := docok_facts hd
    rw [HD.out] at g1 g2
    rw [hd] at CD
    have HDK := hide hd
    have HG := hide (docok_good hd)
    rw [HD.out] at HG
    have hlen : (1 : Int) ≤ (n : Int) := by omega
    clear hit hsum hd
    by_cases hin : 0 ≤ x ∧ x ≤ (n : Int) - 1
    · have HIN := hide hin
      obtain ⟨h0, h1⟩ := hin
      obtain ⟨b, off, rfl, hbs, hrow⟩ := HR.out (by rw [HD.out]; omega)
      obtain ⟨ad, cp, hc, -⟩ := hrow x.toNat (by rw [HD.out]; omega)
      have HRW := hide hrow
      have HCC := hide hc
      have hxn : x < (n : Int) := by omega
      clear hrow hc
      cases he : (D.NM x.toNat).toList.isEmpty
      · have HTX : Hid (txOk D x = true) := hide (by unfold txOk; rw [HDK.out, HD.out, decide_eq_true HIN.out, he]; rfl)
        cases hrt : routeB s
        · have HV := hide (selV_no (D := D) (x := x) (s := s) (.inl hrt))
          rw [hrt] at CP
          go_enter Tryz.func10, Tryz.ntmps10
          go_wp2_with fail
          refine CD.out.mono ?_
          rintro e w1 ⟨rfl, hb1⟩
          obtain ⟨c0, c1, c2, c3⟩ := dcCells_go HCC.out hbs hb1
          have HB := hide hb1
          clear hb1
          go_wp2_with (first | (go_at_call 30; refine (s_inT _ _ _ _ HIN.out).mono ?_; rintro e w9 ⟨rfl, rfl⟩) | (go_at_call 14; refine (CP.out _).mono ?_; rintro e w2 ⟨rfl, hb2⟩; have HB2 := hide (low_trans HB.out hb2 HB.out.size); clear hb2))
          go_ret
          exact sel_none HV.out HB2.out
        · have HV := hide (selV_yes hrt HTX.out)
          rw [HD.out] at HV
          have HRT := hide hrt
          rw [hrt] at CP
          clear hrt
          go_enter Tryz.func10, Tryz.ntmps10
          go_wp2_with fail
          refine CD.out.mono ?_
          rintro e w1 ⟨rfl, hb1⟩
          obtain ⟨c0, c1, c2, c3⟩ := dcCells_go HCC.out hbs hb1
          have HB := hide hb1
          clear hb1
          go_wp2_with (first | (go_at_call 30; refine (s_inT _ _ _ _ HIN.out).mono ?_; rintro e w9 ⟨rfl, rfl⟩) | (go_at_call 14; refine (CP.out _).mono ?_; rintro e w2 ⟨rfl, hb2⟩; have HB2 := hide (low_trans HB.out hb2 HB.out.size); clear hb2) | fail)
          have hx' : x = (x.toNat : Int) := by omega
          have CT : Hid (Calls Tryz.prog 31 #[.slice (some ⟨b, off, none⟩) n cap, .int .i64 x, .string s] w2 fun e w' => ∃ ad2 c2, e = .returned (.slice ad2 (selV D x s).length c2) ∧ IntR w2.heap.size w' ad2 c2 (selV D x s) ∧ Below w2.heap.size w2 w') := hide (by
            have h := s_l11select D n b off cap w2 x.toNat s HD.out g2 (by omega) (Nat.lt_of_lt_of_le hbs HB2.out.size) (dcRow_up (dcRow_go HRW.out hbs HB2.out) HB2.out.size) HG.out hs HRT.out
            rw [← hx', ← HV.out] at h
            exact h)
          refine CT.out.mono ?_
          rintro e w3 ⟨ad3, c3', rfl, ho3, hb3⟩
          have HO3 := hide (intR_low ho3 HB2.out.size)
          have HB3 := hide (low_trans HB2.out hb3 HB2.out.size)
          clear ho3 hb3 hx' CT
          go_wp2
          go_ret
          exact ⟨ad3, c3', rfl, HO3.out, HB3.out⟩
      · have HV := hide (selV_no (D := D) (x := x) (s := s) (.inr (by unfold txOk; rw [he]; simp)))
        go_enter Tryz.func10, Tryz.ntmps10
        go_wp2_with fail
        refine CD.out.mono ?_
        rintro e w1 ⟨rfl, hb1⟩
        obtain ⟨c0, c1, c2, c3⟩ := dcCells_go HCC.out hbs hb1
        have HB := hide hb1
        clear hb1
        go_wp2_with (first | (go_at_call 30; refine (s_inT _ _ _ _ HIN.out).mono ?_; rintro e w9 ⟨rfl, rfl⟩))
        go_ret
        exact sel_none HV.out HB.out
    · have HV := hide (selV_no (D := D) (x := x) (s := s) (.inr (by unfold txOk; rw [HD.out, decide_eq_false hin]; simp)))
      have HIN := hide hin
      clear hin
      go_enter Tryz.func10, Tryz.ntmps10
      go_wp2_with (first | (go_at_call 13; refine CD.out.mono ?_; rintro e w1 ⟨rfl, hb1⟩; have HB := hide hb1; clear hb1) | (go_at_call 30; refine (s_inF _ _ _ _ HIN.out).mono ?_; rintro e w9 ⟨rfl, rfl⟩))
      go_ret
      exact sel_none HV.out HB.out
end Go.Proofs.YtpakkllcemcfdaaGreatDoor
