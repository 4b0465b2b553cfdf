/-
  Contract: the kids of an item, by the specification.
-/
import Derived.Test.YtogeicckbdfldaaDoorKbI
import Derived.Test.YtogeicckbdfldaaDoorDocS
namespace Go.Proofs.YtogeicckbdfldaaDoor
open Go.RowKit Go.Joins
set_option linter.unusedVariables false
set_option linter.unusedSimpArgs false
set_option maxRecDepth 100000 in
set_option maxHeartbeats 4000000 in
theorem s_kidsof (D : Dc) (n : Nat) (a : Option Addr) (cap : Nat) (x : Int) (w : World) (hD : D.n = n) (hz : dcTot D ≤ 1048576) (hr : DcAt w a D w.heap.size) :
    Calls Tryd.prog 12 #[.slice a n cap, .int .i64 x] w (KidsAns D x w) := by
  have HD := hide hD
  have HR := hide hr
  have hn : n ≤ 1048576 := by rw [← hD]; exact (dc_sz hz).1
  have CD := hide (s_docok D n a cap w hD hz hr)
  clear hr hD hz
  cases hd : docokB D
  · have HV := hide (kidsV_no (D := D) (x := x) (by unfold hasB'; rw [hd]; rfl))
    rw [hd] at CD
    go_enter Tryd.func12, Tryd.ntmps12
    go_wp2_with (first | (go_at_call 22; refine CD.out.mono ?_; rintro e w1 ⟨rfl, hb1⟩; have HB := hide hb1; clear hb1))
    go_ret
    refine ⟨some ⟨w1.heap.size, 0, none⟩, 0, ?_, ?_, HB.out.alloc HB.out.size _⟩
    · rw [HV.out]; rfl
    · rw [HV.out]; exact World.ownsRow_made (base := w.heap.size) (e := 2) (size := 1) w1 #[] 0 HB.out.size (Nat.zero_le _) rfl
  · obtain ⟨⟨g1, g2⟩, hit, hsum⟩ := docok_facts hd
    have hdec := docok_dec hd
    rw [HD.out] at g1 g2 hdec
    rw [hd] at CD
    have hlen : (1 : Int) ≤ (n : Int) := by omega
    have HC := hide hdec
    clear hit hsum hdec
    by_cases hin : 0 ≤ x ∧ x ≤ (n : Int) - 1
    · have HIN := hide hin
      obtain ⟨h0, h1⟩ := hin
      obtain ⟨b, off, rfl, hbs, hrow⟩ := HR.out (by rw [HD.out]; omega)
      have HRW := hide hrow
      have HV := hide (kidsV_yes (D := D) (x := x) (by unfold hasB'; rw [hd, HD.out, decide_eq_true HIN.out]; rfl))
      rw [HD.out] at HV
      clear hrow
      go_enter Tryd.func12, Tryd.ntmps12
      go_wp2_with fail
      refine CD.out.mono ?_
      rintro e w1 ⟨rfl, hb1⟩
      have hbw : b < w1.heap.size := Nat.lt_of_lt_of_le hbs hb1.size
      have hx' : x = (x.toNat : Int) := by omega
      have CT : Hid (Calls Tryd.prog 32 #[.slice (some ⟨b, off, none⟩) n cap, .int .i64 x] w1 fun e w' => ∃ ad c, e = .returned (.slice ad (kd D x n).length c) ∧ w'.ownsRow w1.heap.size 2 1 (.slice ad (kd D x n).length c) (kd D x n).length ((kd D x n).map (Value.int .i64)) ∧ Below w1.heap.size w1 w') := hide (by rw [hx']; exact s_kids D n b off cap w1 x.toNat HD.out g2 (by omega) hbw (dcRow_up (dcRow_go HRW.out hbs hb1) hb1.size) (fun j hj => (HC.out j hj).2))
      have HB := hide hb1
      obtain ⟨L, hL⟩ : ∃ L, kd D x n = L := ⟨_, rfl⟩
      rw [hL] at CT HV
      clear hb1 hx' hL
      go_wp2_with (first | (go_at_call 30; refine (s_inT _ _ _ _ HIN.out).mono ?_; rintro e w9 ⟨rfl, rfl⟩) | (go_at_call 32; refine CT.out.mono ?_; rintro e w2 ⟨ad, c, rfl, ho2, hb2⟩; have HO2 := hide ho2; have HB2 := hide (HB.out.trans (hb2.mono HB.out.size)); clear hb2 ho2))
      go_ret
      refine ⟨ad, c, ?_, ?_, HB2.out⟩
      · rw [HV.out]; rfl
      · rw [HV.out]; exact own_lower HO2.out HB.out.size
    · have HV := hide (kidsV_no (D := D) (x := x) (by unfold hasB'; rw [HD.out, decide_eq_false hin]; simp))
      have HIN := hide hin
      clear hin
      go_enter Tryd.func12, Tryd.ntmps12
      go_wp2_with (first | (go_at_call 22; refine CD.out.mono ?_; rintro e w1 ⟨rfl, hb1⟩; have HB := hide hb1; clear hb1) | (go_at_call 30; refine (s_inF _ _ _ _ HIN.out).mono ?_; rintro e w9 ⟨rfl, rfl⟩))
      go_ret
      refine ⟨some ⟨w9.heap.size, 0, none⟩, 0, ?_, ?_, HB.out.alloc HB.out.size _⟩
      · rw [HV.out]; rfl
      · rw [HV.out]; exact World.ownsRow_made (base := w.heap.size) (e := 2) (size := 1) w9 #[] 0 HB.out.size (Nat.zero_le _) rfl
end Go.Proofs.YtogeicckbdfldaaDoor
