/-
  Contracts: the text of an element, by the program.
-/
import Derived.Test.YtgmddgmcchaagacDoorKdMath
namespace Go.Proofs.YtgmddgmcchaagacDoor
open Go.RowKit Go.Joins
set_option linter.unusedVariables false
set_option linter.unusedSimpArgs false
def hasB' (D : Dc) (x : Int) : Bool := docokB D && decide (0 ≤ x ∧ x ≤ (D.n : Int) - 1)
set_option maxHeartbeats 2000000 in
theorem i_hasItem (D : Dc) (n : Nat) (a : Option Addr) (cap : Nat) (x : Int) (w : World) (hD : D.n = n) (hz : dcTot D ≤ 1048576) (hr : DcAt w a D w.heap.size) (hT : Tabs w) :
    Calls Tryd.prog 14 #[.slice a n cap, .int .i64 x] w fun e w' => e = .returned (.bool (hasB' D x)) ∧ Below w.heap.size w w' := by
  have HD := hide hD
  have hn : n ≤ 1048576 := by rw [← hD]; exact (dc_sz hz).1
  have CD := hide (i_docok D n a cap w hD hz hr hT)
  clear hr hD hz hT
  cases hd : docokB D
  · have HW : Hid (hasB' D x = false) := hide (by unfold hasB'; rw [hd]; rfl)
    rw [hd] at CD
    go_enter Tryd.func14, Tryd.ntmps14
    go_wp2_with (first | (go_at_call 23; refine CD.out.mono ?_; rintro e w1 ⟨rfl, hb1⟩; have HB := hide hb1; clear hb1))
    go_ret
    exact ⟨ret_bool HW.out.symm, HB.out⟩
  · rw [hd] at CD
    by_cases h0 : 0 ≤ x
    · by_cases h1 : x < (n : Int)
      · have HW : Hid (hasB' D x = true) := hide (by unfold hasB'; rw [hd, HD.out, decide_eq_true ⟨h0, by omega⟩]; rfl)
        go_enter Tryd.func14, Tryd.ntmps14
        go_wp2_with (first | (go_at_call 23; refine CD.out.mono ?_; rintro e w1 ⟨rfl, hb1⟩; have HB := hide hb1; clear hb1))
        go_ret
        exact ⟨ret_bool (by rw [HW.out]; try simp_all), HB.out⟩
      · have HW : Hid (hasB' D x = false) := hide (by unfold hasB'; rw [hd, HD.out, decide_eq_false (by omega)]; rfl)
        go_enter Tryd.func14, Tryd.ntmps14
        go_wp2_with (first | (go_at_call 23; refine CD.out.mono ?_; rintro e w1 ⟨rfl, hb1⟩; have HB := hide hb1; clear hb1))
        go_ret
        exact ⟨ret_bool (by rw [HW.out]; try simp_all), HB.out⟩
    · have HW : Hid (hasB' D x = false) := hide (by unfold hasB'; rw [hd, HD.out, decide_eq_false (by omega)]; rfl)
      go_enter Tryd.func14, Tryd.ntmps14
      go_wp2_with (first | (go_at_call 23; refine CD.out.mono ?_; rintro e w1 ⟨rfl, hb1⟩; have HB := hide hb1; clear hb1))
      go_ret
      exact ⟨ret_bool (by rw [HW.out]; try simp_all), HB.out⟩
theorem txI_no {D : Dc} {x : Int} (h : txOk D x = false) : txV D x = ⟨#[]⟩ := by unfold txV; rw [h]; rfl
theorem txI_yes {D : Dc} {x : Int} (h : txOk D x = true) : txV D x = txF D x D.n := by unfold txV; rw [h]; rfl
theorem txI_ret {a a' : ByteArray} {b b' : Bool} (h1 : a = a') (h2 : b = b') : Ending.returned (.tuple #[.string a, .bool b]) = .returned (.tuple #[.string a', .bool b']) := by rw [h1, h2]
set_option maxRecDepth 100000 in
set_option maxHeartbeats 4000000 in
theorem i_textof (D : Dc) (n : Nat) (a : Option Addr) (cap : Nat) (x : Int) (w : World) (hD : D.n = n) (hz : dcTot D ≤ 1048576) (hr : DcAt w a D w.heap.size) (hT : Tabs w) :
    Calls Tryd.prog 7 #[.slice a n cap, .int .i64 x] w fun e w' => e = .returned (.tuple #[.string (txV D x), .bool (txOk D x)]) ∧ Below w.heap.size w w' := by
  have HD := hide hD
  have HR := hide hr
  have hn : n ≤ 1048576 := by rw [← hD]; exact (dc_sz hz).1
  have CH := hide (i_hasItem D n a cap x w hD hz hr hT)
  clear hr hD hz hT
  cases hh : hasB' D x
  · have hv : txOk D x = false := by
      unfold hasB' at hh
      unfold txOk
      rw [← Bool.and_assoc, hh]; rfl
    have HV := hide (txI_no hv)
    have HW := hide hv
    rw [hh] at CH
    clear hv
    go_enter Tryd.func7, Tryd.ntmps7
    go_wp2_with (first | (go_at_call 14; refine CH.out.mono ?_; rintro e w1 ⟨rfl, hb1⟩; have HB := hide hb1; clear hb1))
    go_ret2
    exact ⟨txI_ret HV.out.symm HW.out.symm, HB.out⟩
  · have hh2 := hh
    unfold hasB' at hh2
    simp only [Bool.and_eq_true, decide_eq_true_eq] at hh2
    obtain ⟨hd, h0, h1⟩ := hh2
    rw [HD.out] at h1
    obtain ⟨⟨g1, g2⟩, -, hsum⟩ := docok_facts hd
    rw [HD.out] at g1 g2 hsum
    rw [hh] at CH
    obtain ⟨b, off, rfl, hbs, hrow⟩ := HR.out (by rw [HD.out]; omega)
    obtain ⟨ad, cp, hc, -⟩ := hrow x.toNat (by rw [HD.out]; omega)
    have HRW := hide hrow
    have HCC := hide hc
    have hxn : x < (n : Int) := by omega
    have HSM := hide hsum
    clear hrow hc hsum
    cases he : (D.NM x.toNat).toList.isEmpty
    · have hv : txOk D x = true := by unfold txOk; unfold hasB' at hh; rw [← Bool.and_assoc, hh, he]; rfl
      have HV := hide (txI_yes hv)
      have HW := hide hv
      rw [HD.out] at HV
      clear hv
      go_enter Tryd.func7, Tryd.ntmps7
      go_wp2_with fail
      refine CH.out.mono ?_
      rintro e w1 ⟨rfl, hb1⟩
      obtain ⟨c0, c1, c2, c3⟩ := dcCells_go HCC.out hbs hb1
      have HB := hide hb1
      clear hb1
      go_wp2
      clear c0 c1 c2 c3
      go_loopw [6, 23] (fun s iv wr => ∃ i : Nat, i ≤ n ∧ s = .string (txF D x i) ∧ iv = .int .i64 i ∧ Below w.heap.size w wr) (fun _ iv _ => n - (intOf iv).toNat)
      case atStart => exact ⟨0, Nat.zero_le _, rfl, rfl, HB.out⟩
      case round =>
        obtain ⟨i, hi, rfl, rfl, hb⟩ := hrel
        by_cases hlt : i < n
        · obtain ⟨ad9, cp9, hc9, -⟩ := HRW.out i (by rw [HD.out]; omega)
          obtain ⟨c0, c1, c2, c3⟩ := dcCells_go hc9 hbs hb
          have HB2 := hide hb
          have hin : (i : Int) < (n : Int) := by omega
          have hsz := txF_size D x (i + 1)
          have hsz2 := sumN_le (szD D) (a := i + 1) (b := n) (by omega)
          have hs3 := HSM.out
          by_cases hu : D.U i = x
          · have hub : (D.U i == x) = true := by simpa using hu
            have HE := hide (txF_yes hu)
            rw [txF_yes hu, ByteArray.size_append] at hsz
            obtain ⟨S, hS⟩ : ∃ S, txF D x i = S := ⟨_, rfl⟩
            rw [hS] at HE hsz ⊢
            have hS1 : ¬ 9223372036854775807 < S.size + (D.TX i).size := by omega
            clear hu hc9 hb hS hsz hsz2 hs3
            go_wp2
            go_roundw
            case rel => exact ⟨i + 1, by omega, by rw [HE.out], by go_num, HB2.out.alloc HB2.out.size _⟩
            case measure => simp [intOf]; omega
          · have hub : (D.U i == x) = false := by simpa using hu
            have HE := hide (txF_no hu)
            clear hu hc9 hb hsz hsz2 hs3
            go_wp2
            go_roundw
            case rel => exact ⟨i + 1, by omega, by rw [HE.out], by go_num, HB2.out.alloc HB2.out.size _⟩
            case measure => simp [intOf]; omega
        · have hin : i = n := by omega
          subst hin
          go_wp2
          go_ret2
          exact ⟨txI_ret HV.out.symm HW.out.symm, hb⟩
    · have hv : txOk D x = false := by unfold txOk; rw [he]; simp
      have HV := hide (txI_no hv)
      have HW := hide hv
      clear hv
      go_enter Tryd.func7, Tryd.ntmps7
      go_wp2_with fail
      refine CH.out.mono ?_
      rintro e w1 ⟨rfl, hb1⟩
      obtain ⟨c0, c1, c2, c3⟩ := dcCells_go HCC.out hbs hb1
      have HB := hide hb1
      clear hb1
      go_wp2
      go_ret2
      exact ⟨txI_ret HV.out.symm HW.out.symm, HB.out⟩
end Go.Proofs.YtgmddgmcchaagacDoor
