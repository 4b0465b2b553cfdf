/-
  Contracts: Sample, by the specification and by the program (for drawn laws).
-/
import Derived.Test.YtfohfljdgmlibaaDoorSmI
import Derived.Test.YtfohfljdgmlibaaDoorTxRow
namespace Go.Proofs.YtfohfljdgmlibaaDoor
open Go.RowKit Go.Joins
set_option linter.unusedVariables false
set_option linter.unusedSimpArgs false
def smV (D : Pn) : List ByteArray := if pkB D = true then sm D (D.n - 1) else []
theorem smV_no {D : Pn} (h : pkB D = false) : smV D = [] := by unfold smV; rw [h]; rfl
theorem smV_yes {D : Pn} (h : pkB D = true) : smV D = sm D (D.n - 1) := by unfold smV; rw [h]; rfl
theorem smV_len {D : Pn} (hz : pnTot D ≤ 1048576) : (smV D).length ≤ 40 := by
  cases hd : pkB D
  · rw [smV_no hd]; exact Nat.zero_le _
  · have hRM := rm_of rfl hd hz
    obtain ⟨h1, -⟩ := pk_facts hd
    obtain ⟨-, h2, h3, h4, h5, -⟩ := hRM
    obtain ⟨c, hc⟩ := h5 (D.n - 1) (by omega)
    have := (sm_len (fun j hj => h4 j (by omega)) (D.n - 1 + 1) (D.n - 1) c (by omega) (by omega) hc).1
    rw [smV_yes hd]
    omega
def SmpAns (D : Pn) (w : World) (r : Ending) (w' : World) : Prop := ∃ ad c, r = .returned (.tuple #[.slice ad (smV D).length c, .bool (pkB D)]) ∧ StrR w.heap.size w' ad c (smV D) ∧ Below w.heap.size w w'
theorem smp_ret {a a' : Value} {b b' : Bool} (h1 : a = a') (h2 : b = b') : Ending.returned (.tuple #[a, .bool b]) = .returned (.tuple #[a', .bool b']) := by rw [h1, h2]
set_option maxHeartbeats 4000000 in
theorem s_sampleV (D : Pn) (n : Nat) (a : Option Addr) (cap : Nat) (w : World) (hD : D.n = n) (hz : pnTot D ≤ 1048576) (hr : PnAt w a D w.heap.size) :
    Calls Tryd.prog 26 #[.slice a n cap] w (SmpAns D w) := by
  have HD := hide hD
  have HR := hide hr
  have CD := hide (s_particle D n a cap w hD hz hr)
  cases hd : pkB D
  · have HV := hide (smV_no hd)
    have HP := hide hd
    rw [hd] at CD
    clear hr hD hz hd
    go_enter Tryd.func26, Tryd.ntmps26
    go_wp2_with (first | (go_at_call 11; refine CD.out.mono ?_; rintro e w1 ⟨rfl, hb1⟩; have HB := hide hb1; clear hb1))
    go_ret2
    refine ⟨none, 0, smp_ret (by rw [HV.out]; rfl) HP.out.symm, ?_, HB.out⟩
    rw [HV.out]
    exact strR_nil _ _
  · have hRM := rm_of hD hd hz
    have HV := hide (smV_yes hd)
    have HP := hide hd
    rw [HD.out] at HV
    obtain ⟨h1, -⟩ := pk_facts hd
    rw [hD] at h1
    rw [hd] at CD
    obtain ⟨b0, off, rfl, hbs, hrow⟩ := hr (by omega)
    have CT := hide (fun (W : World) (hW : Below w.heap.size w W) => s_short D n b0 off cap hRM (n - 1 + 1) (n - 1) (by omega) (by omega) W (Nat.lt_of_lt_of_le hbs hW.size) (pnRow_up (pnRow_go hrow hbs hW) hW.size))
    rw [← HV.out] at CT
    have hni : ((n - 1 : Nat) : Int) = (n : Int) - 1 := by omega
    rw [hni] at CT
    have hn1 : (1 : Int) ≤ (n : Int) := by omega
    have hn4 : (n : Int) ≤ 40 := by omega
    clear hr hD hz hd hrow hRM hni HR
    go_enter Tryd.func26, Tryd.ntmps26
    go_wp2_with fail
    refine CD.out.mono ?_
    rintro e w1 ⟨rfl, hb1⟩
    have HB := hide hb1
    clear hb1
    go_wp2_with fail
    refine (CT.out _ HB.out).mono ?_
    rintro e w2 ⟨ad2, c2, rfl, ho2, hb2⟩
    have HO2 := hide (strR_low ho2 HB.out.size)
    have HB2 := hide (HB.out.trans (hb2.mono HB.out.size))
    clear ho2 hb2
    go_wp2
    go_ret2
    exact ⟨ad2, c2, smp_ret rfl HP.out.symm, HO2.out, HB2.out⟩
set_option maxHeartbeats 4000000 in
theorem i_sampleV (D : Pn) (n : Nat) (a : Option Addr) (cap : Nat) (w : World) (hD : D.n = n) (hz : pnTot D ≤ 1048576) (hr : PnAt w a D w.heap.size) :
    Calls Tryd.prog 25 #[.slice a n cap] w (SmpAns D w) := by
  have HD := hide hD
  have HR := hide hr
  have CD := hide (i_particle D n a cap w hD hz hr)
  cases hd : pkB D
  · have HV := hide (smV_no hd)
    have HP := hide hd
    rw [hd] at CD
    clear hr hD hz hd
    go_enter Tryd.func25, Tryd.ntmps25
    go_wp2_with (first | (go_at_call 53; refine CD.out.mono ?_; rintro e w1 ⟨rfl, hb1⟩; have HB := hide hb1; clear hb1))
    go_ret2
    refine ⟨none, 0, smp_ret (by rw [HV.out]; rfl) HP.out.symm, ?_, HB.out⟩
    rw [HV.out]
    exact strR_nil _ _
  · have hRM := rm_of hD hd hz
    have HV := hide (smV_yes hd)
    have HP := hide hd
    rw [HD.out] at HV
    obtain ⟨h1, -⟩ := pk_facts hd
    rw [hD] at h1
    rw [hd] at CD
    obtain ⟨b0, off, rfl, hbs, hrow⟩ := hr (by omega)
    have CT := hide (fun (W : World) (hW : Below w.heap.size w W) => i_sample D n b0 off cap hRM (n - 1 + 1) (n - 1) (by omega) (by omega) W (Nat.lt_of_lt_of_le hbs hW.size) (pnRow_up (pnRow_go hrow hbs hW) hW.size))
    rw [← HV.out] at CT
    have hni : ((n - 1 : Nat) : Int) = (n : Int) - 1 := by omega
    rw [hni] at CT
    have hn1 : (1 : Int) ≤ (n : Int) := by omega
    have hn4 : (n : Int) ≤ 40 := by omega
    clear hr hD hz hd hrow hRM hni HR
    go_enter Tryd.func25, Tryd.ntmps25
    go_wp2_with fail
    refine CD.out.mono ?_
    rintro e w1 ⟨rfl, hb1⟩
    have HB := hide hb1
    clear hb1
    go_wp2_with fail
    refine (CT.out _ HB.out).mono ?_
    rintro e w2 ⟨ad2, c2, rfl, ho2, hb2⟩
    have HO2 := hide (strR_low ho2 HB.out.size)
    have HB2 := hide (HB.out.trans (hb2.mono HB.out.size))
    clear ho2 hb2
    go_wp2
    go_ret2
    exact ⟨ad2, c2, smp_ret rfl HP.out.symm, HO2.out, HB2.out⟩
end Go.Proofs.YtfohfljdgmlibaaDoor
