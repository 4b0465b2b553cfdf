/-
  Contracts: ModelText, by the specification and by the program.
-/
import Derived.Test.YtlhdfaoehamehaaMtI
namespace Go.Proofs.Ytlhdfaoehamehaa
open Go.RowKit Go.Joins
set_option linter.unusedVariables false
set_option linter.unusedSimpArgs false
def mtV (D : Pn) : ByteArray := if pkB D = true then ⟨(mt D (D.n - 1)).toArray⟩ else ⟨#[]⟩
theorem mtV_no {D : Pn} (h : pkB D = false) : mtV D = ⟨#[]⟩ := by unfold mtV; rw [h]; rfl
theorem mtV_yes {D : Pn} (h : pkB D = true) : mtV D = ⟨(mt D (D.n - 1)).toArray⟩ := by unfold mtV; rw [h]; rfl
set_option maxHeartbeats 4000000 in
theorem s_modeltext (D : Pn) (n : Nat) (a : Option Addr) (cap : Nat) (w : World) (hD : D.n = n) (hz : pnTot D ≤ 1048576) (hr : PnAt w a D w.heap.size) :
    Calls Try.prog 12 #[.slice a n cap] w fun e w' => e = .returned (.string (mtV D)) ∧ Below w.heap.size w w' := by
  have HD := hide hD
  have HR := hide hr
  have CD := hide (s_particle D n a cap w hD hz hr)
  cases hd : pkB D
  · have HV := hide (mtV_no hd)
    rw [hd] at CD
    clear hr hD hz
    go_enter Try.func12, Try.ntmps12
    go_wp2_with (first | (go_at_call 8; refine CD.out.mono ?_; rintro e w1 ⟨rfl, hb1⟩; have HB := hide hb1; clear hb1))
    go_ret
    exact ⟨ret_s9 HV.out.symm, HB.out⟩
  · have HV := hide (mtV_yes hd)
    have hrm := rm_of hD hd hz
    obtain ⟨⟨g1, g2⟩, -⟩ := pk_facts hd
    rw [HD.out] at g1 g2 HV
    rw [hd] at CD
    obtain ⟨b, off, rfl, hbs, hrow⟩ := HR.out (by rw [HD.out]; omega)
    have HRW := hide hrow
    have CP := hide (fun (w1 : World) (h1 : b < w1.heap.size) (h2 : PnRow w1 b off D w1.heap.size) => s_mtext D n b off cap hrm n (n - 1) (by omega) (by omega) w1 h1 h2)
    rw [← HV.out, show ((n - 1 : Nat) : Int) = (n : Int) - 1 by omega] at CP
    obtain ⟨V, hV⟩ : ∃ V, mtV D = V := ⟨_, rfl⟩
    rw [hV] at CP ⊢
    clear hr hD hz hrow hV HV hrm
    go_enter Try.func12, Try.ntmps12
    go_wp2_with fail
    refine CD.out.mono ?_
    rintro e w1 ⟨rfl, hb1⟩
    have CP1 := hide (CP.out w1 (Nat.lt_of_lt_of_le hbs hb1.size) (pnRow_up (pnRow_go HRW.out hbs hb1) hb1.size))
    have HB := hide hb1
    clear hb1
    go_wp2_with (first | (go_at_call 32; refine CP1.out.mono ?_; rintro e w2 ⟨rfl, hb2⟩; have HB2 := hide (HB.out.trans (hb2.mono HB.out.size)); clear hb2))
    go_ret
    exact ⟨rfl, HB2.out⟩
set_option maxHeartbeats 4000000 in
theorem i_modeltext (D : Pn) (n : Nat) (a : Option Addr) (cap : Nat) (w : World) (hD : D.n = n) (hz : pnTot D ≤ 1048576) (hr : PnAt w a D w.heap.size) :
    Calls Try.prog 13 #[.slice a n cap] w fun e w' => e = .returned (.string (mtV D)) ∧ Below w.heap.size w w' := by
  have HD := hide hD
  have HR := hide hr
  have CD := hide (i_particle D n a cap w hD hz hr)
  cases hd : pkB D
  · have HV := hide (mtV_no hd)
    rw [hd] at CD
    clear hr hD hz
    go_enter Try.func13, Try.ntmps13
    go_wp2_with (first | (go_at_call 10; refine CD.out.mono ?_; rintro e w1 ⟨rfl, hb1⟩; have HB := hide hb1; clear hb1))
    go_ret
    exact ⟨ret_s9 HV.out.symm, HB.out⟩
  · have HV := hide (mtV_yes hd)
    have hrm := rm_of hD hd hz
    obtain ⟨⟨g1, g2⟩, -⟩ := pk_facts hd
    rw [HD.out] at g1 g2 HV
    rw [hd] at CD
    obtain ⟨b, off, rfl, hbs, hrow⟩ := HR.out (by rw [HD.out]; omega)
    have HRW := hide hrow
    have CP := hide (fun (w1 : World) (h1 : b < w1.heap.size) (h2 : PnRow w1 b off D w1.heap.size) => i_part D n b off cap hrm n (n - 1) (by omega) (by omega) w1 h1 h2)
    rw [← HV.out, show ((n - 1 : Nat) : Int) = (n : Int) - 1 by omega] at CP
    obtain ⟨V, hV⟩ : ∃ V, mtV D = V := ⟨_, rfl⟩
    rw [hV] at CP ⊢
    clear hr hD hz hrow hV HV hrm
    go_enter Try.func13, Try.ntmps13
    go_wp2_with fail
    refine CD.out.mono ?_
    rintro e w1 ⟨rfl, hb1⟩
    have CP1 := hide (CP.out w1 (Nat.lt_of_lt_of_le hbs hb1.size) (pnRow_up (pnRow_go HRW.out hbs hb1) hb1.size))
    have HB := hide hb1
    clear hb1
    go_wp2_with (first | (go_at_call 33; refine CP1.out.mono ?_; rintro e w2 ⟨rfl, hb2⟩; have HB2 := hide (HB.out.trans (hb2.mono HB.out.size)); clear hb2))
    go_ret
    exact ⟨rfl, HB2.out⟩
end Go.Proofs.Ytlhdfaoehamehaa
