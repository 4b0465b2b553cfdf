/-
  Contracts: the text of an element, by the program.
-/
import Derived.Test.YtlmafkcdhphjcaaGreatDoorKdMath
namespace Go.Proofs.YtlmafkcdhphjcaaGreatDoor
open Go.RowKit Go.Joins
set_option linter.unusedVariables false
set_option linter.unusedSimpArgs false
def hasB' (D : Dc) (x : Int) : Bool := docokB D && decide (0 ≤ x ∧ x ≤ (D.n : Int) - 1)
set_option maxHeartbeats 2000000 in
theorem i_hasItem (D : Dc) (n : Nat) (a : Option Addr) (cap : Nat) (x : Int) (w : World) (hD : D.n = n) (hz : dcTot D ≤ 1048576) (hr : DcAt w a D w.heap.size) (hT : Tabs w) :
    Calls Tryz.prog 37 #[.slice a n cap, .int .i64 x] w fun e w' => e = .returned (.bool (hasB' D x)) ∧ Below w.heap.size w w' := by
  have HD := hide hD
  have hn : n ≤ 1048576 := by rw [← hD]; exact (dc_sz hz).1
  have CD := hide (i_docok D n a cap w hD hz hr hT)
  clear hr hD hz hT
  cases hd : docokB D
  · have HW : Hid (hasB' D x = false) := hide (by unfold hasB'; rw [hd]; rfl)
    rw [hd] at CD
    go_enter Tryz.func37, Tryz.ntmps37
    go_wp2_with (first | (go_at_call 52; refine CD.out.mono ?_; rintro e w1 ⟨rfl, hb1⟩; have HB := hide hb1; clear hb1))
    go_ret
    exact ⟨ret_bool HW.out.symm, HB.out⟩
  · rw [hd] at CD
    by_cases h0 : 0 ≤ x
    · by_cases h1 : x < (n : Int)
      · have HW : Hid (hasB' D x = true) := hide (by unfold hasB'; rw [hd, HD.out, decide_eq_true ⟨h0, by omega⟩]; rfl)
        go_enter Tryz.func37, Tryz.ntmps37
        go_wp2_with (first | (go_at_call 52; refine CD.out.mono ?_; rintro e w1 ⟨rfl, hb1⟩; have HB := hide hb1; clear hb1))
        go_ret
        exact ⟨ret_bool (by rw [HW.out]; try simp_all), HB.out⟩
      · have HW : Hid (hasB' D x = false) := hide (by unfold hasB'; rw [hd, HD.out, decide_eq_false (by omega)]; rfl)
        go_enter Tryz.func37, Tryz.ntmps37
        go_wp2_with (first | (go_at_call 52; refine CD.out.mono ?_; rintro e w1 ⟨rfl, hb1⟩; have HB := hide hb1; clear hb1))
        go_ret
        exact ⟨ret_bool (by rw [HW.out]; try simp_all), HB.out⟩
    · have HW : Hid (hasB' D x = false) := hide (by unfold hasB'; rw [hd, HD.out, decide_eq_false (by omega)]; rfl)
      go_enter Tryz.func37, Tryz.ntmps37
      go_wp2_with (first | (go_at_call 52; refine CD.out.mono ?_; rintro e w1 ⟨rfl, hb1⟩; have HB := hide hb1; clear hb1))
      go_ret
      exact ⟨ret_bool (by rw [HW.out]; try simp_all), HB.out⟩
theorem txI_no {D : Dc} {x : Int} (h : txOk D x = false) : txV D x = ⟨#[]⟩ := by unfold txV; rw [h]; rfl
theorem txI_yes {D : Dc} {x : Int} (h : txOk D x = true) : txV D x = txF D x D.n := by unfold txV; rw [h]; rfl
theorem txI_ret {a a' : ByteArray} {b b' : Bool} (h1 : a = a') (h2 : b = b') : Ending.returned (.tuple #[.string a, .bool b]) = .returned (.tuple #[.string a', .bool b']) := by rw [h1, h2]
end Go.Proofs.YtlmafkcdhphjcaaGreatDoor
