/-
  Contracts: the text of marks, by the specification.
-/
import Derived.Test.YtdbipaobanjbbaaDoorMkMath
namespace Go.Proofs.YtdbipaobanjbbaaDoor
open Go.RowKit Go.Joins
set_option linter.unusedVariables false
set_option linter.unusedSimpArgs false
theorem ret_s9 {a b : ByteArray} (h : a = b) : Ending.returned (.string a) = .returned (.string b) := by rw [h]
theorem p_sInT (x a b : Int) (w : World) (h : a ≤ x ∧ x ≤ b) : Calls Tryd.prog 38 #[.int .i64 x, .int .i64 a, .int .i64 b] w fun e w' => e = .returned (.bool true) ∧ w' = w := by
  obtain ⟨h1, h2⟩ := h
  go_enter Tryd.func38, Tryd.ntmps38
  go_wp2
  go_ret
  exact ⟨by simp_all, rfl⟩
theorem p_sInF (x a b : Int) (w : World) (h : ¬ (a ≤ x ∧ x ≤ b)) : Calls Tryd.prog 38 #[.int .i64 x, .int .i64 a, .int .i64 b] w fun e w' => e = .returned (.bool false) ∧ w' = w := by
  by_cases h1 : a ≤ x
  · have h2 : ¬ x ≤ b := fun e => h ⟨h1, e⟩
    clear h
    go_enter Tryd.func38, Tryd.ntmps38
    go_wp2
    go_ret
    exact ⟨by simp_all, rfl⟩
  · clear h
    go_enter Tryd.func38, Tryd.ntmps38
    go_wp2
    go_ret
    exact ⟨by simp_all, rfl⟩
theorem s_flag (b : Bool) (c : UInt8) (w : World) : Calls Tryd.prog 21 #[.bool b, .string ⟨#[c]⟩] w fun e w' => e = .returned (.string ⟨(fl b c).toArray⟩) ∧ w' = w := by
  cases b
  · go_enter Tryd.func21, Tryd.ntmps21
    go_wp2
    go_ret
    exact ⟨rfl, rfl⟩
  · go_enter Tryd.func21, Tryd.ntmps21
    go_wp2
    go_ret
    exact ⟨rfl, rfl⟩
set_option maxHeartbeats 2000000 in
theorem s_markOk (g : Bool) (dc : Int) (vl : ByteArray) (nl gv : Bool) (w : World) (hs : vl.size ≤ 1048576) :
    Calls Tryd.prog 20 #[.agg #[.bool g, .int .i64 dc, .string vl, .bool nl, .bool gv]] w fun e w' => e = .returned (.bool (mkB dc vl)) ∧ Below w.heap.size w w' := by
  have CT := hide (fun (w : World) => s_text vl w hs)
  by_cases hd : -1 ≤ dc ∧ dc ≤ 30
  · have HD := hide hd
    have HV : Hid (mkB dc vl = (decide (vl.size ≤ 2500) && plainB vl)) := hide (by unfold mkB escOk; rw [decide_eq_true hd]; rfl)
    clear hd
    cases hp : plainB vl
    · rw [hp] at CT
      go_enter Tryd.func20, Tryd.ntmps20
      go_wp2_with (first | (go_at_call 38; refine (p_sInT _ _ _ _ HD.out).mono ?_; rintro e w2 ⟨rfl, rfl⟩) | (go_at_call 18; refine (CT.out _).mono ?_; rintro e w3 ⟨rfl, hb3⟩; have HB3 := hide (gBox_below hb3); clear hb3))
      go_ret
      exact ⟨ret_bool (by rw [HV.out, hp]; simp), HB3.out⟩
    · rw [hp] at CT
      by_cases hz : vl.size ≤ 2500
      · have hz2 : (vl.size : Int) ≤ 2500 := by omega
        have HC : Hid (∀ (cs : Array Value) (t : TypeId) (w3 : World), Below (w.alloc (.cells cs t)).heap.size (w.alloc (.cells cs t)) w3 → CellsAt w3 w.heap.size cs) := hide (fun cs t w3 h => cellsAt_go (cellsAt_new w cs t) h (by simp))
        go_enter Tryd.func20, Tryd.ntmps20
        go_wp2_with (first | (go_at_call 38; refine (p_sInT _ _ _ _ HD.out).mono ?_; rintro e w2 ⟨rfl, rfl⟩) | (go_at_call 18; refine (CT.out _).mono ?_; rintro e w3 ⟨rfl, hb3⟩; have x2 := cellsAt_cell (HC.out _ _ _ hb3) 2; have HB3 := hide (gBox_below hb3); clear hb3; simp only [List.getElem?_toArray, List.getElem?_cons_succ, List.getElem?_cons_zero] at x2))
        go_ret
        exact ⟨ret_bool (by rw [HV.out, hp, decide_eq_true hz]; rfl), HB3.out⟩
      · have hz2 : ¬ (vl.size : Int) ≤ 2500 := by omega
        have HC : Hid (∀ (cs : Array Value) (t : TypeId) (w3 : World), Below (w.alloc (.cells cs t)).heap.size (w.alloc (.cells cs t)) w3 → CellsAt w3 w.heap.size cs) := hide (fun cs t w3 h => cellsAt_go (cellsAt_new w cs t) h (by simp))
        go_enter Tryd.func20, Tryd.ntmps20
        go_wp2_with (first | (go_at_call 38; refine (p_sInT _ _ _ _ HD.out).mono ?_; rintro e w2 ⟨rfl, rfl⟩) | (go_at_call 18; refine (CT.out _).mono ?_; rintro e w3 ⟨rfl, hb3⟩; have x2 := cellsAt_cell (HC.out _ _ _ hb3) 2; have HB3 := hide (gBox_below hb3); clear hb3; simp only [List.getElem?_toArray, List.getElem?_cons_succ, List.getElem?_cons_zero] at x2))
        go_ret
        exact ⟨ret_bool (by rw [HV.out, decide_eq_false hz, decide_eq_false (show ¬ (vl.size : Int) ≤ 2500 by omega)]; rfl), HB3.out⟩
  · have HD := hide hd
    have HV : Hid (mkB dc vl = false) := hide (by unfold mkB; rw [decide_eq_false hd]; rfl)
    clear hd
    go_enter Tryd.func20, Tryd.ntmps20
    go_wp2_with (first | (go_at_call 38; refine (p_sInF _ _ _ _ HD.out).mono ?_; rintro e w2 ⟨rfl, rfl⟩))
    go_ret
    exact ⟨ret_bool HV.out.symm, (Below.refl _ _).alloc (Nat.le_refl _) _⟩
end Go.Proofs.YtdbipaobanjbbaaDoor
