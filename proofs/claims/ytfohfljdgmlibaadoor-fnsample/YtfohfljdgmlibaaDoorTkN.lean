/-
  Contract: a model that is not right has ways that lead nowhere (the program's).
-/
import Derived.Test.YtfohfljdgmlibaaDoorTkO
namespace Go.Proofs.YtfohfljdgmlibaaDoor
open Go.RowKit Go.Joins
set_option linter.unusedVariables false
set_option linter.unusedSimpArgs false
set_option maxRecDepth 100000 in
set_option maxHeartbeats 8000000 in
theorem i_tracksN (D : Pn) (n : Nat) (a : Option Addr) (cap : Nat) (w : World) (hD : D.n = n) (hz : pnTot D ≤ 1048576) (hr : PnAt w a D w.heap.size) (hpk : pkB D = false) :
    Calls Tryd.prog 34 #[.slice a n cap] w fun r w' => r = .returned (.tuple #[.agg (tkN (.slice none 0 0)), .bool false]) ∧ Below w.heap.size w w' := by
  have HP := hide (fun (W : World) (hW : Below w.heap.size w W) => i_particle D n a cap W hD hz (pnAt_up (pnAt_go hr hW) hW.size))
  rw [hpk] at HP
  clear hr hD hz hpk
  have hz := tk_zero
  have hne := tkN_ne
  have HX := hide (boxes2 w #[.slice a n cap] (tkN (.slice none 0 0)) 24 55)
  have hsz : (Tryd.prog.info? 55).map (·.size) = some (tkN (.slice none 0 0)).size := by unfold tkN; rw [tkC_size]; exact tk_size
  have hall : (tkN (.slice none 0 0)).all (·.oneCell') = true := tkC_one none 0 0 _ _
  go_enter Tryd.func34, Tryd.ntmps34
  go_wp2_with (first
    | (go_at_call 53; refine (HP.out _ HX.out.2.2).mono ?_; rintro r w1 ⟨rfl, hb1⟩; have HB1 := hide (HX.out.2.2.trans (hb1.mono HX.out.2.2.size)); obtain ⟨tr9, h5⟩ := cellsAt_go HX.out.2.1 hb1 (cellsAt_lt HX.out.2.1); have H5 := hide (setRow_heap w1 _ _ (tkN (.slice none 0 0)) _ _ h5); clear hb1)
    | (refine wpList_store_row rfl 55 _ _ rfl (w.heap.size + 1) _ rfl rfl tr9 _ h5 hsz rfl hall ?_))
  exact bodyPost_ret (v := .tuple #[.agg (tkN (.slice none 0 0)), .bool false]) (by rw [results_cell_tmp Tryd.results34]; simp [asAddr, run_loadVar_row _ (w.heap.size + 1) tr9 55 (tkN (.slice none 0 0)) (0, 0) _ H5.out Tryd.underlying55 rfl hsz]) rfl ⟨rfl, below_setRow HB1.out (by omega) _⟩
end Go.Proofs.YtfohfljdgmlibaaDoor
