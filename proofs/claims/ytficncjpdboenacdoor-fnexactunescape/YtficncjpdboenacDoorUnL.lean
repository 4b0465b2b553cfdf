/-
  The walk of FnExactUnescape.
-/
import Derived.Test.YtficncjpdboenacDoorUnW
namespace Go.Proofs.YtficncjpdboenacDoor
open Go.RowKit
set_option linter.unusedVariables false
set_option linter.unusedSimpArgs false
set_option maxHeartbeats 2000000 in
theorem un_walk (s : ByteArray) (w : World) (hs : s.size ≤ maxLen) (hsh : w.ShapedOpen Tryd.prog) (hT : Tabs w) :
    Calls Tryd.prog 3 #[.string s] w fun e w' => e = .returned (.bool true) ∧ Below w.heap.size w w' := by
  unfold maxLen at hs
  obtain ⟨m, hm⟩ : ∃ m, w.cell? ⟨2, 0, none⟩ = some (.int .i64 m) := Tryd.laysM145.s1_3 w hsh
  clear hsh
  have H2 := World.block_lt_of_cell? w _ hm
  have HM := hide hm
  clear hm
  by_cases hbig : s.size ≤ 1048576
  · have hb2 : (s.size : Int) ≤ 1048576 := by omega
    have HT := hide hT
    have CS := hide (s_unescape s w hbig)
    have CI := hide (fun (w : World) (h : Tabs w) (hm : w.cell? ⟨2, 0, none⟩ = some (.int .i64 m)) => i_unescape s w m hbig h hm)
    obtain ⟨V, hV⟩ : ∃ V, unV s = V := ⟨_, rfl⟩
    obtain ⟨B, hB⟩ : ∃ B, unOk s = B := ⟨_, rfl⟩
    rw [hV, hB] at CS CI
    clear hT hbig hV hB
    go_enter Tryd.func3, Tryd.ntmps3
    go_wp2_with fail
    refine CS.out.mono ?_
    rintro e w1 ⟨rfl, hb1⟩
    have HB1 := hide hb1
    clear hb1
    go_wp2_with fail
    refine (CI.out _ (un_tabs HT.out HB1.out) ((HB1.out.cell (p := ⟨2, 0, none⟩) H2).trans HM.out)).mono ?_
    rintro e w2 ⟨rfl, hb3⟩
    have HB2 := hide (HB1.out.trans (hb3.mono HB1.out.size))
    clear hb3
    go_wp2
    go_ret
    exact ⟨rfl, HB2.out⟩
  · have hb2 : (1048576 : Int) < (s.size : Int) := by omega
    go_enter Tryd.func3, Tryd.ntmps3
    go_wp2
    go_ret
    exact ⟨rfl, Below.refl _ _⟩
end Go.Proofs.YtficncjpdboenacDoor
