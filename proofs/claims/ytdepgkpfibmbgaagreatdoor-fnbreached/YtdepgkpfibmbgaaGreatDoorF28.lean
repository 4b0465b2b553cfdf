/-
  sync.Once's Do and the Replacer's Replace, the first time.
-/
import Derived.Test.YtdepgkpfibmbgaaGreatDoorF27
import Derived.OneCell
import Derived.Handy
namespace Go.Proofs.YtdepgkpfibmbgaaGreatDoor
open Go.RowKit
set_option linter.unusedVariables false
set_option linter.unusedSimpArgs false
set_option maxRecDepth 100000 in
set_option maxHeartbeats 8000000 in
theorem o_slow (R g cap : Nat) (B : Nat) (w : World) (hgR : g < R) (hR : Rep w R 0 0 0 .nilIface (.slice (some ⟨g, 0, none⟩) 6 cap)) (ho : w.ownsRow B 9 1 (.slice (some ⟨g, 0, none⟩) 6 cap) 6 sixV) :
    Calls Tryz.prog 157 #[.pointer (some ⟨R, 0, none⟩), .func (.func 130) #[.pointer (some ⟨R, 0, none⟩)] #[]] w fun e w' => e = .returned (.tuple #[]) ∧ Built 1 0 R w w' := by
  obtain ⟨r0, r1, r2, r3, r4⟩ := rep_cells hR
  have f1 := rep_frozen hR 1
  have h1 := rep_set1 hR 1
  have ho1 : (w.setCell ⟨R, 1, none⟩ (.int .i32 1)).ownsRow B 9 1 (.slice (some ⟨g, 0, none⟩) 6 cap) 6 sixV := ownsRow_setCell_other ho (by
    intro e
    have e2 : some g = some R := e
    injection e2 with e2
    omega) _
  have C1 := hide (n_once R g cap B _ h1 ho1)
  have CL := hide (o_load ⟨R, 0, none⟩ 0 _ (rep_cells h1).1)
  have CK := hide (o_lock ⟨R, 1, none⟩ w r1 f1)
  have hnot : ∀ (x : Bool) (w : World), (Op.unary .not (.bool x)).run Tryz.prog w = .ok (.bool (!x)) w := fun _ _ => rfl
  clear hR ho h1 ho1 r0 r1 r2 r3 r4 f1
  go_enter_defers Tryz.func157, Tryz.ntmps157
  go_wp2_with (first | (go_at_call 168; refine CK.out.mono ?_; rintro e w' ⟨rfl, rfl⟩) | (go_at_call 156; refine CL.out.mono ?_; rintro e w' ⟨rfl, rfl⟩) | (go_at_call 130; refine C1.out.mono ?_; rintro e w1 ⟨rfl, hq⟩; have HQ := hide hq; clear hq))
  obtain ⟨G, hG, hq1, hqT, hqb⟩ := HQ.out
  have q0 := (rep_cells hq1).1
  have q1 := (rep_cells (rep_set0 (rep_drew hq1) 1)).2.1
  have z0 := rep_frozen hq1 0
  have z1 := rep_frozen (rep_set0 (rep_drew hq1) 1) 1
  refine leaves_cons (f := 170) (args := #[.pointer (some ⟨R, 0, none⟩), .bool true]) (by simp) (by simp [go_sem]) ?_
  refine (o_store ⟨R, 0, none⟩ _ .returning _ q0 z0).mono ?_
  rintro e u' w'' ⟨rfl, rfl, rfl⟩
  refine leaves_cons (f := 169) (args := #[.pointer (some ⟨R, 1, none⟩)]) (by simp [settle]) (by simp [go_sem]) ?_
  refine (o_unlock ⟨R, 1, none⟩ _ _ q1 z1).mono ?_
  rintro e u' w'' ⟨rfl, rfl, rfl⟩
  have HD := built_done HQ.out
  simp [Leaves, settle, results, Tryz.results157]
  exact HD
set_option maxRecDepth 100000 in
set_option maxHeartbeats 8000000 in
theorem o_do (R g cap : Nat) (B : Nat) (w : World) (hgR : g < R) (hR : Rep w R 0 0 0 .nilIface (.slice (some ⟨g, 0, none⟩) 6 cap)) (ho : w.ownsRow B 9 1 (.slice (some ⟨g, 0, none⟩) 6 cap) 6 sixV) :
    Calls Tryz.prog 129 #[.pointer (some ⟨R, 0, none⟩), .func (.func 130) #[.pointer (some ⟨R, 0, none⟩)] #[]] w fun e w' => e = .returned (.tuple #[]) ∧ Built 1 0 R w w' := by
  have CL := hide (o_load ⟨R, 0, none⟩ 0 w (rep_cells hR).1)
  have CS := hide (o_slow R g cap B w hgR hR ho)
  have hnot : ∀ (x : Bool) (w : World), (Op.unary .not (.bool x)).run Tryz.prog w = .ok (.bool (!x)) w := fun _ _ => rfl
  clear hR ho
  go_enter Tryz.func129, Tryz.ntmps129
  go_wp2_with (first | (go_at_call 156; refine CL.out.mono ?_; rintro e w' ⟨rfl, rfl⟩) | (go_at_call 157; refine CS.out.mono ?_; rintro e w1 ⟨rfl, hq⟩; have HQ := hide hq; clear hq))
  go_end0
  exact ⟨rfl, HQ.out⟩
set_option maxRecDepth 100000 in
set_option maxHeartbeats 8000000 in
theorem r_repl (R g cap : Nat) (B : Nat) (s : ByteArray) (w : World) (hs : s.size ≤ 1048576) (hgR : g < R) (hR : Rep w R 0 0 0 .nilIface (.slice (some ⟨g, 0, none⟩) 6 cap)) (ho : w.ownsRow B 9 1 (.slice (some ⟨g, 0, none⟩) 6 cap) 6 sixV) :
    Calls Tryz.prog 96 #[.pointer (some ⟨R, 0, none⟩), .string s] w fun e w' => e = .returned (.string ⟨(reB s.data.toList).toArray⟩) ∧ Below R w w' := by
  have hl := rep_lt hR
  have CS := hide (o_do R g cap B w hgR hR ho)
  have hme : ∀ (G : Nat) (w : World), (Go.method (Tryz.prog.types.size + Made.depth) 218 (.pointer (some ⟨G, 0, none⟩)) "Replace").run Tryz.prog w = .ok (225, .pointer (some ⟨G, 0, none⟩)) w := fun _ _ => by kernel_rfl
  have hmf : ∀ (fn : Fn) (first cap : Array Value) (w : World), (Instr.makeFunc fn first cap).run Tryz.prog w = .ok (.func fn first cap) w := fun _ _ _ _ => rfl
  clear hR ho
  go_enter Tryz.func96, Tryz.ntmps96
  go_wp2_with (first | (go_at_call 129; refine CS.out.mono ?_; rintro e w1 ⟨rfl, hq⟩; obtain ⟨G, hG, hq1, hqT, hqb⟩ := hq; have r3 := (rep_cells hq1).2.2.2.1; unfold tabV at r3; have CB := hide (b_repl G s w1 hs hqT); have HB := hide hqb; have HL := hide (hqb.size); clear hq1 hqT hqb) | (go_at_call 225; refine CB.out.mono ?_; rintro e w2 ⟨rfl, hb2⟩; have HB2 := hide (HB.out.trans (hb2.mono (Nat.le_of_lt (Nat.lt_of_lt_of_le hl HL.out)))); clear hb2))
  go_ret
  exact ⟨rfl, HB2.out⟩
end Go.Proofs.YtdepgkpfibmbgaaGreatDoor
