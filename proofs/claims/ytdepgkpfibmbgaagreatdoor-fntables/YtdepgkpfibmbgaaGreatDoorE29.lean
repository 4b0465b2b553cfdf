/-
  The Replacer's Replace: the table is built once, then it replaces.
-/
import Derived.Test.YtdepgkpfibmbgaaGreatDoorE28
namespace Go.Proofs.YtdepgkpfibmbgaaGreatDoor
open Go.RowKit
set_option linter.unusedVariables false
set_option linter.unusedSimpArgs false
/-- The table, as the Replacer holds it. -/
def tabV (G : Nat) : Value := .iface 218 (.pointer (some ⟨G, 0, none⟩))
/-- The Replacer whose table is built. -/
def Built (a b : Int) (R : Nat) (w w' : World) : Prop := ∃ G, w.heap.size ≤ G ∧ Rep w' R a b 0 (tabV G) (.slice none 0 0) ∧ Tab w' G (tabP 3) ∧ Below R w w'
theorem built_fin {R G : Nat} {w w1 : World} {s : Value} (hR : Rep w R 0 1 0 .nilIface s) (hG : w.heap.size ≤ G) (hT : Tab w1 G (tabP 3)) (hb : Below w.heap.size w w1) :
    Built 0 1 R w ((w1.setCell ⟨R, 3, none⟩ (tabV G)).setCell ⟨R, 4, none⟩ (.slice none 0 0)) := by
  have hl := rep_lt hR
  have h1 := rep_below hR hb hl
  refine ⟨G, hG, rep_set4 (rep_set3 h1 _) _, tab_far (tab_far hT _ _ ?_) _ _ ?_, ((hb.mono (Nat.le_of_lt hl)).setCell (p := ⟨R, 3, none⟩) (Nat.le_refl R) _).setCell (p := ⟨R, 4, none⟩) (Nat.le_refl R) _⟩
  · show R ≠ G
    omega
  · show R ≠ G
    omega
theorem built_done {R : Nat} {w w1 : World} (h : Built 0 1 R (w.setCell ⟨R, 1, none⟩ (.int .i32 1)) w1) : Built 1 0 R w ((w1.drew.setCell ⟨R, 0, none⟩ (.int .u32 1)).setCell ⟨R, 1, none⟩ (.int .i32 0)) := by
  obtain ⟨G, hG, h1, hT, hb⟩ := h
  have hG' : w.heap.size ≤ G := by simpa [World.setCell] using hG
  have hb' : Below R w w1 := ((Below.refl R w).setCell (p := ⟨R, 1, none⟩) (Nat.le_refl R) _).trans hb
  have hne : R ≠ G := by
    intro e
    subst e
    obtain ⟨cs, hc, -⟩ := hT
    unfold Rep at h1
    rw [hc] at h1
    injection h1 with h1
    injection h1 with h1 h2
    exact absurd h2 (by decide)
  exact ⟨G, hG', rep_set1 (rep_set0 (rep_drew h1) 1) 0, tab_far (tab_far (w := w1.drew) hT _ _ hne) _ _ hne, (hb'.drew.setCell (p := ⟨R, 0, none⟩) (Nat.le_refl R) _).setCell (p := ⟨R, 1, none⟩) (Nat.le_refl R) _⟩
set_option maxRecDepth 100000 in
set_option maxHeartbeats 4000000 in
theorem n_once (R g cap : Nat) (B : Nat) (w : World) (hR : Rep w R 0 1 0 .nilIface (.slice (some ⟨g, 0, none⟩) 6 cap)) (ho : w.ownsRow B 9 1 (.slice (some ⟨g, 0, none⟩) 6 cap) 6 sixV) :
    Calls Tryz.prog 130 #[.pointer (some ⟨R, 0, none⟩)] w fun e w' => e = .returned (.tuple #[]) ∧ Built 0 1 R w w' := by
  have HF := hide (fun w1 (hT : Tab w1 w.heap.size (tabP 3)) hb => built_fin hR (Nat.le_refl _) hT hb)
  have HR := hide hR
  have HO := hide ho
  clear hR ho
  go_enter Tryz.func130, Tryz.ntmps130
  go_wp2_with (go_at_call 158; refine (n_build R g cap B w HR.out HO.out).mono ?_; rintro e w1 ⟨rfl, hT, hb⟩; have HQ := hide (HF.out w1 hT hb); have h9 := rep_below HR.out hb (rep_lt HR.out); obtain ⟨r0, r1, r2, r3, r4⟩ := rep_cells h9; have f3 := rep_frozen h9 3; have f4 := rep_frozen h9 4; clear hT hb h9 r0 r1 r2)
  go_end0
  exact ⟨rfl, HQ.out⟩
theorem o_load (p : Addr) (x : Int) (w : World) (hc : w.cell? p = some (.int .u32 x)) :
    Calls Tryz.prog 156 #[.pointer (some p)] w fun e w' => e = .returned (.bool (x != 0)) ∧ w' = w := by
  have hl := run_call_load (P := Tryz.prog) Tryz.func167 (by kernel_rfl) (by kernel_rfl) (by kernel_rfl) .u32 (by kernel_rfl) hc
  go_enter Tryz.func156, Tryz.ntmps156
  go_wp2
  go_ret
  exact ⟨rfl, rfl⟩
end Go.Proofs.YtdepgkpfibmbgaaGreatDoor
