/-
  Texts put together: WhO, WhP.
-/
import Derived.Test.YtfbahffljhnjbaaGreatDoorD24
import Derived.Defers
import Derived.Laws.Pointers
import Derived.Laws.LoneSync
import Derived.RegionTactic
import Derived.RegionCalls
import Derived.ChangeAlike
/-
  Go's sync.Once in the Replacer's first cells: what the lock, the store and the load do to a Replacer.
-/
namespace Go.Proofs.YtfbahffljhnjbaaGreatDoor
open Go.RowKit
set_option linter.unusedVariables false
set_option linter.unusedSimpArgs false
section
variable {w : World} {R : Nat} {a b c : Int} {f s : Value}
theorem rep_set0 (h : Rep w R a b c f s) (x : Int) : Rep (w.setCell ⟨R, 0, none⟩ (.int .u32 x)) R x b c f s := heap_setCell_same w R 0 _ _ _ h
theorem rep_set1 (h : Rep w R a b c f s) (x : Int) : Rep (w.setCell ⟨R, 1, none⟩ (.int .i32 x)) R a x c f s := heap_setCell_same w R 1 _ _ _ h
theorem rep_set3 (h : Rep w R a b c f s) (x : Value) : Rep (w.setCell ⟨R, 3, none⟩ x) R a b c x s := heap_setCell_same w R 3 _ _ _ h
theorem rep_set4 (h : Rep w R a b c f s) (x : Value) : Rep (w.setCell ⟨R, 4, none⟩ x) R a b c f x := heap_setCell_same w R 4 _ _ _ h
theorem rep_lt (h : Rep w R a b c f s) : R < w.heap.size := (Array.getElem?_eq_some_iff.1 h).1
theorem rep_below {w' : World} {B : Nat} (h : Rep w R a b c f s) (hb : Below B w w') (hR : R < B) : Rep w' R a b c f s := (hb.block R hR).trans h
theorem rep_drew (h : Rep w R a b c f s) : Rep w.drew R a b c f s := h
theorem tab_far {G : Nat} {t : Nat → Int} (h : Tab w G t) (p : Addr) (v : Value) (hp : p.block ≠ G) : Tab (w.setCell p v) G t := by
  obtain ⟨cs, h1, h2⟩ := h
  exact ⟨cs, (by rw [← h1]; simp [World.setCell, Array.getElem?_modify, hp]), h2⟩
end
theorem r_disable (w : World) : (callFunc 201 #[]).run Tryz.prog w = .ok (.value (.tuple #[])) w := run_call_mark0 Tryz.func201 (by kernel_rfl) (by kernel_rfl) (by kernel_rfl) .disable (by kernel_rfl) w
theorem r_enable (w : World) : (callFunc 203 #[]).run Tryz.prog w = .ok (.value (.tuple #[])) w := run_call_mark0 Tryz.func203 (by kernel_rfl) (by kernel_rfl) (by kernel_rfl) .enable (by kernel_rfl) w
theorem r_acquire (a : Addr) (w : World) : (callFunc 204 #[.pointer (some a)]).run Tryz.prog w = .ok (.value (.tuple #[])) w := run_call_marked Tryz.func204 (by kernel_rfl) (by kernel_rfl) (by kernel_rfl) .acquire (by kernel_rfl) a w
theorem r_release (a : Addr) (w : World) : (callFunc 206 #[.pointer (some a)]).run Tryz.prog w = .ok (.value (.tuple #[])) w := run_call_marked Tryz.func206 (by kernel_rfl) (by kernel_rfl) (by kernel_rfl) .releaseMerge (by kernel_rfl) a w
theorem o_store (p : Addr) (x : Value) (u : FrameMode) (w : World) (hc : w.cell? p = some x) (hz : w.frozen? p = false) :
    CallsD Tryz.prog 182 #[.pointer (some p), .bool true] u w fun e u' w' => u' = u ∧ (e = .returned (.tuple #[]) ∧ w' = w.drew.setCell p (.int .u32 1)) := by
  have hc' : w.drew.cell? p = some x := by go_simp
  have hz' : w.drew.frozen? p = false := by go_simp
  have hst := run_call_store (P := Tryz.prog) Tryz.func196 (by kernel_rfl) (by kernel_rfl) (by kernel_rfl) (by kernel_rfl) (k := .u32) (y := 1) hc' hz'
  go_enter_d Tryz.func182, Tryz.ntmps182
  go_wp2
  go_region_calls
  all_goals (go_end0; exact ⟨rfl, rfl⟩)
set_option maxRecDepth 100000 in
set_option maxHeartbeats 4000000 in
theorem o_unlock (p : Addr) (u : FrameMode) (w : World) (hc : w.cell? p = some (.int .i32 1)) (hz : w.frozen? p = false) :
    CallsD Tryz.prog 181 #[.pointer (some p)] u w fun e u' w' => u' = u ∧ (e = .returned (.tuple #[]) ∧ w' = w.setCell p (.int .i32 0)) := by
  have hd := r_disable
  have he := r_enable
  have hr := r_release
  have hadd := run_call_add (P := Tryz.prog) Tryz.func207 (by kernel_rfl) (by kernel_rfl) (by kernel_rfl) .i32 (by kernel_rfl) (y := -1) (s := 0) hc hz (by simp [go_sem]; rfl)
  have hcv := run_convert_to_unsafe (P := Tryz.prog) (src := 265) (dst := 238) Tryz.underlying265 Tryz.underlying238 (by kernel_rfl) hc
  go_enter_d Tryz.func181, Tryz.ntmps181
  go_wp2
  go_end0
  go_wp2
  go_end0
  exact ⟨rfl, rfl⟩
set_option maxRecDepth 100000 in
set_option maxHeartbeats 4000000 in
theorem o_lock (p : Addr) (w : World) (hc : w.cell? p = some (.int .i32 0)) (hz : w.frozen? p = false) :
    Calls Tryz.prog 180 #[.pointer (some p)] w fun e w' => e = .returned (.tuple #[]) ∧ w' = w.setCell p (.int .i32 1) := by
  have hd := r_disable
  have he := r_enable
  have ha := r_acquire
  have hcas := run_call_cas_hit (P := Tryz.prog) Tryz.func202 (by kernel_rfl) (by kernel_rfl) (by kernel_rfl) .i32 (by kernel_rfl) (y := 1) hc hz
  have hc' : (w.setCell p (.int .i32 1)).cell? p = some (.int .i32 1) := World.cell?_setCell_same w p _ hc
  have hcv := run_convert_to_unsafe (P := Tryz.prog) (src := 265) (dst := 238) Tryz.underlying265 Tryz.underlying238 (by kernel_rfl) hc'
  go_enter Tryz.func180, Tryz.ntmps180
  go_wp2
  first | go_end0 | (simp only [Exit.inBlock, Exit.then]; refine bodyPost_ret (results_none rfl _ _ _) rfl ?_) | refine bodyPost_ret (results_none rfl _ _ _) rfl ?_
  go_wp2
  go_end0
  exact ⟨rfl, rfl⟩
end Go.Proofs.YtfbahffljhnjbaaGreatDoor

/-
  The Replacer's Replace: the table is built once, then it replaces.
-/
namespace Go.Proofs.YtfbahffljhnjbaaGreatDoor
open Go.RowKit
set_option linter.unusedVariables false
set_option linter.unusedSimpArgs false
/-- The table, as the Replacer holds it. -/
def tabV (G : Nat) : Value := .iface 233 (.pointer (some ⟨G, 0, none⟩))
/-- The Replacer whose table is built. -/
def Built (a b : Int) (R : Nat) (w w' : World) : Prop := ∃ G, w.heap.size ≤ G ∧ Rep w' R a b 0 (tabV G) (.slice none 0 0) ∧ Tab w' G (tabP 3) ∧ Below R w w'
theorem built_fin {R G : Nat} {w w1 : World} {s : Value} (hR : Rep w R 0 1 0 .nilIface s) (hG : w.heap.size ≤ G) (hT : Tab w1 G (tabP 3)) (hb : Below w.heap.size w w1) :
    Built 0 1 R w ((w1.setCell ⟨R, 3, none⟩ (tabV G)).setCell ⟨R, 4, none⟩ (.slice none 0 0)) := by
  have hl := rep_lt hR
  have h1 := rep_below hR hb hl
  refine ⟨G, hG, rep_set4 (rep_set3 h1 _) _, tab_far (tab_far hT _ _ ?_) _ _ ?_, ((hb.mono (Nat.le_of_lt hl)).setCell (p := ⟨R, 3, none⟩) (Nat.le_refl R) _).setCell (p := ⟨R, 4, none⟩) (Nat.le_refl R) _⟩
  · show R ≠ G
    omega
  · show R ≠ G
    omega
theorem built_done {R : Nat} {w w1 : World} (h : Built 0 1 R (w.setCell ⟨R, 1, none⟩ (.int .i32 1)) w1) : Built 1 0 R w ((w1.drew.setCell ⟨R, 0, none⟩ (.int .u32 1)).setCell ⟨R, 1, none⟩ (.int .i32 0)) := by
  obtain ⟨G, hG, h1, hT, hb⟩ := h
  have hG' : w.heap.size ≤ G := by simpa [World.setCell] using hG
  have hb' : Below R w w1 := ((Below.refl R w).setCell (p := ⟨R, 1, none⟩) (Nat.le_refl R) _).trans hb
  have hne : R ≠ G := by
    intro e
    subst e
    obtain ⟨cs, hc, -⟩ := hT
    unfold Rep at h1
    rw [hc] at h1
    injection h1 with h1
    injection h1 with h1 h2
    exact absurd h2 (by decide)
  exact ⟨G, hG', rep_set1 (rep_set0 (rep_drew h1) 1) 0, tab_far (tab_far (w := w1.drew) hT _ _ hne) _ _ hne, (hb'.drew.setCell (p := ⟨R, 0, none⟩) (Nat.le_refl R) _).setCell (p := ⟨R, 1, none⟩) (Nat.le_refl R) _⟩
set_option maxRecDepth 100000 in
set_option maxHeartbeats 4000000 in
theorem n_once (R g cap : Nat) (B : Nat) (w : World) (hR : Rep w R 0 1 0 .nilIface (.slice (some ⟨g, 0, none⟩) 6 cap)) (ho : w.ownsRow B 9 1 (.slice (some ⟨g, 0, none⟩) 6 cap) 6 sixV) :
    Calls Tryz.prog 130 #[.pointer (some ⟨R, 0, none⟩)] w fun e w' => e = .returned (.tuple #[]) ∧ Built 0 1 R w w' := by
  have HF := hide (fun w1 (hT : Tab w1 w.heap.size (tabP 3)) hb => built_fin hR (Nat.le_refl _) hT hb)
  have HR := hide hR
  have HO := hide ho
  clear hR ho
  go_enter Tryz.func130, Tryz.ntmps130
  go_wp2_with (go_at_call 162; refine (n_build R g cap B w HR.out HO.out).mono ?_; rintro e w1 ⟨rfl, hT, hb⟩; have HQ := hide (HF.out w1 hT hb); have h9 := rep_below HR.out hb (rep_lt HR.out); obtain ⟨r0, r1, r2, r3, r4⟩ := rep_cells h9; have f3 := rep_frozen h9 3; have f4 := rep_frozen h9 4; clear hT hb h9 r0 r1 r2)
  go_end0
  exact ⟨rfl, HQ.out⟩
theorem o_load (p : Addr) (x : Int) (w : World) (hc : w.cell? p = some (.int .u32 x)) :
    Calls Tryz.prog 160 #[.pointer (some p)] w fun e w' => e = .returned (.bool (x != 0)) ∧ w' = w := by
  have hl := run_call_load (P := Tryz.prog) Tryz.func179 (by kernel_rfl) (by kernel_rfl) (by kernel_rfl) .u32 (by kernel_rfl) hc
  go_enter Tryz.func160, Tryz.ntmps160
  go_wp2
  go_ret
  exact ⟨rfl, rfl⟩
end Go.Proofs.YtfbahffljhnjbaaGreatDoor
