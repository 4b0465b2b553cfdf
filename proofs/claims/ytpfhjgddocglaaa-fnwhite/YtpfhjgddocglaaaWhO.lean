/-
  Go's sync.Once in the Replacer's first cells: what the lock, the store and the load do to a Replacer.
-/
import Derived.Test.YtpfhjgddocglaaaWhC
import Derived.Defers
import Derived.Laws.Pointers
import Derived.Laws.LoneSync
import Derived.RegionTactic
import Derived.RegionCalls
import Derived.ChangeAlike
namespace Go.Proofs.Ytpfhjgddocglaaa
open Go.RowKit
set_option linter.unusedVariables false
set_option linter.unusedSimpArgs false
section
variable {w : World} {R : Nat} {a b c : Int} {f s : Value}
theorem rep_set0 (h : Rep w R a b c f s) (x : Int) : Rep (w.setCell ⟨R, 0, none⟩ (.int .u32 x)) R x b c f s := heap_setCell_same w R 0 _ _ _ h
theorem rep_set1 (h : Rep w R a b c f s) (x : Int) : Rep (w.setCell ⟨R, 1, none⟩ (.int .i32 x)) R a x c f s := heap_setCell_same w R 1 _ _ _ h
theorem rep_set3 (h : Rep w R a b c f s) (x : Value) : Rep (w.setCell ⟨R, 3, none⟩ x) R a b c x s := heap_setCell_same w R 3 _ _ _ h
theorem rep_set4 (h : Rep w R a b c f s) (x : Value) : Rep (w.setCell ⟨R, 4, none⟩ x) R a b c f x := heap_setCell_same w R 4 _ _ _ h
theorem rep_lt (h : Rep w R a b c f s) : R < w.heap.size := (Array.getElem?_eq_some_iff.1 h).1
theorem rep_below {w' : World} {B : Nat} (h : Rep w R a b c f s) (hb : Below B w w') (hR : R < B) : Rep w' R a b c f s := (hb.block R hR).trans h
theorem rep_drew (h : Rep w R a b c f s) : Rep w.drew R a b c f s := h
theorem tab_far {G : Nat} {t : Nat → Int} (h : Tab w G t) (p : Addr) (v : Value) (hp : p.block ≠ G) : Tab (w.setCell p v) G t := by
  obtain ⟨cs, h1, h2⟩ := h
  exact ⟨cs, (by rw [← h1]; simp [World.setCell, Array.getElem?_modify, hp]), h2⟩
end
theorem r_disable (w : World) : (callFunc 57 #[]).run Try.prog w = .ok (.value (.tuple #[])) w := run_call_mark0 Try.func57 (by kernel_rfl) (by kernel_rfl) (by kernel_rfl) .disable (by kernel_rfl) w
theorem r_enable (w : World) : (callFunc 59 #[]).run Try.prog w = .ok (.value (.tuple #[])) w := run_call_mark0 Try.func59 (by kernel_rfl) (by kernel_rfl) (by kernel_rfl) .enable (by kernel_rfl) w
theorem r_acquire (a : Addr) (w : World) : (callFunc 60 #[.pointer (some a)]).run Try.prog w = .ok (.value (.tuple #[])) w := run_call_marked Try.func60 (by kernel_rfl) (by kernel_rfl) (by kernel_rfl) .acquire (by kernel_rfl) a w
theorem r_release (a : Addr) (w : World) : (callFunc 62 #[.pointer (some a)]).run Try.prog w = .ok (.value (.tuple #[])) w := run_call_marked Try.func62 (by kernel_rfl) (by kernel_rfl) (by kernel_rfl) .releaseMerge (by kernel_rfl) a w
theorem o_store (p : Addr) (x : Value) (u : FrameMode) (w : World) (hc : w.cell? p = some x) (hz : w.frozen? p = false) :
    CallsD Try.prog 41 #[.pointer (some p), .bool true] u w fun e u' w' => u' = u ∧ (e = .returned (.tuple #[]) ∧ w' = w.drew.setCell p (.int .u32 1)) := by
  have hc' : w.drew.cell? p = some x := by go_simp
  have hz' : w.drew.frozen? p = false := by go_simp
  have hst := run_call_store (P := Try.prog) Try.func52 (by kernel_rfl) (by kernel_rfl) (by kernel_rfl) (by kernel_rfl) (k := .u32) (y := 1) hc' hz'
  go_enter_d Try.func41, Try.ntmps41
  go_wp2
  go_region_calls
  all_goals (go_end0; exact ⟨rfl, rfl⟩)
set_option maxRecDepth 100000 in
set_option maxHeartbeats 4000000 in
theorem o_unlock (p : Addr) (u : FrameMode) (w : World) (hc : w.cell? p = some (.int .i32 1)) (hz : w.frozen? p = false) :
    CallsD Try.prog 40 #[.pointer (some p)] u w fun e u' w' => u' = u ∧ (e = .returned (.tuple #[]) ∧ w' = w.setCell p (.int .i32 0)) := by
  have hd := r_disable
  have he := r_enable
  have hr := r_release
  have hadd := run_call_add (P := Try.prog) Try.func63 (by kernel_rfl) (by kernel_rfl) (by kernel_rfl) .i32 (by kernel_rfl) (y := -1) (s := 0) hc hz (by simp [go_sem]; rfl)
  have hcv := run_convert_to_unsafe (P := Try.prog) (src := 119) (dst := 100) Try.underlying119 Try.underlying100 (by kernel_rfl) hc
  go_enter_d Try.func40, Try.ntmps40
  go_wp2
  go_end0
  go_wp2
  go_end0
  exact ⟨rfl, rfl⟩
set_option maxRecDepth 100000 in
set_option maxHeartbeats 4000000 in
theorem o_lock (p : Addr) (w : World) (hc : w.cell? p = some (.int .i32 0)) (hz : w.frozen? p = false) :
    Calls Try.prog 39 #[.pointer (some p)] w fun e w' => e = .returned (.tuple #[]) ∧ w' = w.setCell p (.int .i32 1) := by
  have hd := r_disable
  have he := r_enable
  have ha := r_acquire
  have hcas := run_call_cas_hit (P := Try.prog) Try.func58 (by kernel_rfl) (by kernel_rfl) (by kernel_rfl) .i32 (by kernel_rfl) (y := 1) hc hz
  have hc' : (w.setCell p (.int .i32 1)).cell? p = some (.int .i32 1) := World.cell?_setCell_same w p _ hc
  have hcv := run_convert_to_unsafe (P := Try.prog) (src := 119) (dst := 100) Try.underlying119 Try.underlying100 (by kernel_rfl) hc'
  go_enter Try.func39, Try.ntmps39
  go_wp2
  first | go_end0 | (simp only [Exit.inBlock, Exit.then]; refine bodyPost_ret (results_none rfl _ _ _) rfl ?_) | refine bodyPost_ret (results_none rfl _ _ _) rfl ?_
  go_wp2
  go_end0
  exact ⟨rfl, rfl⟩
end Go.Proofs.Ytpfhjgddocglaaa
