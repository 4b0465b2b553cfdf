/-
  Contract of Go's strings.Replacer at six strings of one byte each: the table of 256 bytes.
-/
import Derived.Test.YtpakkllcemcfdaaGreatDoorY23
import Derived.Deep.WholeRow
namespace Go.Proofs.YtpakkllcemcfdaaGreatDoor
open Go.RowKit
set_option linter.unusedVariables false
set_option linter.unusedSimpArgs false
section
variable {w w' : World} {R : Nat} {a b c : Int} {f s : Value}
theorem rep_cells (h : Rep w R a b c f s) : w.cell? ⟨R, 0, none⟩ = some (.int .u32 a) ∧ w.cell? ⟨R, 1, none⟩ = some (.int .i32 b) ∧ w.cell? ⟨R, 2, none⟩ = some (.int .u32 c) ∧ w.cell? ⟨R, 3, none⟩ = some f ∧ w.cell? ⟨R, 4, none⟩ = some s := by
  have e : ∀ i, w.cell? ⟨R, i, none⟩ = (#[.int .u32 a, .int .i32 b, .int .u32 c, f, s] : Array Value)[i]? := fun i => by rw [cell_of_row w R i _ _ (0, 0) h]
  exact ⟨e 0, e 1, e 2, e 3, e 4⟩
theorem rep_frozen (h : Rep w R a b c f s) (i : Nat) : w.frozen? ⟨R, i, none⟩ = false := frozen_of_row w R i _ _ h
end
/-- The table: the first i bytes stand for themselves. -/
def tabI (i : Nat) (j : Nat) : Int := if j < i then (j : Int) else 0
/-- What a byte is replaced by, when the last q pairs are laid. -/
def tabP (q : Nat) (j : Nat) : Int := if 1 ≤ q ∧ j = 13 then 32 else if 2 ≤ q ∧ j = 10 then 32 else if 3 ≤ q ∧ j = 9 then 32 else (j : Int)
theorem tabI_next (i j : Nat) : tabI (i + 1) j = if j = i then (i : Int) else tabI i j := by
  unfold tabI
  by_cases e : j = i
  · subst e; simp
  · rw [if_neg e]
    have : (j < i + 1) ↔ (j < i) := by omega
    simp only [this]
def Tab (w : World) (G : Nat) (f : Nat → Int) : Prop := ∃ cs : Array Value, w.heap[G]? = some (.cells cs 161 (0, 0)) ∧ cs.size = 256 ∧ ∀ j, j < 256 → cs[j]? = some (.int .u8 (f j))
section
variable {w : World} {G : Nat} {f g : Nat → Int}
theorem tab_cell (h : Tab w G f) (j : Nat) (hj : j < 256) : w.cell? ⟨G, j, none⟩ = some (.int .u8 (f j)) := by
  obtain ⟨cs, h1, h2, h3⟩ := h
  rw [cell_of_row w G j _ _ (0, 0) h1]
  exact h3 j hj
theorem tab_frozen (h : Tab w G f) (j : Nat) : w.frozen? ⟨G, j, none⟩ = false := by
  obtain ⟨cs, h1, -⟩ := h
  exact frozen_of_row w G j _ _ h1
theorem tab_set (h : Tab w G f) (i : Nat) (x : Int) (hi : i < 256) (hg : ∀ j, j < 256 → g j = if j = i then x else f j) : Tab (w.setCell ⟨G, i, none⟩ (.int .u8 x)) G g := by
  obtain ⟨cs, h1, h2, h3⟩ := h
  refine ⟨_, heap_setCell_same w G i _ _ (.int .u8 x) h1, by simp [h2], fun j hj => ?_⟩
  rw [hg j hj]
  by_cases e : j = i
  · subst e
    rw [if_pos rfl]
    simp [h2, hi]
  · rw [if_neg e]
    have h9 := h3 j hj
    rw [Array.getElem?_setIfInBounds_ne (fun h : i = j => e h.symm)]
    exact h9
theorem tab_lt (h : Tab w G f) : G < w.heap.size := by
  obtain ⟨cs, h1, -⟩ := h
  exact (Array.getElem?_eq_some_iff.1 h1).1
theorem tab_congr (h : Tab w G f) (hg : ∀ j, j < 256 → g j = f j) : Tab w G g := by
  obtain ⟨cs, h1, h2, h3⟩ := h
  exact ⟨cs, h1, h2, fun j hj => by rw [hg j hj]; exact h3 j hj⟩
end
theorem tab_zero (w : World) (cs : Array Value) (h1 : cs.size = 256) (h2 : ∀ j, j < 256 → cs[j]? = some (.int .u8 0)) : Tab (w.alloc (.cells cs 161)) w.heap.size (tabI 0) := ⟨cs, heap_alloc_new w _, h1, fun j hj => by rw [h2 j hj]; rfl⟩
def zB : Array Value := Array.replicate 256 (.int .u8 0)
theorem zB_info : (Tryz.prog.info? 161).map (fun i => (i.zero, i.size)) = some (some (.agg zB), 256) := by kernel_rfl
theorem zB_zero : ∀ w, (zeroValue 161).run Tryz.prog w = .ok (.agg zB) w := (zero_of_info zB_info).1
theorem zB_size : zB.size = 256 := by simp [zB]
theorem zB_at (j : Nat) (h : j < 256) : zB[j]? = some (.int .u8 0) := by simp [zB, Array.getElem?_replicate, h]
theorem zB_one : zB.all (·.oneCell') = true := by kernel_rfl
set_option maxRecDepth 100000 in
set_option maxHeartbeats 8000000 in
theorem n_build (R g cap : Nat) (B : Nat) (w : World) (hR : Rep w R 0 1 0 .nilIface (.slice (some ⟨g, 0, none⟩) 6 cap)) (ho : w.ownsRow B 9 1 (.slice (some ⟨g, 0, none⟩) 6 cap) 6 sixV) :
    Calls Tryz.prog 99 #[.pointer (some ⟨R, 0, none⟩)] w fun e w' => e = .returned (.iface 162 (.pointer (some ⟨w.heap.size, 0, none⟩))) ∧ Tab w' w.heap.size (tabP 3) ∧ Below w.heap.size w w' := by
  obtain ⟨r0, r1, r2, r3, r4⟩ := rep_cells hR
  have hg := (ho.lt g rfl).2
  have c0 : w.cell? ⟨g, 0, none⟩ = some (.string ⟨#[9]⟩) := ho.cellAt 0 (by omega)
  have c1 : w.cell? ⟨g, 1, none⟩ = some (.string ⟨#[32]⟩) := ho.cellAt 1 (by omega)
  have c2 : w.cell? ⟨g, 2, none⟩ = some (.string ⟨#[10]⟩) := ho.cellAt 2 (by omega)
  have c3 : w.cell? ⟨g, 3, none⟩ = some (.string ⟨#[32]⟩) := ho.cellAt 3 (by omega)
  have c4 : w.cell? ⟨g, 4, none⟩ = some (.string ⟨#[13]⟩) := ho.cellAt 4 (by omega)
  have c5 : w.cell? ⟨g, 5, none⟩ = some (.string ⟨#[32]⟩) := ho.cellAt 5 (by omega)
  clear hR ho
  go_enter Tryz.func99, Tryz.ntmps99
  go_wp2_with fail
  go_loopw [4, 5] (fun v4 v5 wr => ∃ i : Nat, i ≤ 3 ∧ v4 = .bool true ∧ v5 = .int .i64 (2 * (i : Int)) ∧ wr = w) (fun _ v5 _ => 6 - (intOf v5).toNat)
  case atStart => exact ⟨0, by omega, rfl, rfl, rfl⟩
  case round =>
    obtain ⟨i, hi, rfl, rfl, hw⟩ := hrel
    rw [hw]
    clear hw
    by_cases hlt : i < 3
    · rcases (show i = 0 ∨ i = 1 ∨ i = 2 by omega) with e | e | e
      all_goals
        subst e
        go_wp2
        go_roundw
        case rel => first | exact ⟨1, by omega, rfl, rfl, by first | rfl | trivial⟩ | exact ⟨2, by omega, rfl, rfl, by first | rfl | trivial⟩ | exact ⟨3, by omega, rfl, rfl, by first | rfl | trivial⟩
        case measure => simp [intOf]
    · have e : i = 3 := by omega
      subst e
      have hz := zB_zero
      have hsz : (Tryz.prog.info? 161).map (·.size) = some zB.size := by rw [zB_size]; exact (zero_of_info zB_info).2
      have HT0 := hide (tab_zero w zB zB_size zB_at)
      have HB0 : Hid (Below w.heap.size w (w.alloc (.cells zB 161))) := hide ((Below.refl _ _).alloc (Nat.le_refl _) _)
      have HC := hide (And.intro hg (And.intro c0 (And.intro c1 (And.intro c2 (And.intro c3 (And.intro c4 c5))))))
      clear c0 c1 c2 c3 c4 c5 hg r0 r1 r2 r3 r4
      go_wp2_with (refine wpList_store_row rfl 161 _ _ rfl w.heap.size zB rfl rfl 161 _ (heap_alloc_new w _) hsz rfl zB_one ?_; rw [World.setRow_alloc_new])
      go_loopw [7, 61] (fun v7 v61 wx => ∃ i : Nat, i ≤ 256 ∧ v61 = .int .i64 i ∧ Hid (Tab wx w.heap.size (tabI i)) ∧ Hid (Below w.heap.size w wx)) (fun _ v61 _ => 256 - (intOf v61).toNat)
      case atStart => exact ⟨0, by omega, rfl, HT0, HB0⟩
      case round =>
        clear HT0 HB0
        obtain ⟨i, hi, rfl, HT, HB⟩ := hrel
        by_cases hlt : i < 256
        · have hii : (i : Int) < 256 := by omega
          have ci := tab_cell HT.out i hlt
          have fi := tab_frozen HT.out i
          have hw8 : IntKind.u8.wrap (i : Int) = (i : Int) := by
            unfold IntKind.wrap
            rw [show IntKind.u8.signed = false from rfl, show IntKind.u8.bits = 8 from rfl]
            simp
            omega
          have HT2 := hide (tab_set (g := tabI (i + 1)) HT.out i (i : Int) hlt (fun j _ => tabI_next i j))
          have HB2 := hide (HB.out.setCell (p := ⟨w.heap.size, i, none⟩) (Nat.le_refl _) (.int .u8 (i : Int)))
          go_wp2
          go_roundw
          case rel => exact ⟨i + 1, by omega, by go_num, HT2, HB2⟩
          case measure => simp [intOf]; omega
        · have e : i = 256 := by omega
          subst e
          have HTP : Hid (Tab wr w.heap.size (tabP 0)) := hide (tab_congr HT.out (fun j hj => by unfold tabI tabP; simp [hj]))
          clear HT
          go_wp2_with fail
          go_loopw [8, 9, 10] (fun v8 v9 v10 wx => ∃ q : Nat, q ≤ 3 ∧ v8 = .int .i64 (4 - 2 * (q : Int)) ∧ Hid (Tab wx w.heap.size (tabP q)) ∧ Hid (Below w.heap.size w wx)) (fun v8 _ _ _ => (intOf v8 + 2).toNat)
          case atStart => exact ⟨0, by omega, rfl, HTP, HB⟩
          case round =>
            clear HTP HB
            obtain ⟨q, hq, rfl, HT, HB⟩ := hrel
            obtain ⟨hg, c0, c1, c2, c3, c4, c5⟩ := HC.out
            have d0 := (HB.out.cell (p := ⟨g, 0, none⟩) hg).trans c0
            have d1 := (HB.out.cell (p := ⟨g, 1, none⟩) hg).trans c1
            have d2 := (HB.out.cell (p := ⟨g, 2, none⟩) hg).trans c2
            have d3 := (HB.out.cell (p := ⟨g, 3, none⟩) hg).trans c3
            have d4 := (HB.out.cell (p := ⟨g, 4, none⟩) hg).trans c4
            have d5 := (HB.out.cell (p := ⟨g, 5, none⟩) hg).trans c5
            clear c0 c1 c2 c3 c4 c5
            have x13 : ∀ W : World, (Instr.index 9 (.string ⟨#[13]⟩) (.int .i64 0)).run Tryz.prog W = .ok (.int .u8 13) W := fun W => by rfl
            have x10 : ∀ W : World, (Instr.index 9 (.string ⟨#[10]⟩) (.int .i64 0)).run Tryz.prog W = .ok (.int .u8 10) W := fun W => by rfl
            have x9 : ∀ W : World, (Instr.index 9 (.string ⟨#[9]⟩) (.int .i64 0)).run Tryz.prog W = .ok (.int .u8 9) W := fun W => by rfl
            have x32 : ∀ W : World, (Instr.index 9 (.string ⟨#[32]⟩) (.int .i64 0)).run Tryz.prog W = .ok (.int .u8 32) W := fun W => by rfl
            rcases (show q = 0 ∨ q = 1 ∨ q = 2 ∨ q = 3 by omega) with e | e | e | e
            · subst e
              have ci := tab_cell HT.out 13 (by omega)
              have fi := tab_frozen HT.out 13
              have HT2 := hide (tab_set (g := tabP 1) HT.out 13 32 (by omega) (fun j hj => by unfold tabP; by_cases e : j = 13 <;> simp [e]))
              have HB2 := hide (HB.out.setCell (p := ⟨w.heap.size, 13, none⟩) (Nat.le_refl _) (.int .u8 32))
              go_wp2
              go_roundw
              case rel => exact ⟨1, by omega, rfl, HT2, HB2⟩
              case measure => simp [intOf]
            · subst e
              have ci := tab_cell HT.out 10 (by omega)
              have fi := tab_frozen HT.out 10
              have HT2 := hide (tab_set (g := tabP 2) HT.out 10 32 (by omega) (fun j hj => by unfold tabP; by_cases e : j = 13 <;> by_cases e2 : j = 10 <;> simp [e, e2]))
              have HB2 := hide (HB.out.setCell (p := ⟨w.heap.size, 10, none⟩) (Nat.le_refl _) (.int .u8 32))
              go_wp2
              go_roundw
              case rel => exact ⟨2, by omega, rfl, HT2, HB2⟩
              case measure => simp [intOf]
            · subst e
              have ci := tab_cell HT.out 9 (by omega)
              have fi := tab_frozen HT.out 9
              have HT2 := hide (tab_set (g := tabP 3) HT.out 9 32 (by omega) (fun j hj => by unfold tabP; by_cases e : j = 13 <;> by_cases e2 : j = 10 <;> by_cases e3 : j = 9 <;> simp [e, e2, e3]))
              have HB2 := hide (HB.out.setCell (p := ⟨w.heap.size, 9, none⟩) (Nat.le_refl _) (.int .u8 32))
              go_wp2
              go_roundw
              case rel => exact ⟨3, by omega, rfl, HT2, HB2⟩
              case measure => simp [intOf]
            · subst e
              go_wp2
              go_ret
              exact ⟨rfl, HT.out, HB.out⟩
end Go.Proofs.YtpakkllcemcfdaaGreatDoor
