/-
  Texts put together: WhB, WhC, WhO, WhP.
-/
import Derived.Test.YtdepgkpfibmbgaaGreatDoorF26
import Derived.Deep.WholeRow
import Derived.Laws.IdiomStrings
import Derived.Defers
import Derived.Laws.Pointers
import Derived.Laws.LoneSync
import Derived.RegionTactic
import Derived.RegionCalls
import Derived.ChangeAlike
/-
  Contract of Go's strings.Replacer at six strings of one byte each: the table of 256 bytes.
-/
namespace Go.Proofs.YtdepgkpfibmbgaaGreatDoor
open Go.RowKit
set_option linter.unusedVariables false
set_option linter.unusedSimpArgs false
section
variable {w w' : World} {R : Nat} {a b c : Int} {f s : Value}
theorem rep_cells (h : Rep w R a b c f s) : w.cell? ⟨R, 0, none⟩ = some (.int .u32 a) ∧ w.cell? ⟨R, 1, none⟩ = some (.int .i32 b) ∧ w.cell? ⟨R, 2, none⟩ = some (.int .u32 c) ∧ w.cell? ⟨R, 3, none⟩ = some f ∧ w.cell? ⟨R, 4, none⟩ = some s := by
  have e : ∀ i, w.cell? ⟨R, i, none⟩ = (#[.int .u32 a, .int .i32 b, .int .u32 c, f, s] : Array Value)[i]? := fun i => by rw [cell_of_row w R i _ _ (0, 0) h]
  exact ⟨e 0, e 1, e 2, e 3, e 4⟩
theorem rep_frozen (h : Rep w R a b c f s) (i : Nat) : w.frozen? ⟨R, i, none⟩ = false := frozen_of_row w R i _ _ h
end
/-- The table: the first i bytes stand for themselves. -/
def tabI (i : Nat) (j : Nat) : Int := if j < i then (j : Int) else 0
/-- What a byte is replaced by, when the last q pairs are laid. -/
def tabP (q : Nat) (j : Nat) : Int := if 1 ≤ q ∧ j = 13 then 32 else if 2 ≤ q ∧ j = 10 then 32 else if 3 ≤ q ∧ j = 9 then 32 else (j : Int)
theorem tabI_next (i j : Nat) : tabI (i + 1) j = if j = i then (i : Int) else tabI i j := by
  unfold tabI
  by_cases e : j = i
  · subst e; simp
  · rw [if_neg e]
    have : (j < i + 1) ↔ (j < i) := by omega
    simp only [this]
def Tab (w : World) (G : Nat) (f : Nat → Int) : Prop := ∃ cs : Array Value, w.heap[G]? = some (.cells cs 217 (0, 0)) ∧ cs.size = 256 ∧ ∀ j, j < 256 → cs[j]? = some (.int .u8 (f j))
section
variable {w : World} {G : Nat} {f g : Nat → Int}
theorem tab_cell (h : Tab w G f) (j : Nat) (hj : j < 256) : w.cell? ⟨G, j, none⟩ = some (.int .u8 (f j)) := by
  obtain ⟨cs, h1, h2, h3⟩ := h
  rw [cell_of_row w G j _ _ (0, 0) h1]
  exact h3 j hj
theorem tab_frozen (h : Tab w G f) (j : Nat) : w.frozen? ⟨G, j, none⟩ = false := by
  obtain ⟨cs, h1, -⟩ := h
  exact frozen_of_row w G j _ _ h1
theorem tab_set (h : Tab w G f) (i : Nat) (x : Int) (hi : i < 256) (hg : ∀ j, j < 256 → g j = if j = i then x else f j) : Tab (w.setCell ⟨G, i, none⟩ (.int .u8 x)) G g := by
  obtain ⟨cs, h1, h2, h3⟩ := h
  refine ⟨_, heap_setCell_same w G i _ _ (.int .u8 x) h1, by simp [h2], fun j hj => ?_⟩
  rw [hg j hj]
  by_cases e : j = i
  · subst e
    rw [if_pos rfl]
    simp [h2, hi]
  · rw [if_neg e]
    have h9 := h3 j hj
    rw [Array.getElem?_setIfInBounds_ne (fun h : i = j => e h.symm)]
    exact h9
theorem tab_lt (h : Tab w G f) : G < w.heap.size := by
  obtain ⟨cs, h1, -⟩ := h
  exact (Array.getElem?_eq_some_iff.1 h1).1
theorem tab_congr (h : Tab w G f) (hg : ∀ j, j < 256 → g j = f j) : Tab w G g := by
  obtain ⟨cs, h1, h2, h3⟩ := h
  exact ⟨cs, h1, h2, fun j hj => by rw [hg j hj]; exact h3 j hj⟩
end
theorem tab_zero (w : World) (cs : Array Value) (h1 : cs.size = 256) (h2 : ∀ j, j < 256 → cs[j]? = some (.int .u8 0)) : Tab (w.alloc (.cells cs 217)) w.heap.size (tabI 0) := ⟨cs, heap_alloc_new w _, h1, fun j hj => by rw [h2 j hj]; rfl⟩
def zB : Array Value := Array.replicate 256 (.int .u8 0)
theorem zB_info : (Tryz.prog.info? 217).map (fun i => (i.zero, i.size)) = some (some (.agg zB), 256) := by kernel_rfl
theorem zB_zero : ∀ w, (zeroValue 217).run Tryz.prog w = .ok (.agg zB) w := (zero_of_info zB_info).1
theorem zB_size : zB.size = 256 := by simp [zB]
theorem zB_at (j : Nat) (h : j < 256) : zB[j]? = some (.int .u8 0) := by simp [zB, Array.getElem?_replicate, h]
theorem zB_one : zB.all (·.oneCell') = true := by kernel_rfl
set_option maxRecDepth 100000 in
set_option maxHeartbeats 8000000 in
theorem n_build (R g cap : Nat) (B : Nat) (w : World) (hR : Rep w R 0 1 0 .nilIface (.slice (some ⟨g, 0, none⟩) 6 cap)) (ho : w.ownsRow B 9 1 (.slice (some ⟨g, 0, none⟩) 6 cap) 6 sixV) :
    Calls Tryz.prog 158 #[.pointer (some ⟨R, 0, none⟩)] w fun e w' => e = .returned (.iface 218 (.pointer (some ⟨w.heap.size, 0, none⟩))) ∧ Tab w' w.heap.size (tabP 3) ∧ Below w.heap.size w w' := by
  obtain ⟨r0, r1, r2, r3, r4⟩ := rep_cells hR
  have hg := (ho.lt g rfl).2
  have c0 : w.cell? ⟨g, 0, none⟩ = some (.string ⟨#[9]⟩) := ho.cellAt 0 (by omega)
  have c1 : w.cell? ⟨g, 1, none⟩ = some (.string ⟨#[32]⟩) := ho.cellAt 1 (by omega)
  have c2 : w.cell? ⟨g, 2, none⟩ = some (.string ⟨#[10]⟩) := ho.cellAt 2 (by omega)
  have c3 : w.cell? ⟨g, 3, none⟩ = some (.string ⟨#[32]⟩) := ho.cellAt 3 (by omega)
  have c4 : w.cell? ⟨g, 4, none⟩ = some (.string ⟨#[13]⟩) := ho.cellAt 4 (by omega)
  have c5 : w.cell? ⟨g, 5, none⟩ = some (.string ⟨#[32]⟩) := ho.cellAt 5 (by omega)
  clear hR ho
  go_enter Tryz.func158, Tryz.ntmps158
  go_wp2_with fail
  go_loopw [4, 5] (fun v4 v5 wr => ∃ i : Nat, i ≤ 3 ∧ v4 = .bool true ∧ v5 = .int .i64 (2 * (i : Int)) ∧ wr = w) (fun _ v5 _ => 6 - (intOf v5).toNat)
  case atStart => exact ⟨0, by omega, rfl, rfl, rfl⟩
  case round =>
    obtain ⟨i, hi, rfl, rfl, hw⟩ := hrel
    rw [hw]
    clear hw
    by_cases hlt : i < 3
    · rcases (show i = 0 ∨ i = 1 ∨ i = 2 by omega) with e | e | e
      all_goals
        subst e
        go_wp2
        go_roundw
        case rel => first | exact ⟨1, by omega, rfl, rfl, by first | rfl | trivial⟩ | exact ⟨2, by omega, rfl, rfl, by first | rfl | trivial⟩ | exact ⟨3, by omega, rfl, rfl, by first | rfl | trivial⟩
        case measure => simp [intOf]
    · have e : i = 3 := by omega
      subst e
      have hz := zB_zero
      have hsz : (Tryz.prog.info? 217).map (·.size) = some zB.size := by rw [zB_size]; exact (zero_of_info zB_info).2
      have HT0 := hide (tab_zero w zB zB_size zB_at)
      have HB0 : Hid (Below w.heap.size w (w.alloc (.cells zB 217))) := hide ((Below.refl _ _).alloc (Nat.le_refl _) _)
      have HC := hide (And.intro hg (And.intro c0 (And.intro c1 (And.intro c2 (And.intro c3 (And.intro c4 c5))))))
      clear c0 c1 c2 c3 c4 c5 hg r0 r1 r2 r3 r4
      go_wp2_with (refine wpList_store_row rfl 217 _ _ rfl w.heap.size zB rfl rfl 217 _ (heap_alloc_new w _) hsz rfl zB_one ?_; rw [World.setRow_alloc_new])
      go_loopw [7, 61] (fun v7 v61 wx => ∃ i : Nat, i ≤ 256 ∧ v61 = .int .i64 i ∧ Hid (Tab wx w.heap.size (tabI i)) ∧ Hid (Below w.heap.size w wx)) (fun _ v61 _ => 256 - (intOf v61).toNat)
      case atStart => exact ⟨0, by omega, rfl, HT0, HB0⟩
      case round =>
        clear HT0 HB0
        obtain ⟨i, hi, rfl, HT, HB⟩ := hrel
        by_cases hlt : i < 256
        · have hii : (i : Int) < 256 := by omega
          have ci := tab_cell HT.out i hlt
          have fi := tab_frozen HT.out i
          have hw8 : IntKind.u8.wrap (i : Int) = (i : Int) := by
            unfold IntKind.wrap
            rw [show IntKind.u8.signed = false from rfl, show IntKind.u8.bits = 8 from rfl]
            simp
            omega
          have HT2 := hide (tab_set (g := tabI (i + 1)) HT.out i (i : Int) hlt (fun j _ => tabI_next i j))
          have HB2 := hide (HB.out.setCell (p := ⟨w.heap.size, i, none⟩) (Nat.le_refl _) (.int .u8 (i : Int)))
          go_wp2
          go_roundw
          case rel => exact ⟨i + 1, by omega, by go_num, HT2, HB2⟩
          case measure => simp [intOf]; omega
        · have e : i = 256 := by omega
          subst e
          have HTP : Hid (Tab wr w.heap.size (tabP 0)) := hide (tab_congr HT.out (fun j hj => by unfold tabI tabP; simp [hj]))
          clear HT
          go_wp2_with fail
          go_loopw [8, 9, 10] (fun v8 v9 v10 wx => ∃ q : Nat, q ≤ 3 ∧ v8 = .int .i64 (4 - 2 * (q : Int)) ∧ Hid (Tab wx w.heap.size (tabP q)) ∧ Hid (Below w.heap.size w wx)) (fun v8 _ _ _ => (intOf v8 + 2).toNat)
          case atStart => exact ⟨0, by omega, rfl, HTP, HB⟩
          case round =>
            clear HTP HB
            obtain ⟨q, hq, rfl, HT, HB⟩ := hrel
            obtain ⟨hg, c0, c1, c2, c3, c4, c5⟩ := HC.out
            have d0 := (HB.out.cell (p := ⟨g, 0, none⟩) hg).trans c0
            have d1 := (HB.out.cell (p := ⟨g, 1, none⟩) hg).trans c1
            have d2 := (HB.out.cell (p := ⟨g, 2, none⟩) hg).trans c2
            have d3 := (HB.out.cell (p := ⟨g, 3, none⟩) hg).trans c3
            have d4 := (HB.out.cell (p := ⟨g, 4, none⟩) hg).trans c4
            have d5 := (HB.out.cell (p := ⟨g, 5, none⟩) hg).trans c5
            clear c0 c1 c2 c3 c4 c5
            have x13 : ∀ W : World, (Instr.index 9 (.string ⟨#[13]⟩) (.int .i64 0)).run Tryz.prog W = .ok (.int .u8 13) W := fun W => by rfl
            have x10 : ∀ W : World, (Instr.index 9 (.string ⟨#[10]⟩) (.int .i64 0)).run Tryz.prog W = .ok (.int .u8 10) W := fun W => by rfl
            have x9 : ∀ W : World, (Instr.index 9 (.string ⟨#[9]⟩) (.int .i64 0)).run Tryz.prog W = .ok (.int .u8 9) W := fun W => by rfl
            have x32 : ∀ W : World, (Instr.index 9 (.string ⟨#[32]⟩) (.int .i64 0)).run Tryz.prog W = .ok (.int .u8 32) W := fun W => by rfl
            rcases (show q = 0 ∨ q = 1 ∨ q = 2 ∨ q = 3 by omega) with e | e | e | e
            · subst e
              have ci := tab_cell HT.out 13 (by omega)
              have fi := tab_frozen HT.out 13
              have HT2 := hide (tab_set (g := tabP 1) HT.out 13 32 (by omega) (fun j hj => by unfold tabP; by_cases e : j = 13 <;> simp [e]))
              have HB2 := hide (HB.out.setCell (p := ⟨w.heap.size, 13, none⟩) (Nat.le_refl _) (.int .u8 32))
              go_wp2
              go_roundw
              case rel => exact ⟨1, by omega, rfl, HT2, HB2⟩
              case measure => simp [intOf]
            · subst e
              have ci := tab_cell HT.out 10 (by omega)
              have fi := tab_frozen HT.out 10
              have HT2 := hide (tab_set (g := tabP 2) HT.out 10 32 (by omega) (fun j hj => by unfold tabP; by_cases e : j = 13 <;> by_cases e2 : j = 10 <;> simp [e, e2]))
              have HB2 := hide (HB.out.setCell (p := ⟨w.heap.size, 10, none⟩) (Nat.le_refl _) (.int .u8 32))
              go_wp2
              go_roundw
              case rel => exact ⟨2, by omega, rfl, HT2, HB2⟩
              case measure => simp [intOf]
            · subst e
              have ci := tab_cell HT.out 9 (by omega)
              have fi := tab_frozen HT.out 9
              have HT2 := hide (tab_set (g := tabP 3) HT.out 9 32 (by omega) (fun j hj => by unfold tabP; by_cases e : j = 13 <;> by_cases e2 : j = 10 <;> by_cases e3 : j = 9 <;> simp [e, e2, e3]))
              have HB2 := hide (HB.out.setCell (p := ⟨w.heap.size, 9, none⟩) (Nat.le_refl _) (.int .u8 32))
              go_wp2
              go_roundw
              case rel => exact ⟨3, by omega, rfl, HT2, HB2⟩
              case measure => simp [intOf]
            · subst e
              go_wp2
              go_ret
              exact ⟨rfl, HT.out, HB.out⟩
end Go.Proofs.YtdepgkpfibmbgaaGreatDoor

/-
  Contract of Go's table of 256 bytes: what it makes of a text; a row of bytes that was a text.
-/
namespace Go.Proofs.YtdepgkpfibmbgaaGreatDoor
open Go.RowKit
set_option linter.unusedVariables false
set_option linter.unusedSimpArgs false
/-- A row of bytes that was made of a text. -/
def BufA (w : World) (g : Nat) (l : List UInt8) : Prop := ∃ (cs : Array Value) (n : Nat), w.heap[g]? = some (.cells cs 5 (n, n + 1)) ∧ l.length ≤ n ∧ n = cs.size ∧ ∀ (j : Nat) (c : UInt8), l[j]? = some c → cs[j]? = some (Value.int .u8 c.toNat)
section
variable {w w' : World} {g : Nat} {l : List UInt8}
theorem buf_cell (h : BufA w g l) {j : Nat} {c : UInt8} (hj : l[j]? = some c) : w.cell? ⟨g, j, none⟩ = some (.int .u8 c.toNat) := by
  obtain ⟨cs, n, h1, h2, h3, h4⟩ := h
  rw [cell_of_row w g j cs _ _ h1]
  exact h4 j c hj
theorem buf_frozen (h : BufA w g l) {j : Nat} (hj : j < l.length) : w.frozen? ⟨g, j, none⟩ = false := by
  obtain ⟨cs, n, h1, h2, h3, h4⟩ := h
  simp [World.frozen?, h1]
  omega
theorem buf_lt (h : BufA w g l) : g < w.heap.size := by
  obtain ⟨cs, n, h1, -⟩ := h
  exact (Array.getElem?_eq_some_iff.1 h1).1
theorem buf_set (h : BufA w g l) (i : Nat) (x : UInt8) : BufA (w.setCell ⟨g, i, none⟩ (.int .u8 x.toNat)) g (l.set i x) := by
  obtain ⟨cs, n, h1, h2, h3, h4⟩ := h
  refine ⟨cs.setIfInBounds i (.int .u8 x.toNat), n, by simp [World.setCell, Array.getElem?_modify, h1], by simpa using h2, by simpa using h3, fun j c hj => ?_⟩
  by_cases e : i = j
  · subst e
    have hl : i < l.length := by
      have := (List.getElem?_eq_some_iff.1 hj).1
      simpa using this
    rw [List.getElem?_set_self hl] at hj
    cases hj
    rw [Array.getElem?_setIfInBounds, if_pos rfl, if_pos (by omega)]
  · rw [List.getElem?_set_ne e] at hj
    rw [Array.getElem?_setIfInBounds_ne e]
    exact h4 j c hj
theorem buf_go (h : BufA w g l) (hb : Below w.heap.size w w') : BufA w' g l := by
  have hl := buf_lt h
  obtain ⟨cs, n, h1, h2⟩ := h
  exact ⟨cs, n, (hb.block g hl).trans h1, h2⟩
theorem buf_far (h : BufA w g l) (p : Addr) (v : Value) (hp : p.block ≠ g) : BufA (w.setCell p v) g l := by
  obtain ⟨cs, n, h1, h2⟩ := h
  exact ⟨cs, n, (by rw [← h1]; simp [World.setCell, Array.getElem?_modify, hp]), h2⟩
/-- '[]byte(s)'. -/
theorem buf_made (w : World) (s : ByteArray) : ∃ cap w1, (convert 9 22 (.string s)).run Tryz.prog w = .ok (.slice (some ⟨w.heap.size, 0, none⟩) s.size cap) w1 ∧ BufA w1 w.heap.size s.data.toList ∧ Below w.heap.size w w1 := by
  refine ⟨_, _, run_bytes_of_string w 9 22 5 s Tryz.underlying9 Tryz.underlying22 Tryz.underlying5, ⟨bytesRow s (grownCap w s.size 0 5), _, heap_alloc_new w.drew _, ?_, rfl, fun j c hj => ?_⟩, ((Below.refl _ _).drew).alloc (Nat.le_refl _) _⟩
  · unfold bytesRow
    simp
  · unfold bytesRow
    have hj2 := (List.getElem?_eq_some_iff.1 hj).1
    rw [Array.getElem?_append_left (by simpa using hj2)]
    rw [Array.getElem?_map]
    have e : s.data[j]? = some c := by simpa using hj
    rw [e]
    rfl
/-- 'string(b)'. -/
theorem buf_back (h : BufA w g l) (cap : Nat) : (convert 22 9 (.slice (some ⟨g, 0, none⟩) l.length cap)).run Tryz.prog w = .ok (.string ⟨l.toArray⟩) w := by
  refine run_convert_bytes_back w 22 9 5 ⟨g, 0, none⟩ cap l Tryz.underlying22 Tryz.underlying5 Tryz.underlying9 (fun j hj => ?_)
  have hadd : (⟨g, 0, none⟩ : Addr).add j = ⟨g, j, none⟩ := by unfold Addr.add; split <;> simp_all
  rw [hadd]
  exact buf_cell h (List.getElem?_eq_getElem hj)
end
theorem tab_bl (c : UInt8) : tabP 3 c.toNat = ((if blB c = true then (32 : UInt8) else c).toNat : Int) := by
  have e : ∀ d : UInt8, c.toNat = d.toNat ↔ c = d := fun d => UInt8.toNat_inj
  have e13 := e 13
  have e10 := e 10
  have e9 := e 9
  have e32 := e 32
  simp only [UInt8.reduceToNat] at e13 e10 e9 e32
  unfold tabP blB
  by_cases h1 : c = 13
  · subst h1; rfl
  · by_cases h2 : c = 10
    · subst h2; rfl
    · by_cases h3 : c = 9
      · subst h3; rfl
      · have f1 : ¬ c.toNat = 13 := fun h => h1 (e13.1 h)
        have f2 : ¬ c.toNat = 10 := fun h => h2 (e10.1 h)
        have f3 : ¬ c.toNat = 9 := fun h => h3 (e9.1 h)
        by_cases h4 : c = 32
        · subst h4; rfl
        · simp [h1, h2, h3, h4, f1, f2, f3]
/-- The text so far. -/
def mixB (l : List UInt8) (i : Nat) : List UInt8 := reB (l.take i) ++ l.drop i
theorem mixB_zero (l : List UInt8) : mixB l 0 = l := by simp [mixB, reB]
theorem mixB_len (l : List UInt8) (i : Nat) : (mixB l i).length = l.length := by
  unfold mixB reB
  simp
  omega
theorem mixB_all (l : List UInt8) : mixB l l.length = reB l := by simp [mixB]
theorem mixB_next {l : List UInt8} {i : Nat} {c : UInt8} (h : l[i]? = some c) : mixB l (i + 1) = (mixB l i).set i (if blB c = true then 32 else c) := by
  have hi := (List.getElem?_eq_some_iff.1 h).1
  apply List.ext_getElem?
  intro j
  unfold mixB reB
  by_cases e : i = j
  · subst e
    rw [List.getElem?_set_self (by simp; omega), List.getElem?_append_left (by simp; omega), List.getElem?_map, List.getElem?_take, if_pos (by omega), h]
    rfl
  · rw [List.getElem?_set_ne e]
    by_cases hj : j < i
    · rw [List.getElem?_append_left (by simp; omega), List.getElem?_append_left (by simp; omega), List.getElem?_map, List.getElem?_map, List.getElem?_take, List.getElem?_take, if_pos (by omega), if_pos hj]
    · rw [List.getElem?_append_right (by simp; omega), List.getElem?_append_right (by simp; omega), List.getElem?_drop, List.getElem?_drop]
      congr 1
      simp
      omega
theorem mixB_at {l : List UInt8} {i : Nat} {c : UInt8} (h : l[i]? = some c) : (mixB l i)[i]? = some c := by
  have hi := (List.getElem?_eq_some_iff.1 h).1
  unfold mixB reB
  rw [List.getElem?_append_right (by simp; omega), List.getElem?_drop]
  rw [← h]
  congr 1
  simp
  omega
theorem at_ba9 (u : ByteArray) (k : Nat) (h : k < u.size) : u.data.toList[k]? = some u[k] := by
  rw [List.getElem?_eq_getElem (by simpa using h)]
  rfl
/-- What the table makes of a text. -/
def BrAns (s : ByteArray) (w : World) (e : Ending) (w' : World) : Prop := e = .returned (.string ⟨(reB s.data.toList).toArray⟩) ∧ Below w.heap.size w w'
/-- What is known of the buffer: none yet, and nothing was replaced; or the bytes so far. -/
def BuR (s : ByteArray) (w wr : World) (v : Value) (i : Nat) : Prop := (v = .slice none 0 0 ∧ mixB s.data.toList i = s.data.toList) ∨ ∃ g cap, v = .slice (some ⟨g, 0, none⟩) s.size cap ∧ w.heap.size ≤ g ∧ BufA wr g (mixB s.data.toList i)
theorem tab_go {w w' : World} {G : Nat} {f : Nat → Int} (h : Tab w G f) (hb : Below w.heap.size w w') : Tab w' G f := by
  have hl := tab_lt h
  obtain ⟨cs, h1, h2⟩ := h
  exact ⟨cs, (hb.block G hl).trans h1, h2⟩
theorem tab_below {w w' : World} {G B : Nat} {f : Nat → Int} (h : Tab w G f) (hb : Below B w w') (hG : G < B) : Tab w' G f := by
  obtain ⟨cs, h1, h2⟩ := h
  exact ⟨cs, (hb.block G hG).trans h1, h2⟩
theorem eqin_some9 {P : Program} {t e : TypeId} (h : P.underlying t = some (.slice e)) (w : World) (d g n c : Nat) :
    (Op.equalIn (d + 1) t (.slice (some ⟨g, 0, none⟩) n c) (.slice none 0 0)).run P w = .ok false w := by
  simp [Op.equalIn, run_underlying h]
theorem eql_some9 {P : Program} {t e : TypeId} (h : P.underlying t = some (.slice e)) (w : World) (g n c : Nat) :
    (binOp .eql t (.slice (some ⟨g, 0, none⟩) n c) (.slice none 0 0)).run P w = .ok (.bool false) w := by
  simp only [binOp]
  simp [Op.equal, Op.maxDepth, eqin_some9 h w 9999 g n c]
set_option maxRecDepth 100000 in
set_option maxHeartbeats 8000000 in
theorem b_repl (G : Nat) (s : ByteArray) (w : World) (hs : s.size ≤ 1048576) (hT : Tab w G (tabP 3)) :
    Calls Tryz.prog 225 #[.pointer (some ⟨G, 0, none⟩), .string s] w (BrAns s w) := by
  have HT0 := hide hT
  have hGl := tab_lt hT
  clear hT
  have hu : (Tryz.prog).underlying 22 = some (.slice 5) := by kernel_rfl
  have hq0 : ∀ w : World, (binOp BinOp.eql 22 (.slice none 0 0) (.slice none 0 0)).run Tryz.prog w = .ok (.bool true) w := fun _ => by kernel_rfl
  have hq1 : ∀ (w : World) (g cap : Nat), (binOp BinOp.eql 22 (.slice (some ⟨g, 0, none⟩) s.size cap) (.slice none 0 0)).run Tryz.prog w = .ok (.bool false) w := fun w g cap => eql_some9 hu w g s.size cap
  clear hu
  go_enter Tryz.func225, Tryz.ntmps225
  go_wp2_with fail
  go_loopw [5, 6, 7] (fun v5 v6 v7 wr => ∃ i : Nat, i ≤ s.size ∧ v6 = .int .i64 i ∧ Hid (BuR s w wr v5 i) ∧ Hid (Below w.heap.size w wr)) (fun _ v6 _ _ => s.size - (intOf v6).toNat)
  case atStart => exact ⟨0, Nat.zero_le _, rfl, hide (.inl ⟨rfl, mixB_zero _⟩), hide (Below.refl _ _)⟩
  case round =>
    obtain ⟨i, hi, rfl, HR, HB⟩ := hrel
    have HT := hide (tab_below HT0.out HB.out hGl)
    by_cases hlt : i < s.size
    · have hii : (i : Int) < (s.size : Int) := by omega
      have hi0 : (0 : Int) ≤ (i : Int) := by omega
      have hat := at_ba9 s i hlt
      obtain ⟨c, hc⟩ : ∃ c, s[i] = c := ⟨_, rfl⟩
      have hcl : c.toNat < 256 := c.toNat_lt
      rw [hc] at hat
      have HAT := hide hat
      have tc := tab_cell HT.out c.toNat hcl
      rw [tab_bl] at tc
      have HN := hide (mixB_next hat)
      clear hat
      have hc256 : (c.toNat : Int) < 256 := by omega
      obtain ⟨X, hX⟩ : ∃ X, (if blB c = true then (32 : UInt8) else c) = X := ⟨_, rfl⟩
      rw [hX] at tc HN
      clear hX
      by_cases hx : X = c
      · subst hx
        have HM : Hid (mixB s.data.toList (i + 1) = mixB s.data.toList i) := hide (by
          rw [HN.out]
          apply List.ext_getElem?
          intro j
          by_cases e : i = j
          · subst e
            rw [mixB_at HAT.out, List.getElem?_set_self (by rw [mixB_len]; simpa using hlt)]
          · rw [List.getElem?_set_ne e])
        have HR2 : Hid (∀ v, BuR s w wr v i → BuR s w wr v (i + 1)) := hide (fun v h => by unfold BuR at h ⊢; rw [HM.out]; exact h)
        clear HN HM
        go_wp2
        go_roundw
        case rel => exact ⟨i + 1, by omega, by go_num, hide (HR2.out _ HR.out), HB⟩
        case measure => simp [intOf]; omega
      · have hne : ((X.toNat : Int) != (c.toNat : Int)) = true := by
          have : X.toNat ≠ c.toNat := fun e => hx (UInt8.toNat_inj.1 e)
          simp
          omega
        rcases HR.out with ⟨hv, hm⟩ | ⟨g, cap, hv, hg, hbf⟩
        · subst hv
          obtain ⟨cap, w1, hcv, hbf, hb1⟩ := buf_made wr s
          have HT1 := hide (tab_go HT.out hb1)
          have tc1 := tab_cell HT1.out c.toNat hcl
          have tcx : w1.cell? ⟨G, c.toNat, none⟩ = some (.int .u8 (X.toNat : Int)) := (hb1.cell (p := ⟨G, c.toNat, none⟩) (tab_lt HT.out)).trans tc
          have hbf2 : BufA w1 wr.heap.size (mixB s.data.toList i) := by rw [hm]; exact hbf
          have HBF := hide (buf_set hbf2 i X)
          rw [← HN.out] at HBF
          have bc := buf_cell hbf2 (mixB_at HAT.out)
          have bf := buf_frozen hbf2 (j := i) (by rw [mixB_len]; simpa using hlt)
          have HB2 := hide ((HB.out.trans (hb1.mono HB.out.size)).setCell (p := ⟨wr.heap.size, i, none⟩) HB.out.size (.int .u8 (X.toNat : Int)))
          have hwg := HB.out.size
          clear hbf hbf2 hb1 tc1 HN hm
          go_wp2
          go_roundw
          case rel => exact ⟨i + 1, by omega, by go_num, hide (.inr ⟨wr.heap.size, cap, rfl, hwg, HBF.out⟩), HB2⟩
          case measure => simp [intOf]; omega
        · subst hv
          have HBF := hide (buf_set hbf i X)
          rw [← HN.out] at HBF
          have bc := buf_cell hbf (mixB_at HAT.out)
          have bf := buf_frozen hbf (j := i) (by rw [mixB_len]; simpa using hlt)
          have HB2 := hide (HB.out.setCell (p := ⟨g, i, none⟩) hg (.int .u8 (X.toNat : Int)))
          clear hbf HN
          go_wp2
          go_roundw
          case rel => exact ⟨i + 1, by omega, by go_num, hide (.inr ⟨g, cap, rfl, hg, HBF.out⟩), HB2⟩
          case measure => simp [intOf]; omega
    · have e : i = s.size := by omega
      subst e
      have hii : ¬ (s.size : Int) < (s.size : Int) := by omega
      have hml : mixB s.data.toList s.size = reB s.data.toList := by
        have := mixB_all s.data.toList
        simpa using this
      rcases HR.out with ⟨hv, hm⟩ | ⟨g, cap, hv, hg, hbf⟩
      · subst hv
        rw [hml] at hm
        have HM := hide hm
        clear hm hml
        go_wp2
        go_ret
        refine ⟨?_, HB.out⟩
        rw [HM.out]
        show Ending.returned (Value.string s) = _
        rw [Array.toArray_toList]
      · subst hv
        rw [hml] at hbf
        have hl : (reB s.data.toList).length = s.size := by simp [reB]
        have hcv := buf_back hbf cap
        rw [hl] at hcv
        clear hml hl hbf
        go_wp2
        go_ret
        exact ⟨rfl, HB.out⟩
end Go.Proofs.YtdepgkpfibmbgaaGreatDoor

/-
  Go's sync.Once in the Replacer's first cells: what the lock, the store and the load do to a Replacer.
-/
namespace Go.Proofs.YtdepgkpfibmbgaaGreatDoor
open Go.RowKit
set_option linter.unusedVariables false
set_option linter.unusedSimpArgs false
section
variable {w : World} {R : Nat} {a b c : Int} {f s : Value}
theorem rep_set0 (h : Rep w R a b c f s) (x : Int) : Rep (w.setCell ⟨R, 0, none⟩ (.int .u32 x)) R x b c f s := heap_setCell_same w R 0 _ _ _ h
theorem rep_set1 (h : Rep w R a b c f s) (x : Int) : Rep (w.setCell ⟨R, 1, none⟩ (.int .i32 x)) R a x c f s := heap_setCell_same w R 1 _ _ _ h
theorem rep_set3 (h : Rep w R a b c f s) (x : Value) : Rep (w.setCell ⟨R, 3, none⟩ x) R a b c x s := heap_setCell_same w R 3 _ _ _ h
theorem rep_set4 (h : Rep w R a b c f s) (x : Value) : Rep (w.setCell ⟨R, 4, none⟩ x) R a b c f x := heap_setCell_same w R 4 _ _ _ h
theorem rep_lt (h : Rep w R a b c f s) : R < w.heap.size := (Array.getElem?_eq_some_iff.1 h).1
theorem rep_below {w' : World} {B : Nat} (h : Rep w R a b c f s) (hb : Below B w w') (hR : R < B) : Rep w' R a b c f s := (hb.block R hR).trans h
theorem rep_drew (h : Rep w R a b c f s) : Rep w.drew R a b c f s := h
theorem tab_far {G : Nat} {t : Nat → Int} (h : Tab w G t) (p : Addr) (v : Value) (hp : p.block ≠ G) : Tab (w.setCell p v) G t := by
  obtain ⟨cs, h1, h2⟩ := h
  exact ⟨cs, (by rw [← h1]; simp [World.setCell, Array.getElem?_modify, hp]), h2⟩
end
theorem r_disable (w : World) : (callFunc 184 #[]).run Tryz.prog w = .ok (.value (.tuple #[])) w := run_call_mark0 Tryz.func184 (by kernel_rfl) (by kernel_rfl) (by kernel_rfl) .disable (by kernel_rfl) w
theorem r_enable (w : World) : (callFunc 186 #[]).run Tryz.prog w = .ok (.value (.tuple #[])) w := run_call_mark0 Tryz.func186 (by kernel_rfl) (by kernel_rfl) (by kernel_rfl) .enable (by kernel_rfl) w
theorem r_acquire (a : Addr) (w : World) : (callFunc 187 #[.pointer (some a)]).run Tryz.prog w = .ok (.value (.tuple #[])) w := run_call_marked Tryz.func187 (by kernel_rfl) (by kernel_rfl) (by kernel_rfl) .acquire (by kernel_rfl) a w
theorem r_release (a : Addr) (w : World) : (callFunc 189 #[.pointer (some a)]).run Tryz.prog w = .ok (.value (.tuple #[])) w := run_call_marked Tryz.func189 (by kernel_rfl) (by kernel_rfl) (by kernel_rfl) .releaseMerge (by kernel_rfl) a w
theorem o_store (p : Addr) (x : Value) (u : FrameMode) (w : World) (hc : w.cell? p = some x) (hz : w.frozen? p = false) :
    CallsD Tryz.prog 170 #[.pointer (some p), .bool true] u w fun e u' w' => u' = u ∧ (e = .returned (.tuple #[]) ∧ w' = w.drew.setCell p (.int .u32 1)) := by
  have hc' : w.drew.cell? p = some x := by go_simp
  have hz' : w.drew.frozen? p = false := by go_simp
  have hst := run_call_store (P := Tryz.prog) Tryz.func180 (by kernel_rfl) (by kernel_rfl) (by kernel_rfl) (by kernel_rfl) (k := .u32) (y := 1) hc' hz'
  go_enter_d Tryz.func170, Tryz.ntmps170
  go_wp2
  go_region_calls
  all_goals (go_end0; exact ⟨rfl, rfl⟩)
set_option maxRecDepth 100000 in
set_option maxHeartbeats 4000000 in
theorem o_unlock (p : Addr) (u : FrameMode) (w : World) (hc : w.cell? p = some (.int .i32 1)) (hz : w.frozen? p = false) :
    CallsD Tryz.prog 169 #[.pointer (some p)] u w fun e u' w' => u' = u ∧ (e = .returned (.tuple #[]) ∧ w' = w.setCell p (.int .i32 0)) := by
  have hd := r_disable
  have he := r_enable
  have hr := r_release
  have hadd := run_call_add (P := Tryz.prog) Tryz.func190 (by kernel_rfl) (by kernel_rfl) (by kernel_rfl) .i32 (by kernel_rfl) (y := -1) (s := 0) hc hz (by simp [go_sem]; rfl)
  have hcv := run_convert_to_unsafe (P := Tryz.prog) (src := 244) (dst := 223) Tryz.underlying244 Tryz.underlying223 (by kernel_rfl) hc
  go_enter_d Tryz.func169, Tryz.ntmps169
  go_wp2
  go_end0
  go_wp2
  go_end0
  exact ⟨rfl, rfl⟩
set_option maxRecDepth 100000 in
set_option maxHeartbeats 4000000 in
theorem o_lock (p : Addr) (w : World) (hc : w.cell? p = some (.int .i32 0)) (hz : w.frozen? p = false) :
    Calls Tryz.prog 168 #[.pointer (some p)] w fun e w' => e = .returned (.tuple #[]) ∧ w' = w.setCell p (.int .i32 1) := by
  have hd := r_disable
  have he := r_enable
  have ha := r_acquire
  have hcas := run_call_cas_hit (P := Tryz.prog) Tryz.func185 (by kernel_rfl) (by kernel_rfl) (by kernel_rfl) .i32 (by kernel_rfl) (y := 1) hc hz
  have hc' : (w.setCell p (.int .i32 1)).cell? p = some (.int .i32 1) := World.cell?_setCell_same w p _ hc
  have hcv := run_convert_to_unsafe (P := Tryz.prog) (src := 244) (dst := 223) Tryz.underlying244 Tryz.underlying223 (by kernel_rfl) hc'
  go_enter Tryz.func168, Tryz.ntmps168
  go_wp2
  first | go_end0 | (simp only [Exit.inBlock, Exit.then]; refine bodyPost_ret (results_none rfl _ _ _) rfl ?_) | refine bodyPost_ret (results_none rfl _ _ _) rfl ?_
  go_wp2
  go_end0
  exact ⟨rfl, rfl⟩
end Go.Proofs.YtdepgkpfibmbgaaGreatDoor

/-
  The Replacer's Replace: the table is built once, then it replaces.
-/
namespace Go.Proofs.YtdepgkpfibmbgaaGreatDoor
open Go.RowKit
set_option linter.unusedVariables false
set_option linter.unusedSimpArgs false
/-- The table, as the Replacer holds it. -/
def tabV (G : Nat) : Value := .iface 218 (.pointer (some ⟨G, 0, none⟩))
/-- The Replacer whose table is built. -/
def Built (a b : Int) (R : Nat) (w w' : World) : Prop := ∃ G, w.heap.size ≤ G ∧ Rep w' R a b 0 (tabV G) (.slice none 0 0) ∧ Tab w' G (tabP 3) ∧ Below R w w'
theorem built_fin {R G : Nat} {w w1 : World} {s : Value} (hR : Rep w R 0 1 0 .nilIface s) (hG : w.heap.size ≤ G) (hT : Tab w1 G (tabP 3)) (hb : Below w.heap.size w w1) :
    Built 0 1 R w ((w1.setCell ⟨R, 3, none⟩ (tabV G)).setCell ⟨R, 4, none⟩ (.slice none 0 0)) := by
  have hl := rep_lt hR
  have h1 := rep_below hR hb hl
  refine ⟨G, hG, rep_set4 (rep_set3 h1 _) _, tab_far (tab_far hT _ _ ?_) _ _ ?_, ((hb.mono (Nat.le_of_lt hl)).setCell (p := ⟨R, 3, none⟩) (Nat.le_refl R) _).setCell (p := ⟨R, 4, none⟩) (Nat.le_refl R) _⟩
  · show R ≠ G
    omega
  · show R ≠ G
    omega
theorem built_done {R : Nat} {w w1 : World} (h : Built 0 1 R (w.setCell ⟨R, 1, none⟩ (.int .i32 1)) w1) : Built 1 0 R w ((w1.drew.setCell ⟨R, 0, none⟩ (.int .u32 1)).setCell ⟨R, 1, none⟩ (.int .i32 0)) := by
  obtain ⟨G, hG, h1, hT, hb⟩ := h
  have hG' : w.heap.size ≤ G := by simpa [World.setCell] using hG
  have hb' : Below R w w1 := ((Below.refl R w).setCell (p := ⟨R, 1, none⟩) (Nat.le_refl R) _).trans hb
  have hne : R ≠ G := by
    intro e
    subst e
    obtain ⟨cs, hc, -⟩ := hT
    unfold Rep at h1
    rw [hc] at h1
    injection h1 with h1
    injection h1 with h1 h2
    exact absurd h2 (by decide)
  exact ⟨G, hG', rep_set1 (rep_set0 (rep_drew h1) 1) 0, tab_far (tab_far (w := w1.drew) hT _ _ hne) _ _ hne, (hb'.drew.setCell (p := ⟨R, 0, none⟩) (Nat.le_refl R) _).setCell (p := ⟨R, 1, none⟩) (Nat.le_refl R) _⟩
set_option maxRecDepth 100000 in
set_option maxHeartbeats 4000000 in
theorem n_once (R g cap : Nat) (B : Nat) (w : World) (hR : Rep w R 0 1 0 .nilIface (.slice (some ⟨g, 0, none⟩) 6 cap)) (ho : w.ownsRow B 9 1 (.slice (some ⟨g, 0, none⟩) 6 cap) 6 sixV) :
    Calls Tryz.prog 130 #[.pointer (some ⟨R, 0, none⟩)] w fun e w' => e = .returned (.tuple #[]) ∧ Built 0 1 R w w' := by
  have HF := hide (fun w1 (hT : Tab w1 w.heap.size (tabP 3)) hb => built_fin hR (Nat.le_refl _) hT hb)
  have HR := hide hR
  have HO := hide ho
  clear hR ho
  go_enter Tryz.func130, Tryz.ntmps130
  go_wp2_with (go_at_call 158; refine (n_build R g cap B w HR.out HO.out).mono ?_; rintro e w1 ⟨rfl, hT, hb⟩; have HQ := hide (HF.out w1 hT hb); have h9 := rep_below HR.out hb (rep_lt HR.out); obtain ⟨r0, r1, r2, r3, r4⟩ := rep_cells h9; have f3 := rep_frozen h9 3; have f4 := rep_frozen h9 4; clear hT hb h9 r0 r1 r2)
  go_end0
  exact ⟨rfl, HQ.out⟩
theorem o_load (p : Addr) (x : Int) (w : World) (hc : w.cell? p = some (.int .u32 x)) :
    Calls Tryz.prog 156 #[.pointer (some p)] w fun e w' => e = .returned (.bool (x != 0)) ∧ w' = w := by
  have hl := run_call_load (P := Tryz.prog) Tryz.func167 (by kernel_rfl) (by kernel_rfl) (by kernel_rfl) .u32 (by kernel_rfl) hc
  go_enter Tryz.func156, Tryz.ntmps156
  go_wp2
  go_ret
  exact ⟨rfl, rfl⟩
end Go.Proofs.YtdepgkpfibmbgaaGreatDoor
