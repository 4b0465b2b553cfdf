/-
  Texts put together: WhM, WhR, WhB.
-/
import Derived.Test.YtdepgkpfibmbgaaGreatDoorD1
import Derived.Lib.FieldsP
import Derived.Lib.SpaceUEq
import Derived.Lib.Join
import Derived.Test.YtdepgkpfibmbgaaGreatDoorChecked
import Derived.WalkKit
import Derived.WalkLawsBesides
import Derived.Below
import Derived.OwnWalk
import Derived.Laws.OwnMore
import Derived.Deep.AppendLies
import Derived.Deep.QuietTactic
import Derived.Deep.Draws
import Derived.KernelRfl
import Derived.Deep.WholeRow
/-
  Plain facts on blanks: the words between them, byte by byte and rune by rune; blanks made one kind.
-/
namespace Go.Proofs.YtdepgkpfibmbgaaGreatDoor
set_option linter.unusedVariables false
set_option linter.unusedSimpArgs false
/-- The four blanks. -/
def blB (c : UInt8) : Bool := c == 32 || c == 9 || c == 10 || c == 13
def blR (x : Nat) : Bool := x == 32 || x == 9 || x == 10 || x == 13
/-- Blanks of one kind. -/
def reB (l : List UInt8) : List UInt8 := l.map fun c => if blB c = true then 32 else c
/-- The words, the one that has begun ahead. -/
def wdB : List UInt8 → List UInt8 → List (List UInt8)
  | w, [] => if w = [] then [] else [w]
  | w, c :: l => if blB c = true then (if w = [] then wdB [] l else w :: wdB [] l) else wdB (w ++ [c]) l
theorem wd_run : ∀ (xs w r : List UInt8), (∀ c ∈ xs, blB c = false) → wdB w (xs ++ r) = wdB (w ++ xs) r
  | [], w, r, _ => by simp
  | c :: xs, w, r, h => by
    have h0 := h c (List.mem_cons_self ..)
    rw [List.cons_append, wdB, if_neg (by rw [h0]; simp), wd_run xs (w ++ [c]) r (fun d hd => h d (List.mem_cons_of_mem _ hd))]
    simp
theorem blB_hi {c : UInt8} (h : 128 ≤ c.toNat) : blB c = false := by
  unfold blB
  have : ∀ d : UInt8, d.toNat < 128 → c ≠ d := fun d hd e => by rw [e] at h; omega
  simp [this 32 (by decide), this 9 (by decide), this 10 (by decide), this 13 (by decide)]
theorem blR_B (c : UInt8) : blR c.toNat = blB c := by
  have e : ∀ d : UInt8, (c.toNat == d.toNat) = (c == d) := fun d => by
    by_cases h : c = d
    · subst h; rw [beq_self_eq_true, beq_self_eq_true]
    · have h2 : c.toNat ≠ d.toNat := fun e => h (UInt8.toNat_inj.1 e)
      rw [beq_eq_false_iff_ne.2 h2, beq_eq_false_iff_ne.2 h]
  unfold blR blB
  rw [← e 32, ← e 9, ← e 10, ← e 13]
  rfl
theorem get_at (s : ByteArray) (j : Nat) (h : j < s.size) : s.data.toList[j]? = some (s.get! j) := by
  rw [List.getElem?_eq_getElem (by simpa using h)]
  congr 1
  simp [ByteArray.get!, getElem!_pos, h]
/-- The bytes of a rune that is no blank. -/
theorem dec_step (s : ByteArray) (pos : Nat) (h : pos < s.size) : (blR (Utf8.decode s pos).1 = true ∧ (Utf8.decode s pos).2 = 1 ∧ blB (s.get! pos) = true) ∨
    (blR (Utf8.decode s pos).1 = false ∧ 1 ≤ (Utf8.decode s pos).2 ∧ pos + (Utf8.decode s pos).2 ≤ s.size ∧ ∀ j, pos ≤ j → j < pos + (Utf8.decode s pos).2 → blB (s.get! j) = false) := by
  rw [Lib.decode_at]
  have hc := Lib.decodeN_conts (s.size - pos) (s.get! pos).toNat (s.get! (pos + 1)).toNat (s.get! (pos + 2)).toNat (s.get! (pos + 3)).toNat
  by_cases h0 : (s.get! pos).toNat < 128
  · have e : Lib.decodeN (s.size - pos) (s.get! pos).toNat (s.get! (pos + 1)).toNat (s.get! (pos + 2)).toNat (s.get! (pos + 3)).toNat = ((s.get! pos).toNat, 1) := by
      unfold Lib.decodeN
      rw [if_pos h0]
    rw [e]
    simp only
    rw [blR_B]
    cases hb : blB (s.get! pos)
    · refine .inr ⟨rfl, Nat.le_refl _, by omega, fun j h1 h2 => ?_⟩
      have : j = pos := by omega
      rw [this]; exact hb
    · exact .inl ⟨by first | rfl | trivial, by first | rfl | trivial, by first | rfl | trivial⟩
  · right
    have hle := Lib.decodeN_le_n' (s.size - pos) (s.get! pos).toNat (s.get! (pos + 1)).toNat (s.get! (pos + 2)).toNat (s.get! (pos + 3)).toNat (by omega)
    have hge := Lib.decodeN_ge1 (s.size - pos) (s.get! pos).toNat (s.get! (pos + 1)).toNat (s.get! (pos + 2)).toNat (s.get! (pos + 3)).toNat
    have hru : 128 ≤ (Lib.decodeN (s.size - pos) (s.get! pos).toNat (s.get! (pos + 1)).toNat (s.get! (pos + 2)).toNat (s.get! (pos + 3)).toNat).1 := by
      rcases Lib.decodeN_cases (s.size - pos) (s.get! pos).toNat (s.get! (pos + 1)).toNat (s.get! (pos + 2)).toNat (s.get! (pos + 3)).toNat with ⟨h1, -⟩ | ⟨-, -, -, h1, e⟩ | ⟨-, -, -, -, h1, e⟩ | ⟨h1, -⟩ | e
      · omega
      · rw [e]; exact h1
      · rw [e]; simp only; omega
      · omega
      · rw [e]; decide
    generalize hd : Lib.decodeN (s.size - pos) (s.get! pos).toNat (s.get! (pos + 1)).toNat (s.get! (pos + 2)).toNat (s.get! (pos + 3)).toNat = d at hc hle hge hru
    obtain ⟨c1, c2, c3, c4⟩ := hc
    refine ⟨?_, hge, by omega, fun j h1 h2 => blB_hi ?_⟩
    · unfold blR
      have : ∀ m : Nat, m < 128 → (d.1 == m) = false := fun m hm => by simp; omega
      rw [this 32 (by omega), this 9 (by omega), this 10 (by omega), this 13 (by omega)]
      rfl
    · rcases (show j = pos ∨ j = pos + 1 ∨ j = pos + 2 ∨ j = pos + 3 by omega) with e | e | e | e
      · rw [e]; omega
      · have := c1 (by omega); rw [e]; omega
      · have := c2 (by omega); rw [e]; omega
      · have := c3 (by omega); rw [e]; omega
theorem ext_list (s : ByteArray) (a b : Nat) : (s.extract a b).data.toList = (s.data.toList.take b).drop a := by
  rw [ByteArray.data_extract, Array.toList_extract]
  simp [List.extract_eq_take_drop, List.drop_take]
/-- The word that has begun. -/
def curW (s : ByteArray) (st : Option Nat) (pos : Nat) : List UInt8 := match st with
  | some a => (s.data.toList.take pos).drop a
  | none => []
def exL (s : ByteArray) (x : Nat × Nat) : List UInt8 := (s.extract x.1 x.2).data.toList
theorem cur_more {s : ByteArray} {a pos k : Nat} (ha : a ≤ pos) (hk : pos + k ≤ s.size) : (s.data.toList.take (pos + k)).drop a = (s.data.toList.take pos).drop a ++ (s.data.toList.drop pos).take k := by
  rw [List.take_add, List.drop_append_of_le_length (by simp; omega)]
theorem fields_wd (s : ByteArray) : ∀ (f pos : Nat) (st : Option Nat) (acc : List (Nat × Nat)), s.size ≤ pos + f → pos ≤ s.size → (∀ a, st = some a → a < pos) →
    (Lib.closeSpans s (Lib.spansFromP blR s f pos st acc)).map (exL s) = acc.map (exL s) ++ wdB (curW s st pos) (s.data.toList.drop pos)
  | f, pos, st, acc, hf, hp, hs => by
    by_cases hlt : pos < s.size
    · obtain ⟨f', rfl⟩ : ∃ f', f = f' + 1 := ⟨f - 1, by omega⟩
      have hcur : curW s st pos = [] ↔ st = none := by
        cases st with
        | none => simp [curW]
        | some a =>
          have := hs a rfl
          simp only [curW, reduceCtorEq, iff_false]
          intro e
          have e2 := congrArg List.length e
          simp at e2
          omega
      rcases dec_step s pos hlt with ⟨h1, h2, h3⟩ | ⟨h1, h2, h3, h4⟩
      · have hd : s.data.toList.drop pos = s.get! pos :: s.data.toList.drop (pos + 1) := by
          rw [List.drop_eq_getElem_cons (by simpa using hlt)]
          congr 1
          have := get_at s pos hlt
          rw [List.getElem?_eq_getElem (by simpa using hlt)] at this
          exact Option.some.inj this
        rw [hd, wdB, if_pos h3]
        unfold Lib.spansFromP
        rw [if_pos hlt, if_pos h1, h2]
        cases st with
        | none =>
          simp only
          rw [fields_wd s f' (pos + 1) none acc (by omega) (by omega) (fun a h => by cases h), if_pos (hcur.2 rfl)]
          rfl
        | some a =>
          simp only
          rw [fields_wd s f' (pos + 1) none (acc ++ [(a, pos)]) (by omega) (by omega) (fun a h => by cases h), if_neg (fun e => by have := hcur.1 e; cases this)]
          have e1 : exL s (a, pos) = curW s (some a) pos := ext_list s a pos
          simp [e1, curW]
      · have hd : s.data.toList.drop pos = (s.data.toList.drop pos).take (Utf8.decode s pos).2 ++ s.data.toList.drop (pos + (Utf8.decode s pos).2) := by
          rw [← List.drop_drop, List.take_append_drop]
        have hnb : ∀ c ∈ (s.data.toList.drop pos).take (Utf8.decode s pos).2, blB c = false := fun c hc => by
          obtain ⟨j, hj, e⟩ := List.getElem_of_mem hc
          have hj2 : j < (Utf8.decode s pos).2 := by simp at hj; omega
          have h9 := get_at s (pos + j) (by omega)
          have e9 : ((s.data.toList.drop pos).take (Utf8.decode s pos).2)[j]? = some c := by rw [List.getElem?_eq_getElem hj, e]
          rw [List.getElem?_take, if_pos hj2, List.getElem?_drop, h9] at e9
          rw [← Option.some.inj e9]
          exact h4 (pos + j) (by omega) (by omega)
        rw [hd, wd_run _ _ _ hnb]
        unfold Lib.spansFromP
        rw [if_pos hlt, if_neg (by rw [h1]; simp)]
        generalize hk : (Utf8.decode s pos).2 = k at h2 h3
        cases st with
        | none =>
          simp only
          rw [fields_wd s f' (pos + k) (some pos) acc (by omega) (by omega) (fun a h => by cases h; omega)]
          congr 2
          show (s.data.toList.take (pos + k)).drop pos = [] ++ _
          rw [cur_more (Nat.le_refl _) h3]
          simp
        | some a =>
          have ha := hs a rfl
          simp only
          rw [fields_wd s f' (pos + k) (some a) acc (by omega) (by omega) (fun b h => by cases h; omega)]
          congr 2
          exact cur_more (by omega) h3
    · have hpe : pos = s.size := by omega
      rw [Lib.spansFromP_end _ _ _ _ _ _ hlt, List.drop_eq_nil_of_le (by simp; omega)]
      unfold wdB Lib.closeSpans
      cases st with
      | none => simp [curW]
      | some a =>
        have ha := hs a rfl
        have hne : curW s (some a) pos ≠ [] := fun e => by
          have e2 := congrArg List.length e
          simp [curW] at e2
          omega
        rw [if_neg hne]
        simp only [List.map_append, List.map_cons, List.map_nil]
        congr 2
        show (s.extract a s.size).data.toList = _
        rw [ext_list, hpe]
        rfl
/-- The pieces that Go's FieldsFunc tells are the words. -/
theorem fields_words (s : ByteArray) : (Lib.goFieldsP blR s).map (·.data.toList) = wdB [] s.data.toList := by
  unfold Lib.goFieldsP Lib.spansOfP
  rw [List.map_map]
  have := fields_wd s s.size 0 none [] (by omega) (Nat.zero_le _) (fun a h => by cases h)
  rw [List.map_nil, List.nil_append, List.drop_zero] at this
  exact this
end Go.Proofs.YtdepgkpfibmbgaaGreatDoor

/-
  Contracts of Go's strings.Replacer at six strings of one byte each: how it is made.
-/
namespace Go.Proofs.YtdepgkpfibmbgaaGreatDoor
open Go.RowKit
set_option linter.unusedVariables false
set_option linter.unusedSimpArgs false
theorem infoSt : (Tryz.prog.info? 9).map (fun i => (i.zero, i.size, i.bytes)) = some (some (.string ⟨#[]⟩), 1, 16) := by kernel_rfl
def sixV : List Value := [.string ⟨#[9]⟩, .string ⟨#[32]⟩, .string ⟨#[10]⟩, .string ⟨#[32]⟩, .string ⟨#[13]⟩, .string ⟨#[32]⟩]
def Rep (w : World) (R : Nat) (a b c : Int) (f s : Value) : Prop := w.heap[R]? = some (.cells #[.int .u32 a, .int .i32 b, .int .u32 c, f, s] 167 (0, 0))
def NrAns (w : World) (e : Ending) (w' : World) : Prop := ∃ R g cap, e = .returned (.pointer (some ⟨R, 0, none⟩)) ∧ (w.heap.size ≤ R ∧ g < R) ∧ Rep w' R 0 0 0 .nilIface (.slice (some ⟨g, 0, none⟩) 6 cap) ∧ w'.ownsRow w.heap.size 9 1 (.slice (some ⟨g, 0, none⟩) 6 cap) 6 sixV ∧ Below w.heap.size w w'
set_option maxHeartbeats 2000000 in
theorem n_repl (A : Nat) (w : World) (h : w.heap[A]? = some (.cells sixV.toArray 9 (0, 0))) :
    Calls Tryz.prog 95 #[.slice (some ⟨A, 0, none⟩) 6 6] w (NrAns w) := by
  obtain ⟨i0, hi0, hz0, hz1, hz2⟩ := info_parts infoSt
  have HN := hide (World.news_of_block h)
  have hlt : A < w.heap.size := (Array.getElem?_eq_some_iff.1 h).1
  clear h
  go_enter Tryz.func95, Tryz.ntmps95
  go_wp2_with (at_builtin; refine wpList_append_lies _ (by rfl) (.const (.slice none 0 0)) (.tmp 8) 25 (by rfl) w.heap.size 9 i0 _ 1 16 Tryz.underlying25 hi0 hz0 hz1 hz2 rfl (by omega) (.slice none 0 0) 0 [] (by rfl) (World.ownsRow_nil _ _ _ _) ⟨A, 0, none⟩ 6 6 sixV (by rfl) (by rfl) HN.out (by simp [Value.oneCell', sixV]) (by omega) (by unfold maxLen; omega) (by omega) (Nat.le_refl _) w.heap.size rfl ?_; intro g cap w1 hown hgrow hat hlt1; have HO := hide hown; have HG := hide hgrow; have HA := hide hat; clear hown hgrow hat)
  go_ret
  have hb1 : Below w.heap.size w w1 := (Below.refl _ _).grown HG.out (Nat.le_refl _) (fun k hk => by cases hk)
  exact ⟨w1.heap.size, g, cap, rfl, ⟨hb1.size, hlt1⟩, heap_alloc_new w1 _, HO.out.alloc _, hb1.alloc hb1.size _⟩
end Go.Proofs.YtdepgkpfibmbgaaGreatDoor

/-
  Contract of Go's strings.Replacer at six strings of one byte each: the table of 256 bytes.
-/
namespace Go.Proofs.YtdepgkpfibmbgaaGreatDoor
open Go.RowKit
set_option linter.unusedVariables false
set_option linter.unusedSimpArgs false
section
variable {w w' : World} {R : Nat} {a b c : Int} {f s : Value}
theorem rep_cells (h : Rep w R a b c f s) : w.cell? ⟨R, 0, none⟩ = some (.int .u32 a) ∧ w.cell? ⟨R, 1, none⟩ = some (.int .i32 b) ∧ w.cell? ⟨R, 2, none⟩ = some (.int .u32 c) ∧ w.cell? ⟨R, 3, none⟩ = some f ∧ w.cell? ⟨R, 4, none⟩ = some s := by
  have e : ∀ i, w.cell? ⟨R, i, none⟩ = (#[.int .u32 a, .int .i32 b, .int .u32 c, f, s] : Array Value)[i]? := fun i => by rw [cell_of_row w R i _ _ (0, 0) h]
  exact ⟨e 0, e 1, e 2, e 3, e 4⟩
theorem rep_frozen (h : Rep w R a b c f s) (i : Nat) : w.frozen? ⟨R, i, none⟩ = false := frozen_of_row w R i _ _ h
end
/-- The table: the first i bytes stand for themselves. -/
def tabI (i : Nat) (j : Nat) : Int := if j < i then (j : Int) else 0
/-- What a byte is replaced by, when the last q pairs are laid. -/
def tabP (q : Nat) (j : Nat) : Int := if 1 ≤ q ∧ j = 13 then 32 else if 2 ≤ q ∧ j = 10 then 32 else if 3 ≤ q ∧ j = 9 then 32 else (j : Int)
theorem tabI_next (i j : Nat) : tabI (i + 1) j = if j = i then (i : Int) else tabI i j := by
  unfold tabI
  by_cases e : j = i
  · subst e; simp
  · rw [if_neg e]
    have : (j < i + 1) ↔ (j < i) := by omega
    simp only [this]
def Tab (w : World) (G : Nat) (f : Nat → Int) : Prop := ∃ cs : Array Value, w.heap[G]? = some (.cells cs 217 (0, 0)) ∧ cs.size = 256 ∧ ∀ j, j < 256 → cs[j]? = some (.int .u8 (f j))
section
variable {w : World} {G : Nat} {f g : Nat → Int}
theorem tab_cell (h : Tab w G f) (j : Nat) (hj : j < 256) : w.cell? ⟨G, j, none⟩ = some (.int .u8 (f j)) := by
  obtain ⟨cs, h1, h2, h3⟩ := h
  rw [cell_of_row w G j _ _ (0, 0) h1]
  exact h3 j hj
theorem tab_frozen (h : Tab w G f) (j : Nat) : w.frozen? ⟨G, j, none⟩ = false := by
  obtain ⟨cs, h1, -⟩ := h
  exact frozen_of_row w G j _ _ h1
theorem tab_set (h : Tab w G f) (i : Nat) (x : Int) (hi : i < 256) (hg : ∀ j, j < 256 → g j = if j = i then x else f j) : Tab (w.setCell ⟨G, i, none⟩ (.int .u8 x)) G g := by
  obtain ⟨cs, h1, h2, h3⟩ := h
  refine ⟨_, heap_setCell_same w G i _ _ (.int .u8 x) h1, by simp [h2], fun j hj => ?_⟩
  rw [hg j hj]
  by_cases e : j = i
  · subst e
    rw [if_pos rfl]
    simp [h2, hi]
  · rw [if_neg e]
    have h9 := h3 j hj
    rw [Array.getElem?_setIfInBounds_ne (fun h : i = j => e h.symm)]
    exact h9
theorem tab_lt (h : Tab w G f) : G < w.heap.size := by
  obtain ⟨cs, h1, -⟩ := h
  exact (Array.getElem?_eq_some_iff.1 h1).1
theorem tab_congr (h : Tab w G f) (hg : ∀ j, j < 256 → g j = f j) : Tab w G g := by
  obtain ⟨cs, h1, h2, h3⟩ := h
  exact ⟨cs, h1, h2, fun j hj => by rw [hg j hj]; exact h3 j hj⟩
end
theorem tab_zero (w : World) (cs : Array Value) (h1 : cs.size = 256) (h2 : ∀ j, j < 256 → cs[j]? = some (.int .u8 0)) : Tab (w.alloc (.cells cs 217)) w.heap.size (tabI 0) := ⟨cs, heap_alloc_new w _, h1, fun j hj => by rw [h2 j hj]; rfl⟩
def zB : Array Value := Array.replicate 256 (.int .u8 0)
theorem zB_info : (Tryz.prog.info? 217).map (fun i => (i.zero, i.size)) = some (some (.agg zB), 256) := by kernel_rfl
theorem zB_zero : ∀ w, (zeroValue 217).run Tryz.prog w = .ok (.agg zB) w := (zero_of_info zB_info).1
theorem zB_size : zB.size = 256 := by simp [zB]
theorem zB_at (j : Nat) (h : j < 256) : zB[j]? = some (.int .u8 0) := by simp [zB, Array.getElem?_replicate, h]
theorem zB_one : zB.all (·.oneCell') = true := by kernel_rfl
set_option maxRecDepth 100000 in
set_option maxHeartbeats 8000000 in
theorem n_build (R g cap : Nat) (B : Nat) (w : World) (hR : Rep w R 0 1 0 .nilIface (.slice (some ⟨g, 0, none⟩) 6 cap)) (ho : w.ownsRow B 9 1 (.slice (some ⟨g, 0, none⟩) 6 cap) 6 sixV) :
    Calls Tryz.prog 158 #[.pointer (some ⟨R, 0, none⟩)] w fun e w' => e = .returned (.iface 218 (.pointer (some ⟨w.heap.size, 0, none⟩))) ∧ Tab w' w.heap.size (tabP 3) ∧ Below w.heap.size w w' := by
  obtain ⟨r0, r1, r2, r3, r4⟩ := rep_cells hR
  have hg := (ho.lt g rfl).2
  have c0 : w.cell? ⟨g, 0, none⟩ = some (.string ⟨#[9]⟩) := ho.cellAt 0 (by omega)
  have c1 : w.cell? ⟨g, 1, none⟩ = some (.string ⟨#[32]⟩) := ho.cellAt 1 (by omega)
  have c2 : w.cell? ⟨g, 2, none⟩ = some (.string ⟨#[10]⟩) := ho.cellAt 2 (by omega)
  have c3 : w.cell? ⟨g, 3, none⟩ = some (.string ⟨#[32]⟩) := ho.cellAt 3 (by omega)
  have c4 : w.cell? ⟨g, 4, none⟩ = some (.string ⟨#[13]⟩) := ho.cellAt 4 (by omega)
  have c5 : w.cell? ⟨g, 5, none⟩ = some (.string ⟨#[32]⟩) := ho.cellAt 5 (by omega)
  clear hR ho
  go_enter Tryz.func158, Tryz.ntmps158
  go_wp2_with fail
  go_loopw [4, 5] (fun v4 v5 wr => ∃ i : Nat, i ≤ 3 ∧ v4 = .bool true ∧ v5 = .int .i64 (2 * (i : Int)) ∧ wr = w) (fun _ v5 _ => 6 - (intOf v5).toNat)
  case atStart => exact ⟨0, by omega, rfl, rfl, rfl⟩
  case round =>
    obtain ⟨i, hi, rfl, rfl, hw⟩ := hrel
    rw [hw]
    clear hw
    by_cases hlt : i < 3
    · rcases (show i = 0 ∨ i = 1 ∨ i = 2 by omega) with e | e | e
      all_goals
        subst e
        go_wp2
        go_roundw
        case rel => first | exact ⟨1, by omega, rfl, rfl, by first | rfl | trivial⟩ | exact ⟨2, by omega, rfl, rfl, by first | rfl | trivial⟩ | exact ⟨3, by omega, rfl, rfl, by first | rfl | trivial⟩
        case measure => simp [intOf]
    · have e : i = 3 := by omega
      subst e
      have hz := zB_zero
      have hsz : (Tryz.prog.info? 217).map (·.size) = some zB.size := by rw [zB_size]; exact (zero_of_info zB_info).2
      have HT0 := hide (tab_zero w zB zB_size zB_at)
      have HB0 : Hid (Below w.heap.size w (w.alloc (.cells zB 217))) := hide ((Below.refl _ _).alloc (Nat.le_refl _) _)
      have HC := hide (And.intro hg (And.intro c0 (And.intro c1 (And.intro c2 (And.intro c3 (And.intro c4 c5))))))
      clear c0 c1 c2 c3 c4 c5 hg r0 r1 r2 r3 r4
      go_wp2_with (refine wpList_store_row rfl 217 _ _ rfl w.heap.size zB rfl rfl 217 _ (heap_alloc_new w _) hsz rfl zB_one ?_; rw [World.setRow_alloc_new])
      go_loopw [7, 61] (fun v7 v61 wx => ∃ i : Nat, i ≤ 256 ∧ v61 = .int .i64 i ∧ Hid (Tab wx w.heap.size (tabI i)) ∧ Hid (Below w.heap.size w wx)) (fun _ v61 _ => 256 - (intOf v61).toNat)
      case atStart => exact ⟨0, by omega, rfl, HT0, HB0⟩
      case round =>
        clear HT0 HB0
        obtain ⟨i, hi, rfl, HT, HB⟩ := hrel
        by_cases hlt : i < 256
        · have hii : (i : Int) < 256 := by omega
          have ci := tab_cell HT.out i hlt
          have fi := tab_frozen HT.out i
          have hw8 : IntKind.u8.wrap (i : Int) = (i : Int) := by
            unfold IntKind.wrap
            rw [show IntKind.u8.signed = false from rfl, show IntKind.u8.bits = 8 from rfl]
            simp
            omega
          have HT2 := hide (tab_set (g := tabI (i + 1)) HT.out i (i : Int) hlt (fun j _ => tabI_next i j))
          have HB2 := hide (HB.out.setCell (p := ⟨w.heap.size, i, none⟩) (Nat.le_refl _) (.int .u8 (i : Int)))
          go_wp2
          go_roundw
          case rel => exact ⟨i + 1, by omega, by go_num, HT2, HB2⟩
          case measure => simp [intOf]; omega
        · have e : i = 256 := by omega
          subst e
          have HTP : Hid (Tab wr w.heap.size (tabP 0)) := hide (tab_congr HT.out (fun j hj => by unfold tabI tabP; simp [hj]))
          clear HT
          go_wp2_with fail
          go_loopw [8, 9, 10] (fun v8 v9 v10 wx => ∃ q : Nat, q ≤ 3 ∧ v8 = .int .i64 (4 - 2 * (q : Int)) ∧ Hid (Tab wx w.heap.size (tabP q)) ∧ Hid (Below w.heap.size w wx)) (fun v8 _ _ _ => (intOf v8 + 2).toNat)
          case atStart => exact ⟨0, by omega, rfl, HTP, HB⟩
          case round =>
            clear HTP HB
            obtain ⟨q, hq, rfl, HT, HB⟩ := hrel
            obtain ⟨hg, c0, c1, c2, c3, c4, c5⟩ := HC.out
            have d0 := (HB.out.cell (p := ⟨g, 0, none⟩) hg).trans c0
            have d1 := (HB.out.cell (p := ⟨g, 1, none⟩) hg).trans c1
            have d2 := (HB.out.cell (p := ⟨g, 2, none⟩) hg).trans c2
            have d3 := (HB.out.cell (p := ⟨g, 3, none⟩) hg).trans c3
            have d4 := (HB.out.cell (p := ⟨g, 4, none⟩) hg).trans c4
            have d5 := (HB.out.cell (p := ⟨g, 5, none⟩) hg).trans c5
            clear c0 c1 c2 c3 c4 c5
            have x13 : ∀ W : World, (Instr.index 9 (.string ⟨#[13]⟩) (.int .i64 0)).run Tryz.prog W = .ok (.int .u8 13) W := fun W => by rfl
            have x10 : ∀ W : World, (Instr.index 9 (.string ⟨#[10]⟩) (.int .i64 0)).run Tryz.prog W = .ok (.int .u8 10) W := fun W => by rfl
            have x9 : ∀ W : World, (Instr.index 9 (.string ⟨#[9]⟩) (.int .i64 0)).run Tryz.prog W = .ok (.int .u8 9) W := fun W => by rfl
            have x32 : ∀ W : World, (Instr.index 9 (.string ⟨#[32]⟩) (.int .i64 0)).run Tryz.prog W = .ok (.int .u8 32) W := fun W => by rfl
            rcases (show q = 0 ∨ q = 1 ∨ q = 2 ∨ q = 3 by omega) with e | e | e | e
            · subst e
              have ci := tab_cell HT.out 13 (by omega)
              have fi := tab_frozen HT.out 13
              have HT2 := hide (tab_set (g := tabP 1) HT.out 13 32 (by omega) (fun j hj => by unfold tabP; by_cases e : j = 13 <;> simp [e]))
              have HB2 := hide (HB.out.setCell (p := ⟨w.heap.size, 13, none⟩) (Nat.le_refl _) (.int .u8 32))
              go_wp2
              go_roundw
              case rel => exact ⟨1, by omega, rfl, HT2, HB2⟩
              case measure => simp [intOf]
            · subst e
              have ci := tab_cell HT.out 10 (by omega)
              have fi := tab_frozen HT.out 10
              have HT2 := hide (tab_set (g := tabP 2) HT.out 10 32 (by omega) (fun j hj => by unfold tabP; by_cases e : j = 13 <;> by_cases e2 : j = 10 <;> simp [e, e2]))
              have HB2 := hide (HB.out.setCell (p := ⟨w.heap.size, 10, none⟩) (Nat.le_refl _) (.int .u8 32))
              go_wp2
              go_roundw
              case rel => exact ⟨2, by omega, rfl, HT2, HB2⟩
              case measure => simp [intOf]
            · subst e
              have ci := tab_cell HT.out 9 (by omega)
              have fi := tab_frozen HT.out 9
              have HT2 := hide (tab_set (g := tabP 3) HT.out 9 32 (by omega) (fun j hj => by unfold tabP; by_cases e : j = 13 <;> by_cases e2 : j = 10 <;> by_cases e3 : j = 9 <;> simp [e, e2, e3]))
              have HB2 := hide (HB.out.setCell (p := ⟨w.heap.size, 9, none⟩) (Nat.le_refl _) (.int .u8 32))
              go_wp2
              go_roundw
              case rel => exact ⟨3, by omega, rfl, HT2, HB2⟩
              case measure => simp [intOf]
            · subst e
              go_wp2
              go_ret
              exact ⟨rfl, HT.out, HB.out⟩
end Go.Proofs.YtdepgkpfibmbgaaGreatDoor
