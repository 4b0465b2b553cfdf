/-
  Texts put together: PaA, RegInv.
-/
import Derived.Test.YthcggdjkfebemaaGreatDoorB1
import Derived.Test.YthcggdjkfebemaaGreatDoorB2
import Derived.Test.YthcggdjkfebemaaGreatDoorB7
import Derived.Test.YthcggdjkfebemaaGreatDoorB12
import Derived.Shelf.Strings.SlTrimAscii
import Derived.WalkLawsBesides
import Derived.Orders
import Derived.RegionTactic
import Derived.WalkKit
/-
  Contracts of the program's reader of documents: its cells, one look at a mark, what must stand there, blanks, what stands ahead of a mark, remarks.
-/
namespace Go.Proofs.YthcggdjkfebemaaGreatDoor
open Go.RowKit Go.Joins
set_option linter.unusedVariables false
set_option linter.unusedSimpArgs false
def MaxP (w : World) : Prop := ∃ m, w.cell? ⟨2, 0, none⟩ = some (.int .i64 m)
theorem maxP_of {w : World} (h : w.ShapedOpen Tryz.prog) : MaxP w := Tryz.laysM145.s1_3 w h
theorem maxP_go {w w' : World} {B : Nat} (h : MaxP w) (hb : Below B w w') (hB : w.heap.size ≤ B) : MaxP w' := by
  obtain ⟨m, hm⟩ := h
  have h2 := World.block_lt_of_cell? w _ hm
  exact ⟨m, (hb.cell (p := ⟨2, 0, none⟩) (Nat.lt_of_lt_of_le h2 hB)).trans hm⟩
/-- What the library's tables were at the start, below R. -/
def EnvR (R : Nat) (w : World) : Prop := ∃ w0, w0.heap.size ≤ R ∧ Tabs w0 ∧ MaxP w0 ∧ Below w0.heap.size w0 w
theorem env_go {R : Nat} {w w' : World} (h : EnvR R w) (hb : Below R w w') : EnvR R w' := by
  obtain ⟨w0, h1, h2, h3, h4⟩ := h
  exact ⟨w0, h1, h2, h3, h4.trans (hb.mono h1)⟩
theorem env_tabs {R : Nat} {w : World} (h : EnvR R w) : Tabs w := by
  obtain ⟨w0, h1, h2, h3, h4⟩ := h
  exact tabs_below h2 h4
theorem env_max {R : Nat} {w : World} (h : EnvR R w) : MaxP w := by
  obtain ⟨w0, h1, h2, h3, h4⟩ := h
  exact maxP_go h3 h4 (Nat.le_refl _)
/-- The reader's cells. -/
def RB (w : World) (R : Nat) (l : List UInt8) (x1 x2 x3 : Value) : Prop := w.heap[R]? = some (.cells #[.string ⟨l.toArray⟩, x1, x2, x3] 84 (0, 0))
section
variable {w w' : World} {R : Nat} {l : List UInt8} {x1 x2 x3 : Value}
theorem rb_cells (h : RB w R l x1 x2 x3) : w.cell? ⟨R, 0, none⟩ = some (.string ⟨l.toArray⟩) ∧ w.cell? ⟨R, 1, none⟩ = some x1 ∧ w.cell? ⟨R, 2, none⟩ = some x2 ∧ w.cell? ⟨R, 3, none⟩ = some x3 := by
  have e : ∀ i, w.cell? ⟨R, i, none⟩ = (#[.string ⟨l.toArray⟩, x1, x2, x3] : Array Value)[i]? := fun i => by rw [cell_of_row w R i _ _ (0, 0) h]
  exact ⟨e 0, e 1, e 2, e 3⟩
theorem rb_frozen (h : RB w R l x1 x2 x3) (i : Nat) : w.frozen? ⟨R, i, none⟩ = false := frozen_of_row w R i _ _ h
theorem rb_lt (h : RB w R l x1 x2 x3) : R < w.heap.size := (Array.getElem?_eq_some_iff.1 h).1
theorem rb_below (h : RB w R l x1 x2 x3) (hb : Below w.heap.size w w') : RB w' R l x1 x2 x3 := (hb.block R (rb_lt h)).trans h
theorem rb_set0 (h : RB w R l x1 x2 x3) (l' : List UInt8) : RB (w.setCell ⟨R, 0, none⟩ (.string ⟨l'.toArray⟩)) R l' x1 x2 x3 := heap_setCell_same w R 0 _ _ (.string ⟨l'.toArray⟩) h
theorem rb_set1 (h : RB w R l x1 x2 x3) (v : Value) : RB (w.setCell ⟨R, 1, none⟩ v) R l v x2 x3 := heap_setCell_same w R 1 _ _ v h
theorem rb_set2 (h : RB w R l x1 x2 x3) (v : Value) : RB (w.setCell ⟨R, 2, none⟩ v) R l x1 v x3 := heap_setCell_same w R 2 _ _ v h
theorem rb_set3 (h : RB w R l x1 x2 x3) (v : Value) : RB (w.setCell ⟨R, 3, none⟩ v) R l x1 x2 v := heap_setCell_same w R 3 _ _ v h
end
/-- All that was there but R is as it was. -/
def RG (R : Nat) (w w' : World) : Prop := w.grownBy w' (some R)
theorem rg_refl (R : Nat) (w : World) : RG R w w := ⟨rfl, rfl, rfl, Nat.le_refl _, fun _ _ _ => rfl⟩
theorem rg_trans {R : Nat} {w w1 w2 : World} (h : RG R w w1) (k : RG R w1 w2) : RG R w w2 := ⟨k.os.trans h.os, k.tape.trans h.tape, k.output.trans h.output, Nat.le_trans h.size k.size, fun j hj hne => (k.block j (Nat.lt_of_lt_of_le hj h.size) hne).trans (h.block j hj hne)⟩
theorem rg_set (R i : Nat) (w : World) (v : Value) : RG R w (w.setCell ⟨R, i, none⟩ v) := ⟨rfl, rfl, rfl, by simp, fun k _ hk => heap_setCell_other w ⟨R, i, none⟩ k v (fun e => hk (by rw [e]))⟩
theorem rg_below {R : Nat} {w w' : World} (h : Below w.heap.size w w') : RG R w w' := ⟨h.os, h.tape, h.output, h.size, fun j hj _ => h.block j hj⟩
theorem rg_drewN (R : Nat) (w : World) (q : Nat) : RG R w (w.drewN q) := ⟨rfl, rfl, rfl, Nat.le_refl _, fun _ _ _ => rfl⟩
theorem rg_low {R : Nat} {w w' : World} (h : RG R w w') (hR : R ≤ w.heap.size) : Below R w w' := ⟨h.os, h.tape, h.output, h.size, fun j hj => h.block j (by omega) (fun e => by cases e; omega)⟩
/-- What a step of the reader leaves, where only what is left to read has changed. -/
def RdP (R : Nat) (w : World) (l : List UInt8) (x1 x2 x3 : Value) (w' : World) : Prop := RB w' R l x1 x2 x3 ∧ RG R w w'
theorem rd_env {R : Nat} {w w' : World} {l : List UInt8} {x1 x2 x3 : Value} (h : RdP R w l x1 x2 x3 w') (hE : EnvR R w) (hR : R < w.heap.size) : EnvR R w' := env_go hE (rg_low h.2 (by omega))
theorem pre_app (p r : List UInt8) : Lib.hasPrefix (p ++ r) p = true ∧ Lib.trimPrefix (p ++ r) p = r := by
  have h : Lib.hasPrefix (p ++ r) p = true := by
    unfold Lib.hasPrefix
    induction p with
    | nil => cases r <;> rfl
    | cons a p ih => simp [List.isPrefixOf, ih]
  refine ⟨h, ?_⟩
  unfold Lib.trimPrefix
  rw [if_pos h, List.drop_left]
theorem pre_no {l p : List UInt8} (h : Lib.hasPrefix l p = false) : Lib.trimPrefix l p = l := by unfold Lib.trimPrefix; rw [if_neg (by rw [h]; decide)]
theorem i_wantY (p : Value) (w : World) : Calls Tryz.prog 59 #[p, .bool true] w fun e w' => e = .returned (.tuple #[]) ∧ w' = w := by
  go_enter Tryz.func59, Tryz.ntmps59
  go_wp2
  go_end0
  exact ⟨rfl, rfl⟩
section
variable {R : Nat} {l p r : List UInt8} {x1 x2 x3 : Value} {w : World}
set_option maxHeartbeats 2000000 in
theorem i_takesY (h : RB w R (p ++ r) x1 x2 x3) :
    Calls Tryz.prog 80 #[.pointer (some ⟨R, 0, none⟩), .string ⟨p.toArray⟩] w fun e w' => e = .returned (.bool true) ∧ RdP R w r x1 x2 x3 w' := by
  have HH := hide h
  obtain ⟨c0, -, -, -⟩ := rb_cells h
  have f0 := rb_frozen h 0
  have C : Hid (∀ w, Calls Tryz.prog 99 #[.string ⟨(p ++ r).toArray⟩, .string ⟨p.toArray⟩] w fun e w' => e = .returned (.tuple #[.string ⟨r.toArray⟩, .bool true]) ∧ w' = w) := hide fun w => by
    refine (Tryz.strings_CutPrefix ⟨(p ++ r).toArray⟩ ⟨p.toArray⟩ w).mono ?_
    rintro e w' ⟨rfl, rfl⟩
    rw [show (⟨(p ++ r).toArray⟩ : ByteArray).data.toList = p ++ r from rfl, show (⟨p.toArray⟩ : ByteArray).data.toList = p from rfl, (pre_app p r).1, (pre_app p r).2]
    exact ⟨rfl, rfl⟩
  obtain ⟨t, ht⟩ : ∃ t : ByteArray, (⟨(p ++ r).toArray⟩ : ByteArray) = t := ⟨_, rfl⟩
  rw [ht] at C c0
  clear h ht
  go_enter Tryz.func80, Tryz.ntmps80
  go_wp2_with (first | (go_at_call 99; refine (C.out _).mono ?_; rintro e w9 ⟨rfl, h9⟩; rw [h9]; clear h9 w9))
  go_ret
  exact ⟨rfl, rb_set0 HH.out r, rg_set R 0 w _⟩
set_option maxHeartbeats 2000000 in
theorem i_takesN (h : RB w R l x1 x2 x3) (hp : Lib.hasPrefix l p = false) :
    Calls Tryz.prog 80 #[.pointer (some ⟨R, 0, none⟩), .string ⟨p.toArray⟩] w fun e w' => e = .returned (.bool false) ∧ RdP R w l x1 x2 x3 w' := by
  have HH := hide h
  obtain ⟨c0, -, -, -⟩ := rb_cells h
  have f0 := rb_frozen h 0
  have C : Hid (∀ w, Calls Tryz.prog 99 #[.string ⟨l.toArray⟩, .string ⟨p.toArray⟩] w fun e w' => e = .returned (.tuple #[.string ⟨l.toArray⟩, .bool false]) ∧ w' = w) := hide fun w => by
    refine (Tryz.strings_CutPrefix ⟨l.toArray⟩ ⟨p.toArray⟩ w).mono ?_
    rintro e w' ⟨rfl, rfl⟩
    rw [show (⟨l.toArray⟩ : ByteArray).data.toList = l from rfl, show (⟨p.toArray⟩ : ByteArray).data.toList = p from rfl, hp, pre_no hp]
    exact ⟨rfl, rfl⟩
  clear h hp
  go_enter Tryz.func80, Tryz.ntmps80
  go_wp2_with (first | (go_at_call 99; refine (C.out _).mono ?_; rintro e w9 ⟨rfl, h9⟩; rw [h9]; clear h9 w9))
  go_ret
  exact ⟨rfl, rb_set0 HH.out l, rg_set R 0 w _⟩
set_option maxHeartbeats 2000000 in
theorem i_mustY (h : RB w R (p ++ r) x1 x2 x3) :
    Calls Tryz.prog 56 #[.pointer (some ⟨R, 0, none⟩), .string ⟨p.toArray⟩] w fun e w' => e = .returned (.tuple #[]) ∧ RdP R w r x1 x2 x3 w' := by
  have HH := hide h
  clear h
  go_enter Tryz.func56, Tryz.ntmps56
  go_wp2_with fail
  refine (i_takesY HH.out).mono ?_
  rintro e w1 ⟨rfl, h1⟩
  have H1 := hide h1
  clear h1
  go_wp2_with fail
  refine (i_wantY _ _).mono ?_
  rintro e w2 ⟨rfl, hw2⟩
  rw [hw2]
  clear hw2
  go_wp2
  go_end0
  exact ⟨rfl, H1.out⟩
theorem sz3 : (⟨#[32, 9, 10]⟩ : ByteArray).size = 3 := rfl
/-- The rest behind blanks. -/
def tbL (l : List UInt8) : List UInt8 := Lib.trimLeftS l [32, 9, 10]
theorem infoBools : (Tryz.prog.info? 126).map (fun i => (i.zero, i.size)) = some (some (.agg (Array.replicate 256 (.bool false))), 256) := by kernel_rfl
theorem trim_le (l : List UInt8) : (tbL l).length ≤ l.length := by
  unfold tbL Lib.trimLeftS
  exact (List.dropWhile_suffix _).length_le
set_option maxRecDepth 100000 in
set_option maxHeartbeats 4000000 in
theorem i_blanks (h : RB w R l x1 x2 x3) :
    Calls Tryz.prog 79 #[.pointer (some ⟨R, 0, none⟩)] w fun e w' => e = .returned (.bool (decide ((tbL l).length < l.length))) ∧ RdP R w (tbL l) x1 x2 x3 w' := by
  have HH := hide h
  have C : Hid (∀ w, Calls Tryz.prog 98 #[.string ⟨l.toArray⟩, .string ⟨#[32, 9, 10]⟩] w fun e w' => e = .returned (.string ⟨(tbL l).toArray⟩) ∧ Below w.heap.size w w') := hide fun w => Any.strings_TrimLeft_laid Tryz.lays161 infoBools ⟨l.toArray⟩ ⟨#[32, 9, 10]⟩ w (by rw [sz3]; omega) (fun j b hb => by
    have hm : b ∈ ([32, 9, 10] : List UInt8) := List.mem_of_getElem? hb
    simp only [List.mem_cons, List.mem_nil_iff, or_false] at hm
    rcases hm with rfl | rfl | rfl <;> decide)
  obtain ⟨c0, -, -, -⟩ := rb_cells h
  have s1 : (⟨(tbL l).toArray⟩ : ByteArray).size = (tbL l).length := List.size_toArray
  have s2 : (⟨l.toArray⟩ : ByteArray).size = l.length := List.size_toArray
  clear h
  go_enter Tryz.func79, Tryz.ntmps79
  go_wp2_with fail
  refine (C.out _).mono ?_
  rintro e w1 ⟨rfl, hb1⟩
  have H1 := hide (rb_below HH.out hb1)
  have G1 := hide (rg_below (R := R) hb1)
  obtain ⟨d0, -, -, -⟩ := rb_cells H1.out
  have f0 := rb_frozen H1.out 0
  have S1 := hide s1
  have S2 := hide s2
  clear hb1 s1 s2
  go_wp2
  go_ret
  refine ⟨?_, rb_set0 H1.out (tbL l), rg_trans G1.out (rg_set R 0 w1 _)⟩
  first
    | (rw [S1.out, S2.out]; simp)
    | (simp [S1.out, S2.out])
set_option maxHeartbeats 4000000 in
theorem i_upTo {a b : List UInt8} (hE : EnvR R w) (h : RB w R l x1 x2 x3) (hl : l.length ≤ 1048576) (hc : Lib.cut l p = (a, b, true)) :
    Calls Tryz.prog 101 #[.pointer (some ⟨R, 0, none⟩), .string ⟨p.toArray⟩] w fun e w' => e = .returned (.string ⟨a.toArray⟩) ∧ RdP R w b x1 x2 x3 w' := by
  have HH := hide h
  obtain ⟨m, hm⟩ := env_max hE
  have C : Hid (Calls Tryz.prog 94 #[.string ⟨l.toArray⟩, .string ⟨p.toArray⟩] w fun e w' => e = .returned (.tuple #[.string ⟨a.toArray⟩, .string ⟨b.toArray⟩, .bool true]) ∧ ∃ n, w' = w.drewN n) := hide (by
    have h9 := Tryz.strings_Cut ⟨l.toArray⟩ ⟨p.toArray⟩ m w (by rw [show (⟨l.toArray⟩ : ByteArray).size = l.length from List.size_toArray]; omega) hm
    rw [show (⟨l.toArray⟩ : ByteArray).data.toList = l from rfl, show (⟨p.toArray⟩ : ByteArray).data.toList = p from rfl, hc] at h9
    exact h9)
  obtain ⟨c0, -, -, -⟩ := rb_cells h
  clear h hm hc hE hl
  go_enter Tryz.func101, Tryz.ntmps101
  go_wp2_with fail
  refine C.out.mono ?_
  rintro e w1 ⟨rfl, q, rfl⟩
  have H1 := hide (show RB (w.drewN q) R l x1 x2 x3 from HH.out)
  have f0 := rb_frozen H1.out 0
  obtain ⟨d0, -, -, -⟩ := rb_cells H1.out
  go_wp2_with fail
  refine (i_wantY _ _).mono ?_
  rintro e w2 ⟨rfl, hw2⟩
  rw [hw2]
  clear hw2
  go_wp2
  go_ret
  exact ⟨rfl, rb_set0 H1.out b, rg_trans (rg_drewN R w q) (rg_set R 0 _ _)⟩
set_option maxHeartbeats 4000000 in
theorem i_remark {a b : List UInt8} (hE : EnvR R w) (h : RB w R l x1 x2 x3) (hl : l.length ≤ 1048576) (hc : Lib.cut l [45, 45, 62] = (a, b, true)) (hn : Lib.contains a [45, 45] = false) :
    Calls Tryz.prog 81 #[.pointer (some ⟨R, 0, none⟩)] w fun e w' => e = .returned (.tuple #[]) ∧ RdP R w b x1 x2 x3 w' := by
  have hlt := rb_lt h
  have ha : a.length ≤ 1048576 := by
    have h9 : a = l.take (Lib.index l [45, 45, 62]).toNat := by
      unfold Lib.cut at hc
      split at hc
      · cases hc; rfl
      · cases hc
    rw [h9, List.length_take]; omega
  have HD := hide (env_go hE (⟨rfl, rfl, rfl, Nat.le_refl _, fun _ _ => rfl⟩ : Below R w w.drew))
  have CU := hide (i_upTo (w := w.drew) (p := [45, 45, 62]) HD.out h hl hc)
  have CK : Hid (∀ w9, MaxP w9 → Calls Tryz.prog 100 #[.string ⟨a.toArray⟩, .string ⟨#[45, 45]⟩] w9 fun e w' => e = .returned (.bool false) ∧ w' = w9) := hide (fun w9 ⟨m, hm⟩ => by
    have h9 := Tryz.strings_Contains ⟨a.toArray⟩ ⟨#[45, 45]⟩ m w9 (by rw [show (⟨a.toArray⟩ : ByteArray).size = a.length from List.size_toArray]; omega) hm
    rw [show (⟨a.toArray⟩ : ByteArray).data.toList = a from rfl, show (⟨#[45, 45]⟩ : ByteArray).data.toList = [45, 45] from rfl, hn] at h9
    exact h9)
  have HE := hide hE
  clear h hc hn hE
  go_enter Tryz.func81, Tryz.ntmps81
  go_wp2
  go_region_with (first
    | (go_at_call 101; refine CU.out.mono ?_; rintro e w1 ⟨rfl, h1⟩; have M1 := hide (env_max (rd_env h1 HD.out hlt)); have H1 := hide (show RdP R w b x1 x2 x3 w1 from ⟨h1.1, h1.2.os, h1.2.tape, h1.2.output, h1.2.size, h1.2.block⟩); clear h1)
    | (go_at_call 100; refine (CK.out _ M1.out).mono ?_; rintro e w2 ⟨rfl, hw2⟩; rw [hw2]; clear hw2 w2)
    | (go_at_call 59; refine (i_wantY _ _).mono ?_; rintro e w3 ⟨rfl, hw3⟩; rw [hw3]; clear hw3 w3))
  all_goals
    go_wp2
    go_end0
    exact ⟨rfl, H1.out⟩
end
end Go.Proofs.YthcggdjkfebemaaGreatDoor

/-
  Plain facts, of no program: a region that draws its order of evaluation, by an invariant: what each operation leaves in its place, whatever came up ahead of it.
-/
namespace Go.Proofs.YthcggdjkfebemaaGreatDoor
open Go.RowKit
set_option linter.unusedVariables false
set_option linter.unusedSimpArgs false
theorem filter_less {p p' : Nat → Bool} {i : Nat} (hpp : ∀ k, p' k = true → p k = true) (hi : p i = true) (hi' : p' i = false) : ∀ (xs : List Nat), i ∈ xs → (xs.filter p').length < (xs.filter p).length
  | [], h => by cases h
  | x :: xs, h => by
    have hle : ∀ ys : List Nat, (ys.filter p').length ≤ (ys.filter p).length := by
      intro ys
      induction ys with
      | nil => simp
      | cons y ys ih =>
        by_cases hy : p' y = true
        · rw [List.filter_cons_of_pos hy, List.filter_cons_of_pos (hpp y hy)]; simpa using ih
        · rw [List.filter_cons_of_neg hy]
          by_cases hz : p y = true
          · rw [List.filter_cons_of_pos hz, List.length_cons]; omega
          · rw [List.filter_cons_of_neg hz]; exact ih
    rcases List.mem_cons.1 h with e | e
    · subst e
      rw [List.filter_cons_of_neg (by rw [hi']; decide), List.filter_cons_of_pos hi, List.length_cons]
      have := hle xs
      omega
    · have ih := filter_less hpp hi hi' xs e
      by_cases hy : p' x = true
      · rw [List.filter_cons_of_pos hy, List.filter_cons_of_pos (hpp x hy)]; simpa using ih
      · rw [List.filter_cons_of_neg hy]
        by_cases hz : p x = true
        · rw [List.filter_cons_of_pos hz, List.length_cons]; omega
        · rw [List.filter_cons_of_neg hz]; exact ih
section
variable {P : Program} {ops : Array Oper} {Q : Exit → Act → World → Prop}
/-- How many operations have not come up yet. -/
def left (n : Nat) (l : Array Bool) : Nat := ((List.range n).filter fun k => !(l.getD k true)).length
theorem left_less {n i : Nat} {l : Array Bool} (hi : i < n) (h : l.getD i true = false) : left n (l.setIfInBounds i true) < left n l := by
  have hsz : i < l.size := by
    rcases Nat.lt_or_ge i l.size with h' | h'
    · exact h'
    · rw [Array.getD_eq_getD_getElem?, Array.getElem?_eq_none h'] at h; simp at h
  refine filter_less (i := i) (fun k hk => ?_) (by simp [h]) ?_ _ (List.mem_range.2 hi)
  · by_cases e : i = k
    · subst e; simp [h]
    · rw [getD_set_ne true e] at hk; exact hk
  · rw [Array.getD_eq_getD_getElem?]
    simp [hsz]
theorem wpAny_inv (I : Array Bool → Act → World → Prop)
    (hdone : ∀ l a w, I l a w → Region.ready .any ops l = [] → Q .normal a w)
    (hstep : ∀ l a w i, I l a w → i ∈ Region.ready .any ops l → wpOp P ops Q i (I (l.setIfInBounds i true)) a w) :
    ∀ (fuel : Nat) (l : Array Bool) (a : Act) (w : World), left ops.size l ≤ fuel → I l a w → wpAny P .any ops Q fuel l a w := by
  have hlt : ∀ (l : Array Bool) (i : Nat), i ∈ Region.ready .any ops l → i < ops.size ∧ l.getD i true = false := by
    intro l i hi
    obtain ⟨h0, o, ho, _⟩ := mem_ready.1 hi
    exact ⟨(Array.getElem?_eq_some_iff.1 ho).1, h0⟩
  intro fuel
  induction fuel with
  | zero =>
    intro l a w hf hI
    have hnil : Region.ready .any ops l = [] := by
      cases hr : Region.ready .any ops l with
      | nil => rfl
      | cons i is =>
        obtain ⟨h1, h2⟩ := hlt l i (by rw [hr]; exact List.mem_cons_self ..)
        have := left_less h1 h2
        omega
    exact ⟨hnil, hdone l a w hI hnil⟩
  | succ fuel ih =>
    intro l a w hf hI
    refine ⟨hdone l a w hI, fun i hi => ?_⟩
    obtain ⟨h1, h2⟩ := hlt l i hi
    have := left_less h1 h2
    exact wpOp_mono (fun a' w' h' => ih _ a' w' (by omega) h') (hstep l a w i hI hi)
/-- A region that draws its order: 'V i' is what operation 'i' leaves at its place 'D i' of the frame 'A'; 'J' is what holds of the world throughout. -/
theorem wp_region_inv {id : Nat} {w : World} (hm : P.follows .mixedOrders = true)
    (hlow : (List.range ops.size).all (fun i => ((ops[i]?).map fun o => o.after.all fun e => !(Region.binds .any e) || decide (e.on < i)).getD true) = true)
    (A : (Nat → Value) → Act) (D : Nat → Nat) (V : Nat → Value → World → Prop) (J : World → Prop) (u0 : Nat → Value) (hJ : J { w with drawn := w.drawn + 1 })
    (hput : ∀ i o, ops[i]? = some o → ∀ u v, (A u).put o.dst v = A (fun k => if k = D i then v else u k))
    (hD : ∀ i k, i < ops.size → k < ops.size → i ≠ k → D i ≠ D k)
    (step : ∀ i o, ops[i]? = some o → ∀ u w, J w → (∀ e ∈ o.after, Region.binds .any e = true → V e.on (u (D e.on)) w) →
      ∀ K : Act → World → Prop, (∀ v w', J w' → V i v w' → (∀ k x, V k x w → V k x w') → K ((A u).put o.dst v) w') →
        if Region.wanted o (yielded ops (A u).tmps) = true then Oper.wp P o (A u) w K Q else K ((A u).put o.dst undef) w)
    (done : ∀ u w, J w → (∀ k, k < ops.size → V k (u (D k)) w) → Q .normal (A u) w) :
    (Code.region id ops true).wp P Q (A u0) w := by
  refine wp_region_any hm ?_
  refine wpAny_inv (fun l a w => l.size = ops.size ∧ J w ∧ ∃ u, a = A u ∧ ∀ k, k < ops.size → l.getD k false = true → V k (u (D k)) w) ?_ ?_ _ _ _ _ ?_ ?_
  · rintro l a w ⟨hl, hj, u, rfl, hV⟩ hr
    refine done u w hj (fun k hk => hV k hk ?_)
    have all : ∀ (n : Nat), n ≤ ops.size → ∀ k, k < n → l.getD k false = true := by
      intro n
      induction n with
      | zero => intro _ k hk; omega
      | succ n ih =>
        intro hn k hk
        by_cases e : k < n
        · exact ih (by omega) k e
        · have e : k = n := by omega
          subst e
          have hks : k < ops.size := by omega
          cases hb : l.getD k true with
          | true =>
            rw [Array.getD_eq_getD_getElem?, Array.getElem?_eq_getElem (by omega)] at hb ⊢
            simpa using hb
          | false =>
            exfalso
            have hmem : k ∈ Region.ready .any ops l := by
              refine mem_ready.2 ⟨hb, ops[k], Array.getElem?_eq_getElem hks, fun e he hbd => ?_⟩
              have h1 := List.all_eq_true.1 hlow k (List.mem_range.2 hks)
              rw [Array.getElem?_eq_getElem hks] at h1
              simp only [Option.map_some, Option.getD_some] at h1
              have h2 := Array.all_eq_true_iff_forall_mem.1 h1 e he
              rw [hbd] at h2
              exact ih (by omega) e.on (of_decide_eq_true (by simpa using h2))
            rw [hr] at hmem
            cases hmem
    exact all ops.size (Nat.le_refl _) k hk
  · rintro l a w i ⟨hl, hj, u, rfl, hV⟩ hi
    obtain ⟨h0, o, ho, hdep⟩ := mem_ready.1 hi
    have hilt := (Array.getElem?_eq_some_iff.1 ho).1
    refine wpOp_step ho (fun K' hK => ?_)
    refine step i o ho u w hj (fun e he hb => ?_) K' (fun v w' hj' hv hmono => ?_)
    · have h1 := List.all_eq_true.1 hlow i (List.mem_range.2 hilt)
      rw [ho] at h1
      simp only [Option.map_some, Option.getD_some] at h1
      have h2 := Array.all_eq_true_iff_forall_mem.1 h1 e he
      rw [hb] at h2
      have h3 : e.on < i := of_decide_eq_true (by simpa using h2)
      exact hV e.on (by omega) (hdep e he hb)
    · refine hK _ _ ⟨by simp [hl], hj', _, hput i o ho u v, fun k hk hl' => ?_⟩
      by_cases e : i = k
      · subst e; simpa using hv
      · have hd := hD k i hk hilt (fun h => e h.symm)
        rw [if_neg hd]
        rw [getD_set_ne false e] at hl'
        exact hmono k _ (hV k hk hl')
  · have : left ops.size (Array.replicate ops.size false) ≤ (List.range ops.size).length := List.length_filter_le _ _
    simpa using this
  · refine ⟨by simp, hJ, u0, rfl, fun k hk hl => ?_⟩
    rw [Array.getD_eq_getD_getElem?] at hl
    simp [hk] at hl
end
end Go.Proofs.YthcggdjkfebemaaGreatDoor
