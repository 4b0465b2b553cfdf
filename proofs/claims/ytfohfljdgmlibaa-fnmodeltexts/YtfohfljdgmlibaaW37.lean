/-
  Texts put together: ShelfR, RiA.
-/
import Derived.Shelf.Small.Wraps
import Derived.Shelf.Strings.Prefix
import Derived.Test.YtfohfljdgmlibaaProg
import Derived.Test.YtfohfljdgmlibaaW4
import Derived.Test.YtfohfljdgmlibaaW25
import Derived.WalkLawsBesides
/-
  Contracts of Go's own library at this program, laid by the shelf's plain mode: each is one application of a theorem of the library.
-/
namespace Go.Proofs
open Go.Shelf
def Try.lays103_ren : Go.Shelf.Ren := ⟨fun | 103 => 82 | 210 => 87 | 206 => 88 | n => n, fun | 9 => 9 | 4 => 4 | 24 => 107 | 3 => 3 | n => n, fun | n => n⟩
theorem Try.lays103 : Go.Proofs.Lays.n103 Try.prog Try.lays103_ren := {
  mixed := by kernel_rfl
  f103 := Try.func82.trans (congrArg some (by kernel_rfl))
  f206 := Try.func88.trans (congrArg some (by kernel_rfl))
  f210 := Try.func87.trans (congrArg some (by kernel_rfl))
  t3 := Try.underlying3
  a3 := Try.isAgg3
  z3 := Try.sizeOf3
  v3 := Try.zeroValue3
  t4 := Try.underlying4
  a4 := Try.isAgg4
  z4 := Try.sizeOf4
  v4 := Try.zeroValue4
  t9 := Try.underlying9
  a9 := Try.isAgg9
  z9 := Try.sizeOf9
  v9 := Try.zeroValue9
  t24 := Try.underlying107
  a24 := Try.isAgg107
  z24 := Try.sizeOf107
  v24 := Try.zeroValue107 }
open Go.RowKit in
/-- strings.CutPrefix: "CutPrefix returns s without the provided leading prefix string and reports whether it found the prefix. If s doesn't start with prefix, CutPrefix returns s, false. If prefix is the empty string, CutPrefix returns s, true.": IT RETURNS '(Lib.trimPrefix s p, Lib.hasPrefix s p)'; the world is as it was. (LAID: no walk: one application.) -/
theorem Try.strings_CutPrefix (s p : ByteArray) (w : World) :
    Calls Try.prog 82 #[.string s, .string p] w fun e w' => e = .returned (.tuple #[.string ⟨(Lib.trimPrefix s.data.toList p.data.toList).toArray⟩, .bool (Lib.hasPrefix s.data.toList p.data.toList)]) ∧ w' = w := Any.strings_CutPrefix Try.lays103 s p w
def Try.lays99_ren : Go.Shelf.Ren := ⟨fun | 99 => 83 | 206 => 88 | n => n, fun | 9 => 9 | 4 => 4 | 3 => 3 | n => n, fun | n => n⟩
theorem Try.lays99 : Go.Proofs.Lays.n99 Try.prog Try.lays99_ren := {
  mixed := by kernel_rfl
  f99 := Try.func83.trans (congrArg some (by kernel_rfl))
  f206 := Try.func88.trans (congrArg some (by kernel_rfl))
  t3 := Try.underlying3
  a3 := Try.isAgg3
  z3 := Try.sizeOf3
  v3 := Try.zeroValue3
  t4 := Try.underlying4
  a4 := Try.isAgg4
  z4 := Try.sizeOf4
  v4 := Try.zeroValue4
  t9 := Try.underlying9
  a9 := Try.isAgg9
  z9 := Try.sizeOf9
  v9 := Try.zeroValue9 }
open Go.RowKit Go.Lib in
/-- strings.HasPrefix: "HasPrefix reports whether the string s begins with prefix.": IT RETURNS 'Lib.hasPrefix s prefix'; the world is as it was. (LAID: no walk: one application.) -/
theorem Try.strings_HasPrefix (s p : ByteArray) (w : World) :
    Calls Try.prog 83 #[.string s, .string p] w fun e w' => e = .returned (.bool (Lib.hasPrefix s.data.toList p.data.toList)) ∧ w' = w := Any.strings_HasPrefix Try.lays99 s p w
end Go.Proofs

/-
  Contracts of the program's reader of models: its cells, one look at a sign, what must stand there, the sign behind a node.
-/
namespace Go.Proofs.Ytfohfljdgmlibaa
open Go.RowKit Go.Joins
set_option linter.unusedVariables false
set_option linter.unusedSimpArgs false
def MR (w : World) (R : Nat) (u : ByteArray) (ad : Option Addr) (m c : Nat) : Prop := w.heap[R]? = some (.cells #[.string u, .slice ad m c] 78 (0, 0))
section
variable {w w' : World} {R : Nat} {u : ByteArray} {ad : Option Addr} {m c : Nat}
theorem mr_cells (h : MR w R u ad m c) : w.cell? ⟨R, 0, none⟩ = some (.string u) ∧ w.cell? ⟨R, 1, none⟩ = some (.slice ad m c) := by
  have e : ∀ i, w.cell? ⟨R, i, none⟩ = (#[.string u, .slice ad m c] : Array Value)[i]? := fun i => by rw [cell_of_row w R i _ _ (0, 0) h]
  exact ⟨e 0, e 1⟩
theorem mr_frozen (h : MR w R u ad m c) (i : Nat) : w.frozen? ⟨R, i, none⟩ = false := frozen_of_row w R i _ _ h
theorem mr_lt (h : MR w R u ad m c) : R < w.heap.size := (Array.getElem?_eq_some_iff.1 h).1
theorem mr_kp {S : Nat → Prop} (h : MR w R u ad m c) (k : Kp S w w') (hS : ¬ S R) : MR w' R u ad m c := (k.block R (mr_lt h) hS).trans h
theorem mr_u (h : MR w R u ad m c) (u' : ByteArray) : MR (w.setCell ⟨R, 0, none⟩ (.string u')) R u' ad m c := heap_setCell_same w R 0 _ _ (.string u') h
theorem mr_o (h : MR w R u ad m c) (ad' : Option Addr) (m' c' : Nat) : MR (w.setCell ⟨R, 1, none⟩ (.slice ad' m' c')) R u ad' m' c' := heap_setCell_same w R 1 _ _ (.slice ad' m' c') h
end
theorem cut_one (l : List UInt8) (ch : UInt8) : (∃ r, l = ch :: r ∧ Lib.hasPrefix l [ch] = true ∧ Lib.trimPrefix l [ch] = r) ∨ (l.head? ≠ some ch ∧ Lib.hasPrefix l [ch] = false ∧ Lib.trimPrefix l [ch] = l) := by
  cases l with
  | nil => exact .inr ⟨by simp, by simp [Lib.hasPrefix], by simp [Lib.trimPrefix, Lib.hasPrefix]⟩
  | cons d r =>
    by_cases e : d = ch
    · subst e
      exact .inl ⟨r, rfl, by simp [Lib.hasPrefix], by simp [Lib.trimPrefix, Lib.hasPrefix]⟩
    · have e' : ¬ ch = d := fun h => e h.symm
      exact .inr ⟨by simp [e], by simp [Lib.hasPrefix, List.isPrefixOf, e'], by simp [Lib.trimPrefix, Lib.hasPrefix, List.isPrefixOf, e']⟩
/-- What one look at a sign leaves. -/
def TakA (R : Nat) (u : ByteArray) (ad : Option Addr) (m c : Nat) (ch : UInt8) (w : World) (e : Ending) (w' : World) : Prop :=
  ∃ (b : Bool) (u' : ByteArray), e = .returned (.bool b) ∧ MR w' R u' ad m c ∧ Kp (fun k => k = R) w w' ∧ ((b = true ∧ u.data.toList = ch :: u'.data.toList) ∨ (b = false ∧ u' = u ∧ u.data.toList.head? ≠ some ch))
set_option maxHeartbeats 2000000 in
theorem i_takes (R : Nat) (u : ByteArray) (ad : Option Addr) (m c : Nat) (ch : UInt8) (w : World) (h : MR w R u ad m c) :
    Calls Try.prog 69 #[.pointer (some ⟨R, 0, none⟩), .string ⟨#[ch]⟩] w (TakA R u ad m c ch w) := by
  have HH := hide h
  obtain ⟨c0, c1⟩ := mr_cells h
  have f0 := mr_frozen h 0
  clear h
  rcases cut_one u.data.toList ch with ⟨r, e1, e2, e3⟩ | ⟨e1, e2, e3⟩
  · have C : Hid (∀ w, Calls Try.prog 82 #[.string u, .string ⟨#[ch]⟩] w fun e w' => e = .returned (.tuple #[.string ⟨r.toArray⟩, .bool true]) ∧ w' = w) := hide fun w => by
      refine (Try.strings_CutPrefix u ⟨#[ch]⟩ w).mono ?_
      rintro e w' ⟨rfl, rfl⟩
      rw [show (⟨#[ch]⟩ : ByteArray).data.toList = [ch] from rfl, e2, e3]
      exact ⟨rfl, rfl⟩
    have E1 := hide e1
    clear e1 e2 e3
    go_enter Try.func69, Try.ntmps69
    go_wp2_with (first | (go_at_call 82; refine (C.out _).mono ?_; rintro e w9 ⟨rfl, h9⟩; rw [h9]; clear h9 w9))
    go_ret
    exact ⟨true, ⟨r.toArray⟩, rfl, mr_u HH.out _, kp_set (S := fun k => k = R) _ _ _ rfl, .inl ⟨rfl, by rw [E1.out]⟩⟩
  · have hu : (⟨u.data.toList.toArray⟩ : ByteArray) = u := by cases u; simp
    have C : Hid (∀ w, Calls Try.prog 82 #[.string u, .string ⟨#[ch]⟩] w fun e w' => e = .returned (.tuple #[.string u, .bool false]) ∧ w' = w) := hide fun w => by
      refine (Try.strings_CutPrefix u ⟨#[ch]⟩ w).mono ?_
      rintro e w' ⟨rfl, rfl⟩
      rw [show (⟨#[ch]⟩ : ByteArray).data.toList = [ch] from rfl, e2, e3, hu]
      exact ⟨rfl, rfl⟩
    have E1 := hide e1
    clear e1 e2 e3 hu
    go_enter Try.func69, Try.ntmps69
    go_wp2_with (first | (go_at_call 82; refine (C.out _).mono ?_; rintro e w9 ⟨rfl, h9⟩; rw [h9]; clear h9 w9))
    go_ret
    exact ⟨false, u, rfl, mr_u HH.out _, kp_set (S := fun k => k = R) _ _ _ rfl, .inr ⟨rfl, rfl, E1.out⟩⟩
/-- What stands as it must. -/
theorem i_want_yes (p : Value) (w : World) : Calls Try.prog 50 #[p, .bool true] w fun e w' => e = .returned (.tuple #[]) ∧ w' = w := by
  go_enter Try.func50, Try.ntmps50
  go_wp2
  go_end0
  exact ⟨rfl, rfl⟩
/-- It gives up. -/
def GivU (w : World) (e : Ending) (w' : World) (S : Nat → Prop) : Prop := (∃ t v, e = .panicked [{ v := .iface t v, recovered := false }]) ∧ Kp S w w'
theorem i_want_no (p : Value) (S : Nat → Prop) (w : World) : Calls Try.prog 50 #[p, .bool false] w fun e w' => GivU w e w' S := by
  go_enter Try.func50, Try.ntmps50
  go_wp2
  exact ⟨rfl, ⟨_, _, rfl⟩, Kp.refl _ _⟩
end Go.Proofs.Ytfohfljdgmlibaa
