/-
  Contracts of Go's strings.Replacer at six strings of one byte each: how it is made.
-/
import Derived.Test.YtpfhjgddocglaaaWhM
import Derived.Test.YtpfhjgddocglaaaChecked
import Derived.WalkKit
import Derived.WalkLawsBesides
import Derived.Below
import Derived.OwnWalk
import Derived.Laws.OwnMore
import Derived.Deep.AppendLies
import Derived.Deep.QuietTactic
import Derived.Deep.Draws
import Derived.KernelRfl
namespace Go.Proofs.Ytpfhjgddocglaaa
open Go.RowKit
set_option linter.unusedVariables false
set_option linter.unusedSimpArgs false
theorem infoSt : (Try.prog.info? 9).map (fun i => (i.zero, i.size, i.bytes)) = some (some (.string ⟨#[]⟩), 1, 16) := by kernel_rfl
def sixV : List Value := [.string ⟨#[9]⟩, .string ⟨#[32]⟩, .string ⟨#[10]⟩, .string ⟨#[32]⟩, .string ⟨#[13]⟩, .string ⟨#[32]⟩]
def Rep (w : World) (R : Nat) (a b c : Int) (f s : Value) : Prop := w.heap[R]? = some (.cells #[.int .u32 a, .int .i32 b, .int .u32 c, f, s] 60 (0, 0))
def NrAns (w : World) (e : Ending) (w' : World) : Prop := ∃ R g cap, e = .returned (.pointer (some ⟨R, 0, none⟩)) ∧ (w.heap.size ≤ R ∧ g < R) ∧ Rep w' R 0 0 0 .nilIface (.slice (some ⟨g, 0, none⟩) 6 cap) ∧ w'.ownsRow w.heap.size 9 1 (.slice (some ⟨g, 0, none⟩) 6 cap) 6 sixV ∧ Below w.heap.size w w'
set_option maxHeartbeats 2000000 in
theorem n_repl (A : Nat) (w : World) (h : w.heap[A]? = some (.cells sixV.toArray 9 (0, 0))) :
    Calls Try.prog 12 #[.slice (some ⟨A, 0, none⟩) 6 6] w (NrAns w) := by
  obtain ⟨i0, hi0, hz0, hz1, hz2⟩ := info_parts infoSt
  have HN := hide (World.news_of_block h)
  have hlt : A < w.heap.size := (Array.getElem?_eq_some_iff.1 h).1
  clear h
  go_enter Try.func12, Try.ntmps12
  go_wp2_with (at_builtin; refine wpList_append_lies _ (by rfl) (.const (.slice none 0 0)) (.tmp 8) 36 (by rfl) w.heap.size 9 i0 _ 1 16 Try.underlying36 hi0 hz0 hz1 hz2 rfl (by omega) (.slice none 0 0) 0 [] (by rfl) (World.ownsRow_nil _ _ _ _) ⟨A, 0, none⟩ 6 6 sixV (by rfl) (by rfl) HN.out (by simp [Value.oneCell', sixV]) (by omega) (by unfold maxLen; omega) (by omega) (Nat.le_refl _) w.heap.size rfl ?_; intro g cap w1 hown hgrow hat hlt1; have HO := hide hown; have HG := hide hgrow; have HA := hide hat; clear hown hgrow hat)
  go_ret
  have hb1 : Below w.heap.size w w1 := (Below.refl _ _).grown HG.out (Nat.le_refl _) (fun k hk => by cases hk)
  exact ⟨w1.heap.size, g, cap, rfl, ⟨hb1.size, hlt1⟩, heap_alloc_new w1 _, HO.out.alloc _, hb1.alloc hb1.size _⟩
end Go.Proofs.Ytpfhjgddocglaaa
