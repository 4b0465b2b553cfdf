/-
  Contract: the specification's ReadDec, at every text.
-/
import Derived.Test.YtdglamiifcagoacDoorReadS2
namespace Go.Proofs.YtdglamiifcagoacDoor
open Go.RowKit
set_option linter.unusedSimpArgs false
set_option linter.unusedVariables false
theorem read_none : readDecA (⟨#[]⟩ : ByteArray) = (false, ByteArray.empty, 0, false) := by
  have h : badA (⟨#[]⟩ : ByteArray) = true := by
    have e1 : wholeA (⟨#[]⟩ : ByteArray) = ⟨#[]⟩ := empty_of _ (by simp [wholeA, ByteArray.size])
    have e2 : partA (⟨#[]⟩ : ByteArray) = ⟨#[]⟩ := empty_of _ (by simp [partA, ByteArray.size])
    rw [badA, e1, e2]; rfl
  have h2 : restA (⟨#[]⟩ : ByteArray) = ⟨#[]⟩ := by simp [restA, ByteArray.size]
  rw [readDecA, readA, h2, if_pos h]
set_option maxHeartbeats 2000000 in
theorem s_read_n (s : ByteArray) (w : World) (hs : s.size ≤ 1048576) (h0 : s.size = 0) : Calls Tryd.prog 32 #[.string s] w fun e w' => e = .returned (resV (readDecA s)) ∧ Below w.heap.size w w' := by
  have := empty_of s h0
  subst this
  rw [read_none]
  have hdx : digsB (⟨#[]⟩ : ByteArray) = true := rfl
  go_enter Tryd.func32, Tryd.ntmps32
  go_wp2
  go_loop [5] (fun vi => vi = .int .i64 0) (fun _ => 0)
  case atStart => rfl
  case round =>
    subst hrel
    go_wp2_with (go_at_call 30; refine (s_digs _ _ (by simp [maxLen, ByteArray.size])).mono ?_; rintro e w9 ⟨rfl, rfl⟩)
    exact bodyPost_ret (v := .tuple #[.agg #[.bool false, .string ⟨#[]⟩, .int .i64 0], .bool false]) (by simp [results, Tryd.results32, go_sem]) rfl ⟨rfl, (Below.refl _ _).alloc (Nat.le_refl _) _⟩
theorem s_read (s : ByteArray) (w : World) (hs : s.size ≤ 1048576) : Calls Tryd.prog 32 #[.string s] w fun e w' => e = .returned (resV (readDecA s)) ∧ Below w.heap.size w w' := by
  rcases (show (0 < s.size ∧ at8 s 0 = 45) ∨ (0 < s.size ∧ at8 s 0 = 43) ∨ (0 < s.size ∧ ¬ at8 s 0 = 45 ∧ ¬ at8 s 0 = 43) ∨ s.size = 0 by omega) with ⟨h0, h1⟩ | ⟨h0, h1⟩ | ⟨h0, h1, h2⟩ | h0
  · exact s_read_m s w hs h0 h1
  · exact s_read_p s w hs h0 h1
  · exact s_read_o s w hs h0 h1 h2
  · exact s_read_n s w hs h0
end Go.Proofs.YtdglamiifcagoacDoor
