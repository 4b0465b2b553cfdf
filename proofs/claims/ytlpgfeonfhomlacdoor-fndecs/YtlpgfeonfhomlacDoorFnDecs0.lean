/-
  Small facts for the law of numbers and their texts.
-/
import Derived.Test.YtlpgfeonfhomlacDoorDrawDecs
import Derived.Test.YtlpgfeonfhomlacDoorReadI
import Derived.Test.YtlpgfeonfhomlacDoorTextI
import Derived.Test.YtlpgfeonfhomlacDoorTotal
namespace Go.Proofs.YtlpgfeonfhomlacDoor
open Go.RowKit
theorem text_size (n : Bool) (s : ByteArray) (c : Int) : (textB n s c).size ≤ 200 := by
  unfold textB
  split
  · rename_i h
    obtain ⟨_, h2, _⟩ := body_size h
    split
    · rw [ByteArray.size_append, sz1]; omega
    · omega
  · exact Nat.zero_le _
theorem read_right {t s : ByteArray} {n : Bool} {c : Int} (h : readDecA t = (n, s, c, true)) : decB n s c = true := by
  unfold readDecA readA at h
  split at h
  · simp at h
  · exact decRes_right _ _ _ _ _ _ h
theorem mcell2 {w w1 : World} {m : Int} (h0 : 0 < w.heap.size) (h : w.cell? ⟨0, 0, none⟩ = some (.int .i64 m)) (k : Below w.heap.size w w1) : w1.cell? ⟨0, 0, none⟩ = some (.int .i64 m) :=
  (k.cell (p := ⟨0, 0, none⟩) h0).trans h
end Go.Proofs.YtlpgfeonfhomlacDoor
