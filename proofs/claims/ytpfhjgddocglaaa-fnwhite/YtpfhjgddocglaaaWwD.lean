/-
  Contract of the draw for blanks: whatever the code is, some text of at most 14 bytes and some number.
-/
import Derived.Test.YtpfhjgddocglaaaDrOff
import Derived.Test.YtpfhjgddocglaaaWhY
namespace Go.Proofs.Ytpfhjgddocglaaa
open Go.RowKit
set_option linter.unusedVariables false
set_option linter.unusedSimpArgs false
set_option maxHeartbeats 4000000 in
theorem d_white (a : Option Addr) (n cap : Nat) (zs : List Int) (w : World) (hl : zs.length = n) (hz : ∀ x ∈ zs, 0 ≤ x ∧ x ≤ 255) (hn : n ≤ 1048576) (hs : SrcAt w a zs w.heap.size) :
    Calls Try.prog 6 #[.slice a n cap] w fun e w' => ∃ (s : ByteArray) (i : Int), s.size ≤ 14 ∧ e = .returned (.tuple #[.string s, .int .i64 i]) ∧ Below w.heap.size w w' := by
  obtain ⟨G, hG⟩ : ∃ G, w.heap.size = G := ⟨_, rfl⟩
  have HS := hide hs
  have HL := hide hl
  have HZ := hide hz
  have HG := hide hG
  clear hs hl hz hG
  have hz9 : (⟨#[9]⟩ : ByteArray).size = 1 := rfl
  have hz32 : (⟨#[32]⟩ : ByteArray).size = 1 := rfl
  go_enter Try.func6, Try.ntmps6
  go_wp2_with fail
  refine (d_open a n cap zs _ HL.out HZ.out hn HS.out).mono ?_
  rintro e w1 ⟨rfl, hr1, hb1⟩
  rw [HG.out] at hr1 hb1 ⊢
  have R1 := hide hr1
  have B1 := hide hb1
  clear hr1 hb1
  go_wp2_with fail
  refine (d_text G a n cap zs _ R1.out).mono ?_
  rintro e w2 ⟨s1, hs1, rfl, hd⟩
  have B2 := hide (below_drew B1.out hd (Nat.le_of_lt (rd_lt R1.out)))
  have R2 := hide hd.1
  clear hd
  go_wp2_with fail
  refine (d_text G a n cap zs _ R2.out).mono ?_
  rintro e w3 ⟨s2, hs2, rfl, hd⟩
  have B3 := hide (below_drew B2.out hd (Nat.le_of_lt (rd_lt R2.out)))
  have R3 := hide hd.1
  clear hd
  go_wp2_with fail
  refine (d_text G a n cap zs _ R3.out).mono ?_
  rintro e w4 ⟨s3, hs3, rfl, hd⟩
  have B4 := hide (below_drew B3.out hd (Nat.le_of_lt (rd_lt R3.out)))
  have R4 := hide hd.1
  have hG4 := rd_lt hd.1
  clear hd
  go_wp2_with fail
  refine (d_offG G a n cap zs 0 2 _ (by omega) (by omega) (by omega) R4.out).mono ?_
  rintro e w5 ⟨x, rfl, hd⟩
  have B5 := hide (below_drew B4.out hd (Nat.le_of_lt hG4))
  clear hd
  go_wp2
  go_ret2
  exact ⟨_, x, by simp only [ByteArray.size_append]; omega, rfl, by rw [HG.out]; exact B5.out⟩
end Go.Proofs.Ytpfhjgddocglaaa
