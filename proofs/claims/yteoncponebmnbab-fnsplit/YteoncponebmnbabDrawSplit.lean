/-
  The contract of the draw for Split: some text of at most 13 bytes; nothing that was there is written.
-/
import Derived.Test.YteoncponebmnbabDrawBytes
namespace Go.Proofs.Yteoncponebmnbab
open Go.RowKit
set_option linter.unusedVariables false
set_option linter.unusedSimpArgs false
theorem below_drew {G : Nat} {a : Option Addr} {n cap : Nat} {zs : List Int} {w w1 w2 : World} (h : Below G w w1) (hd : Drew G a n cap zs w1 w2) (hG : G ≤ w1.heap.size) : Below G w w2 :=
  h.grown hd.2 hG (fun k hk => by cases hk; exact Nat.le_refl _)

theorem one_colon : (⟨#[58]⟩ : ByteArray).size = 1 := rfl
set_option maxHeartbeats 2000000 in
theorem d_split (a : Option Addr) (n cap : Nat) (zs : List Int) (w : World) (hl : zs.length = n) (hz : ∀ x ∈ zs, 0 ≤ x ∧ x ≤ 255) (hn : n ≤ 1048576) (hs : SrcAt w a zs w.heap.size) :
    Calls Try.prog 5 #[.slice a n cap] w fun e w' => ∃ s : ByteArray, s.size ≤ 13 ∧ e = .returned (.string s) ∧ Below w.heap.size w w' := by
  obtain ⟨G, hG⟩ : ∃ G, w.heap.size = G := ⟨_, rfl⟩
  have HS := hide hs
  have HL := hide hl
  have HZ := hide hz
  have HG := hide hG
  clear hs hl hz hG
  go_enter Try.func5, Try.ntmps5
  go_wp2_with fail
  refine (d_open a n cap zs _ HL.out HZ.out hn HS.out).mono ?_
  rintro e w1 ⟨rfl, hr1, hb1⟩
  rw [HG.out] at hr1 hb1 ⊢
  have R1 := hide hr1
  have B1 := hide hb1
  clear hr1 hb1
  go_wp2_with fail
  refine (d_name G a n cap zs _ R1.out).mono ?_
  rintro e w2 ⟨s1, hs1, hs1', rfl, hd⟩
  have B2 := hide (below_drew B1.out hd (Nat.le_of_lt (rd_lt R1.out)))
  have R2 := hide hd.1
  clear hd
  go_wp2_with fail
  refine (d_once G a n cap zs 2 _ (by omega) (by omega) R2.out).mono ?_
  rintro e w3 ⟨x1, rfl, hd⟩
  have B3 := hide (below_drew B2.out hd (Nat.le_of_lt (rd_lt R2.out)))
  have R3 := hide hd.1
  clear hd
  cases x1
  · go_wp2_with fail
    refine (d_once G a n cap zs 8 _ (by omega) (by omega) R3.out).mono ?_
    rintro e w8 ⟨x2, rfl, hd⟩
    have B8 := hide (below_drew B3.out hd (Nat.le_of_lt (rd_lt R3.out)))
    have R8 := hide hd.1
    clear hd
    cases x2
    · go_wp2
      go_ret
      exact ⟨s1, by omega, rfl, by rw [HG.out]; exact B8.out⟩
    · have hz8 : (s1 ++ ⟨#[58]⟩ : ByteArray).size ≤ 6 := by rw [ByteArray.size_append, one_colon]; omega
      go_wp2_with fail
      refine (d_bytes G a n cap zs 1 _ (by omega) (by omega) R8.out).mono ?_
      rintro e w9 ⟨sb, hsb, rfl, hd⟩
      have B9 := hide (below_drew B8.out hd (Nat.le_of_lt (rd_lt R8.out)))
      have hz9 : (s1 ++ ⟨#[58]⟩ ++ sb : ByteArray).size ≤ 13 := by rw [ByteArray.size_append]; omega
      clear hd
      go_wp2
      go_ret
      exact ⟨_, hz9, rfl, by rw [HG.out]; exact B9.out⟩
  · have hz4 : (s1 ++ ⟨#[58]⟩ : ByteArray).size ≤ 6 := by rw [ByteArray.size_append, one_colon]; omega
    go_wp2_with fail
    refine (d_name G a n cap zs _ R3.out).mono ?_
    rintro e w4 ⟨s2, hs2, hs2', rfl, hd⟩
    have B4 := hide (below_drew B3.out hd (Nat.le_of_lt (rd_lt R3.out)))
    have R4 := hide hd.1
    clear hd
    have hz5 : (s1 ++ ⟨#[58]⟩ ++ s2 : ByteArray).size ≤ 11 := by rw [ByteArray.size_append]; omega
    go_wp2_with fail
    refine (d_once G a n cap zs 8 _ (by omega) (by omega) R4.out).mono ?_
    rintro e w8 ⟨x2, rfl, hd⟩
    have B8 := hide (below_drew B4.out hd (Nat.le_of_lt (rd_lt R4.out)))
    have R8 := hide hd.1
    clear hd
    cases x2
    · go_wp2
      go_ret
      exact ⟨(s1 ++ ⟨#[58]⟩ ++ s2), by omega, rfl, by rw [HG.out]; exact B8.out⟩
    · have hz8 : ((s1 ++ ⟨#[58]⟩ ++ s2) ++ ⟨#[58]⟩ : ByteArray).size ≤ 12 := by rw [ByteArray.size_append, one_colon]; omega
      go_wp2_with fail
      refine (d_bytes G a n cap zs 1 _ (by omega) (by omega) R8.out).mono ?_
      rintro e w9 ⟨sb, hsb, rfl, hd⟩
      have B9 := hide (below_drew B8.out hd (Nat.le_of_lt (rd_lt R8.out)))
      have hz9 : ((s1 ++ ⟨#[58]⟩ ++ s2) ++ ⟨#[58]⟩ ++ sb : ByteArray).size ≤ 13 := by rw [ByteArray.size_append]; omega
      clear hd
      go_wp2
      go_ret
      exact ⟨_, hz9, rfl, by rw [HG.out]; exact B9.out⟩
end Go.Proofs.Yteoncponebmnbab
