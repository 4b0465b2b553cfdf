/-
  Contracts: the law's look whether two documents are the same, at two that are; the drawn document to print.
-/
import Derived.Test.YthcggdjkfebemaaGreatDoorB28
import Derived.Deep.QuietTactic
namespace Go.Proofs.YthcggdjkfebemaaGreatDoor
open Go.RowKit Go.Joins
set_option linter.unusedVariables false
set_option linter.unusedSimpArgs false
set_option maxRecDepth 100000 in
set_option maxHeartbeats 8000000 in
theorem l_sameItems (D : Dc) (n : Nat) (a1 a2 : Option Addr) (c1 c2 : Nat) (w : World) (hX : D.n = n) (hn : n ≤ 1048576) (hnr : ∀ j, j < n → D.AC j ≤ 1048576) (h1 : DcAt w a1 D w.heap.size) (h2 : DcAt w a2 D w.heap.size) :
    Calls Tryz.prog 12 #[.slice a1 n c1, .slice a2 n c2] w fun e w' => e = .returned (.bool true) ∧ Below w.heap.size w w' := by
  have H1 := hide h1
  have H2 := hide h2
  have HNR := hide hnr
  have HX := hide hX
  have hne : ((n : Int) != (n : Int)) = false := by simp
  clear h1 h2 hnr hX
  go_enter Tryz.func12, Tryz.ntmps12
  go_wp2_with fail
  go_loopw [5] (fun iv wr => ∃ i : Nat, i ≤ n ∧ iv = .int .i64 i ∧ Hid (Below w.heap.size w wr)) (fun iv _ => n - (intOf iv).toNat)
  case atStart => exact ⟨0, Nat.zero_le _, rfl, hide (Below.refl _ _)⟩
  case round =>
    obtain ⟨i, hi, rfl, HB⟩ := hrel
    by_cases hlt : i < n
    · have hii : (i : Int) < (n : Int) := by omega
      have hi0 : (0 : Int) ≤ (i : Int) := by omega
      obtain ⟨b1, o1, rfl, hb1, hr1⟩ := dcAt_go H1.out HB.out (by rw [HX.out]; omega)
      obtain ⟨b2, o2, rfl, hb2, hr2⟩ := dcAt_go H2.out HB.out (by rw [HX.out]; omega)
      obtain ⟨ad1, cp1, ⟨p0, p1, p2, p3⟩, g1, l1⟩ := hr1 i (by rw [HX.out]; exact hlt)
      obtain ⟨ad2, cp2, ⟨q0, q1, q2, q3⟩, g2, l2⟩ := hr2 i (by rw [HX.out]; exact hlt)
      have hnr := HNR.out i hlt
      have G1 := hide g1
      have G2 := hide g2
      have hs := HB.out.size
      obtain ⟨U, hU⟩ : ∃ U, D.U i = U := ⟨_, rfl⟩
      obtain ⟨NM, hNM⟩ : ∃ NM, D.NM i = NM := ⟨_, rfl⟩
      obtain ⟨TX, hTX⟩ : ∃ TX, D.TX i = TX := ⟨_, rfl⟩
      obtain ⟨AC, hAC⟩ : ∃ AC, D.AC i = AC := ⟨_, rfl⟩
      obtain ⟨AN, hAN⟩ : ∃ AN, D.AN i = AN := ⟨_, rfl⟩
      obtain ⟨AV, hAV⟩ : ∃ AV, D.AV i = AV := ⟨_, rfl⟩
      rw [hU] at p0 q0
      rw [hNM] at p1 q1
      rw [hTX] at p2 q2
      rw [hAC] at p3 q3 G1 G2 hnr
      rw [hAN, hAV] at G1 G2
      have m0 : (U != U) = false := by simp
      have m1 : (NM.toList != NM.toList) = false := by simp
      have m2 : (TX.toList != TX.toList) = false := by simp
      have m3 : ((AC : Int) != (AC : Int)) = false := by simp
      clear g1 g2 hr1 hr2 hU hNM hTX hAC hAN hAV l1 l2
      go_wp2
      go_quiet (fail)
      revert nq; intro n1
      have s1 : (wr.drewN n1).cell? ⟨b1, o1 + i * 4 + 3, none⟩ = some (.slice ad1 AC cp1) := p3
      have s2 : (wr.drewN n1).cell? ⟨b2, o2 + i * 4 + 3, none⟩ = some (.slice ad2 AC cp2) := q3
      go_wp2_with fail
      go_loopw [6] (fun kv wx => ∃ k : Nat, k ≤ AC ∧ kv = .int .i64 k ∧ Hid (∃ q, wx = wr.drewN q)) (fun kv _ => AC - (intOf kv).toNat)
      case atStart => exact ⟨0, Nat.zero_le _, rfl, hide ⟨_, rfl⟩⟩
      case round =>
        obtain ⟨k, hk, rfl, HC⟩ := hrel
        obtain ⟨q, rfl⟩ := HC.out
        have t1 : (wr.drewN q).cell? ⟨b1, o1 + i * 4 + 3, none⟩ = some (.slice ad1 AC cp1) := p3
        have t2 : (wr.drewN q).cell? ⟨b2, o2 + i * 4 + 3, none⟩ = some (.slice ad2 AC cp2) := q3
        by_cases hk2 : k < AC
        · have hki : (k : Int) < (AC : Int) := by omega
          have hk0 : (0 : Int) ≤ (k : Int) := by omega
          obtain ⟨rb1, ro1, rfl, hrb1, hc1⟩ := G1.out (by omega)
          obtain ⟨rb2, ro2, rfl, hrb2, hc2⟩ := G2.out (by omega)
          obtain ⟨u1, u2⟩ := hc1 k hk2
          obtain ⟨v1, v2⟩ := hc2 k hk2
          obtain ⟨x9, hx9⟩ : ∃ x9, AN k = x9 := ⟨_, rfl⟩
          obtain ⟨y9, hy9⟩ : ∃ y9, AV k = y9 := ⟨_, rfl⟩
          rw [hx9] at u1 v1
          rw [hy9] at u2 v2
          clear hc1 hc2 hx9 hy9
          go_wp2
          go_quiet (fail)
          revert nq; intro n2
          go_wp2
          go_roundw
          case rel => exact ⟨k + 1, by omega, by go_num, hide ⟨_, rfl⟩⟩
          case measure => simp [intOf]; omega
        · have hki : ¬ (k : Int) < (AC : Int) := by omega
          go_wp2
          go_roundw
          case rel => exact ⟨i + 1, by omega, by go_num, hide (HB.out.trans ⟨rfl, rfl, rfl, Nat.le_refl _, fun _ _ => rfl⟩)⟩
          case measure => simp [intOf]; omega
    · have hii : ¬ (i : Int) < (n : Int) := by omega
      go_wp2
      go_ret
      exact ⟨rfl, HB.out⟩
set_option maxHeartbeats 1000000 in
theorem d_print (a : Option Addr) (n cap : Nat) (zs : List Int) (w : World) (hgrow : ∀ G, GrowAt G a n cap zs) (hl : zs.length = n) (hz : ∀ x ∈ zs, 0 ≤ x ∧ x ≤ 255) (hn : n ≤ 1048576) (hs : SrcAt w a zs w.heap.size) :
    Calls Tryz.prog 7 #[.slice a n cap] w fun e w' => ∃ ad m c D, e = .returned (.slice ad m c) ∧ D.n = m ∧ (1 ≤ m ∧ m ≤ 40) ∧ dcTot D ≤ 1048576 ∧ DcAt w' ad D w'.heap.size ∧ Below w.heap.size w w' := by
  have HS := hide hs
  have HL := hide hl
  have HZ := hide hz
  have HGR := hide hgrow
  clear hs hl hz hgrow
  go_enter Tryz.func7, Tryz.ntmps7
  go_wp2_with fail
  refine (d_open a n cap zs _ HL.out HZ.out hn HS.out).mono ?_
  rintro e w1 ⟨rfl, hrd, hb1⟩
  have HRD := hide hrd
  have HB1 := hide hb1
  clear hrd hb1
  go_wp2_with fail
  refine (d_doc w.heap.size a n cap zs _ (HGR.out _) HRD.out).mono ?_
  rintro e w2 ⟨ad, m, c, D, rfl, hg, hm1, hm2⟩
  have HGS := hide hg
  clear hg
  go_wp2
  go_ret
  exact ⟨ad, m, c, D, rfl, (drIt_dc HGS.out.2.1).1, ⟨hm1, hm2⟩, drIt_tot HGS.out.2.1 (by omega), (drIt_dc HGS.out.2.1).2, HB1.out.trans HGS.out.2.2.1⟩
end Go.Proofs.YthcggdjkfebemaaGreatDoor
