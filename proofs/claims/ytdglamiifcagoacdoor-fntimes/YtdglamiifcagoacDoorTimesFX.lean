/-
  The walk of FnTimes: at every two drawn numbers, and a third one.
-/
import Derived.Test.YtdglamiifcagoacDoorTimesFW
namespace Go.Proofs.YtdglamiifcagoacDoor
open Go.RowKit
set_option linter.unusedVariables false
set_option linter.unusedSimpArgs false
set_option maxRecDepth 100000 in
set_option maxHeartbeats 8000000 in
theorem times_walk (a : Option Addr) (n cap : Nat) (zs : List Int) (w : World) (hl : zs.length = n) (hz : ∀ x ∈ zs, 0 ≤ x ∧ x ≤ 255) (hn : n ≤ 1048576) (hs : SrcAt w a zs w.heap.size) :
    Calls Tryd.prog 3 #[.slice a n cap] w fun e w' => e = .returned (.bool true) ∧ Below w.heap.size w w' := by
  have HS := hide hs
  have HL := hide hl
  have HZ := hide hz
  clear hs hl hz
  have hres : Hid (∀ (x : Bool) (y : ByteArray) (z : Int) (o : Bool), resV (x, y, z, o) = .tuple #[.agg #[.bool x, .string y, .int .i64 z], .bool o]) := hide (fun _ _ _ _ => rfl)
  have HM : Hid (∀ x : Nat, x ≤ 61 → x ≤ maxLen) := hide (fun x hx => by unfold maxLen; omega)
  go_enter Tryd.func3, Tryd.ntmps3
  go_wp2_with fail
  refine (l_big0 _ _ _ _ hn).mono ?_
  rintro e w0 ⟨rfl, rfl⟩
  go_wp2_with fail
  refine (d_times2 a n cap zs _ HL.out HZ.out hn HS.out).mono ?_
  rintro e w1 ⟨n1, s1, c1, n2, s2, c2, hz1, hz2, rfl, hb1⟩
  have H1 := hide (HM.out _ hz1)
  have H2 := hide (HM.out _ hz2)
  have HT : Hid (St w0 ((w1.alloc (.cells #[.bool n1, .string s1, .int .i64 c1] 25)).alloc (.cells #[.bool n2, .string s2, .int .i64 c2] 25)) [(w1.heap.size + 1, n2, s2, c2), (w1.heap.size, n1, s1, c1)]) := by
    have := st_push (st_push (st_nil hb1) n1 s1 c1 25) n2 s2 c2 25
    exact hide (by simpa using this)
  clear hb1 hz1 hz2
  obtain ⟨⟨n9, s9, c9, o9⟩, hR⟩ : ∃ R, timesB n1 s1 c1 n2 s2 c2 = R := ⟨_, rfl⟩
  have ER := hide hR
  have H9 : Hid (s9.size ≤ maxLen) := by have := times_size n1 s1 c1 n2 s2 c2; rw [hR] at this; exact HM.out _ (by simpa using Nat.le_succ_of_le this)
  have ET := hide ((times_comm n1 n2 s1 s2 c1 c2).trans hR)
  clear hR
  go_wp2_with fail
  refine (i_times _ _ _ _ _ _ _ H1.out H2.out).mono ?_
  rintro e w2 ⟨rfl, hb2⟩
  rw [ER.out, hres.out]
  replace HT := hide (st_push (st_go HT.out hb2) n9 s9 c9 25)
  clear hb2
  obtain ⟨a0, a1, a2⟩ := st_at HT.out (g := w1.heap.size) (n := n1) (s := s1) (c := c1) (by simp)
  obtain ⟨b0, b1, b2⟩ := st_at HT.out (g := w1.heap.size + 1) (n := n2) (s := s2) (c := c2) (by simp)
  go_wp2_with fail
  refine (s_times _ _ _ _ _ _ _ H1.out H2.out).mono ?_
  rintro e w3 ⟨rfl, hb3⟩
  rw [ER.out, hres.out]
  replace HT := hide (st_push (st_go HT.out hb3) n9 s9 c9 25)
  clear hb3 a0 a1 a2 b0 b1 b2
  obtain ⟨a0, a1, a2⟩ := st_at HT.out (g := w1.heap.size) (n := n1) (s := s1) (c := c1) (by simp)
  obtain ⟨b0, b1, b2⟩ := st_at HT.out (g := w1.heap.size + 1) (n := n2) (s := s2) (c := c2) (by simp)
  obtain ⟨d0, d1, d2⟩ := st_at HT.out (g := w2.heap.size) (n := n9) (s := s9) (c := c9) (by simp)
  cases o9
  · go_wp2
    go_ret
    exact ⟨rfl, HT.out.2⟩
  · have HZZ := hide (times_val ER.out).2.2
    go_wp2_with fail
    refine (i_times _ _ _ _ _ _ _ H2.out H1.out).mono ?_
    rintro e w4 ⟨rfl, hb4⟩
    rw [ET.out, hres.out]
    replace HT := hide (st_push (st_go HT.out hb4) n9 s9 c9 25)
    clear hb4 a0 a1 a2 b0 b1 b2 d0 d1 d2
    obtain ⟨a0, a1, a2⟩ := st_at HT.out (g := w1.heap.size) (n := n1) (s := s1) (c := c1) (by simp)
    obtain ⟨b0, b1, b2⟩ := st_at HT.out (g := w1.heap.size + 1) (n := n2) (s := s2) (c := c2) (by simp)
    obtain ⟨d0, d1, d2⟩ := st_at HT.out (g := w2.heap.size) (n := n9) (s := s9) (c := c9) (by simp)
    have hk : (s1.toList.isEmpty = true ∧ s9.toList.isEmpty = true) ∨ (s1.toList.isEmpty = false ∧ s2.toList.isEmpty = true ∧ s9.toList.isEmpty = true) ∨ (s1.toList.isEmpty = false ∧ s2.toList.isEmpty = false ∧ s9.toList.isEmpty = false) := by
      have hh := HZZ.out
      by_cases h1 : s1.size = 0
      · exact .inl ⟨ba_no _ h1, ba_no _ (hh.2 (.inl h1))⟩
      · by_cases h2 : s2.size = 0
        · exact .inr (.inl ⟨ba_ne _ h1, ba_no _ h2, ba_no _ (hh.2 (.inr h2))⟩)
        · exact .inr (.inr ⟨ba_ne _ h1, ba_ne _ h2, ba_ne _ (fun e => (hh.1 e).elim h1 h2)⟩)
    rcases hk with ⟨k1, k9⟩ | ⟨k1, k2, k9⟩ | ⟨k1, k2, k9⟩
    all_goals
      go_wp2_with fail
      refine (d_drawDT a n cap zs _ HL.out HZ.out hn (src_up2 (src_go HS.out HT.out.2) HT.out.2.size)).mono ?_
      rintro e w5 ⟨n3, s3, c3, hz3, rfl, hb5⟩
      have H3 := hide (HM.out _ hz3)
      replace HT := hide (st_push (st_go HT.out hb5) n3 s3 c3 25)
      clear hb5 hz3 a0 a1 a2 b0 b1 b2 d0 d1 d2
      obtain ⟨a0, a1, a2⟩ := st_at HT.out (g := w1.heap.size) (n := n1) (s := s1) (c := c1) (by simp)
      obtain ⟨⟨n4, s4, c4, o4⟩, hR4⟩ : ∃ R, addB n1 s1 c1 n3 s3 c3 = R := ⟨_, rfl⟩
      have E4 := hide hR4
      have H4 : Hid (s4.size ≤ maxLen) := by have := add_size n1 s1 c1 n3 s3 c3; rw [hR4] at this; exact HM.out _ (by simpa using Nat.le_succ_of_le this)
      clear hR4
      go_wp2_with fail
      refine (i_add _ _ _ _ _ _ _ H1.out H3.out).mono ?_
      rintro e w6 ⟨rfl, hb6⟩
      rw [E4.out, hres.out]
      replace HT := hide (st_push (st_go HT.out hb6) n4 s4 c4 25)
      clear hb6 a0 a1 a2
      obtain ⟨b0, b1, b2⟩ := st_at HT.out (g := w1.heap.size + 1) (n := n2) (s := s2) (c := c2) (by simp)
      obtain ⟨⟨n5, s5, c5, o5⟩, hR5⟩ : ∃ R, timesB n4 s4 c4 n2 s2 c2 = R := ⟨_, rfl⟩
      have E5 := hide hR5
      clear hR5
      go_wp2_with fail
      refine (i_times _ _ _ _ _ _ _ H4.out H2.out).mono ?_
      rintro e w7 ⟨rfl, hb7⟩
      rw [E5.out, hres.out]
      replace HT := hide (st_push (st_go HT.out hb7) n5 s5 c5 25)
      clear hb7 b0 b1 b2
      obtain ⟨b0, b1, b2⟩ := st_at HT.out (g := w1.heap.size + 1) (n := n2) (s := s2) (c := c2) (by simp)
      obtain ⟨f0, f1, f2⟩ := st_at HT.out (g := w5.heap.size) (n := n3) (s := s3) (c := c3) (by simp)
      obtain ⟨⟨n6, s6, c6, o6⟩, hR6⟩ : ∃ R, timesB n3 s3 c3 n2 s2 c2 = R := ⟨_, rfl⟩
      have E6 := hide hR6
      have H6 : Hid (s6.size ≤ maxLen) := by have := times_size n3 s3 c3 n2 s2 c2; rw [hR6] at this; exact HM.out _ (by simpa using Nat.le_succ_of_le this)
      clear hR6
      go_wp2_with fail
      refine (i_times _ _ _ _ _ _ _ H3.out H2.out).mono ?_
      rintro e w8 ⟨rfl, hb8⟩
      rw [E6.out, hres.out]
      replace HT := hide (st_push (st_go HT.out hb8) n6 s6 c6 25)
      clear hb8 b0 b1 b2 f0 f1 f2
      obtain ⟨d0, d1, d2⟩ := st_at HT.out (g := w2.heap.size) (n := n9) (s := s9) (c := c9) (by simp)
      obtain ⟨⟨n7, s7, c7, o7⟩, hR7⟩ : ∃ R, addB n9 s9 c9 n6 s6 c6 = R := ⟨_, rfl⟩
      have E7 := hide hR7
      clear hR7
      go_wp2_with fail
      refine (i_add _ _ _ _ _ _ _ H9.out H6.out).mono ?_
      rintro e w9 ⟨rfl, hb9⟩
      rw [E7.out, hres.out]
      replace HT := hide (st_push (st_go HT.out hb9) n7 s7 c7 25)
      clear hb9 d0 d1 d2
      obtain ⟨d0, d1, d2⟩ := st_at HT.out (g := w7.heap.size) (n := n5) (s := s5) (c := c5) (by simp)
      cases o4
      · go_wp2
        go_ret
        exact ⟨rfl, HT.out.2⟩
      cases o5
      · go_wp2
        go_ret
        exact ⟨rfl, HT.out.2⟩
      cases o6
      · go_wp2
        go_ret
        exact ⟨rfl, HT.out.2⟩
      cases o7
      · go_wp2
        go_ret
        exact ⟨rfl, HT.out.2⟩
      obtain ⟨e1, e2, e3⟩ := over_sums ER.out E4.out E5.out E6.out E7.out
      subst e1 e2 e3
      go_wp2
      go_ret
      exact ⟨rfl, HT.out.2⟩
end Go.Proofs.YtdglamiifcagoacDoor
