/-
  Contract: the program's ReadDec.
-/
import Derived.Test.YtlpgfeonfhomlacDoorReadS3
import Derived.Test.YtlpgfeonfhomlacDoorDecOf
namespace Go.Proofs.YtlpgfeonfhomlacDoor
open Go.RowKit
set_option linter.unusedSimpArgs false
set_option linter.unusedVariables false
theorem i_cutP (s : ByteArray) (w : World) : Calls Tryd.prog 17 #[.string s, .string ⟨#[45]⟩] w fun e w' => e = .returned (.tuple #[.string (if negA s = true then restA s else s), .bool (negA s)]) ∧ w' = w := by
  refine (Tryd.strings_CutPrefix s ⟨#[45]⟩ w).mono fun e w' ⟨he, hw⟩ => ⟨?_, hw⟩
  have e1 : Lib.hasPrefix s.data.toList (⟨#[45]⟩ : ByteArray).data.toList = negA s := pref_one s 45
  have e2 : (⟨(Lib.trimPrefix s.data.toList (⟨#[45]⟩ : ByteArray).data.toList).toArray⟩ : ByteArray) = if negA s = true then restA s else s := by
    refine (trimP_one s 45).trans ?_
    have e3 : Lib.hasPrefix s.data.toList [45] = negA s := pref_one s 45
    rw [e3]
    by_cases h : negA s = true
    · rw [if_pos h, if_pos h]
      have h2 : 0 < s.size ∧ at8 s 0 = 45 := by simpa [negA] using h
      rw [restA, if_pos ⟨h2.1, .inl h2.2⟩]
    · rw [if_neg h, if_neg h]
  rw [he, e1, e2]
theorem i_trimP (s : ByteArray) (w : World) (h : negA s = false) : Calls Tryd.prog 18 #[.string s, .string ⟨#[43]⟩] w fun e w' => e = .returned (.string (restA s)) ∧ w' = w := by
  refine (Tryd.strings_TrimPrefix s ⟨#[43]⟩ w).mono fun e w' ⟨he, hw⟩ => ⟨?_, hw⟩
  have e2 : (⟨(Lib.trimPrefix s.data.toList (⟨#[43]⟩ : ByteArray).data.toList).toArray⟩ : ByteArray) = restA s := by
    refine (trimP_one s 43).trans ?_
    have e3 : Lib.hasPrefix s.data.toList [43] = decide (0 < s.size ∧ at8 s 0 = 43) := pref_one s 43
    have h1 : ¬ (0 < s.size ∧ at8 s 0 = 45) := by simpa [negA] using h
    rw [e3, restA]
    by_cases h2 : 0 < s.size ∧ at8 s 0 = 43
    · rw [if_pos (by simpa using h2), if_pos ⟨h2.1, .inr h2.2⟩]
    · rw [if_neg (by simpa using h2), if_neg (by rintro ⟨a, b | b⟩; exact h1 ⟨a, b⟩; exact h2 ⟨a, b⟩)]
  rw [he, e2]
theorem i_cutD (r : ByteArray) (m : Int) (w : World) (hr : r.size ≤ 180) (hm : w.cell? ⟨0, 0, none⟩ = some (.int .i64 m)) : Calls Tryd.prog 19 #[.string r, .string ⟨#[46]⟩] w fun e w' => ∃ b : Bool, e = .returned (.tuple #[.string (wholeA r), .string (partA r), .bool b]) ∧ ∃ n, w' = w.drewN n := by
  refine (Tryd.strings_Cut r ⟨#[46]⟩ m w (by omega) hm).mono fun e w' ⟨he, hw⟩ => ⟨(Lib.cut r.data.toList (⟨#[46]⟩ : ByteArray).data.toList).2.2, ?_, hw⟩
  rw [he, cut_whole, cut_part]
theorem mcell {w : World} {m : Int} {o : Obj} (h : w.cell? ⟨0, 0, none⟩ = some (.int .i64 m)) : (w.alloc o).cell? ⟨0, 0, none⟩ = some (.int .i64 m) :=
  (((Below.refl w.heap.size w).alloc (Nat.le_refl _) o).cell (p := ⟨0, 0, none⟩) (World.block_lt_of_cell? w _ h)).trans h
theorem undrewN {w wn : World} {q : Nat} (h : Below (w.drewN q).heap.size (w.drewN q) wn) : Below w.heap.size w wn := ⟨h.os, h.tape, h.output, h.size, h.block⟩
theorem below_drewR {B : Nat} {a w : World} (h : Below B a w) (n : Nat) : Below B a (w.drewN n) := h.trans ⟨rfl, rfl, rfl, Nat.le_refl _, fun _ _ => rfl⟩
set_option maxHeartbeats 2000000 in
theorem i_read_t (s : ByteArray) (m : Int) (w : World) (hs : s.size ≤ 1048576) (hmm : w.cell? ⟨0, 0, none⟩ = some (.int .i64 m)) (hneg : negA s = true) :
    Calls Tryd.prog 7 #[.string s] w fun e w' => e = .returned (resV (readDecA s)) ∧ Below w.heap.size w w' := by
  have HM := hide hmm
  clear hmm
  obtain ⟨r, hr⟩ : ∃ r, restA s = r := ⟨_, rfl⟩
  have hrs : r.size ≤ 1048576 := by have := rest_size s; rw [hr] at this; omega
  rw [readDecA, hneg, hr]
  have HNEG := hide hneg
  have HRE := hide hr
  clear hneg hr
  rcases (show 180 < r.size ∨ r.size ≤ 180 by omega) with hbig | hbig
  · have HR := hide (show readA true r = (false, ByteArray.empty, 0, false) by rw [readA, if_pos (by simp [badA, hbig])])
    go_enter Tryd.func7, Tryd.ntmps7
    go_wp2_with fail
    refine (i_cutP s _).mono ?_
    rintro e w9 ⟨rfl, rfl⟩
    rw [if_pos HNEG.out, HNEG.out, HRE.out]
    go_wp2
    exact bodyPost_ret (v := .tuple #[.agg #[.bool false, .string ⟨#[]⟩, .int .i64 0], .bool false]) (by simp [results, Tryd.results7, go_sem]) rfl ⟨by rw [HR.out]; rfl, (Below.refl _ _).alloc (Nat.le_refl _) _⟩
  · have hws := wp_size r
    obtain ⟨x, hx⟩ : ∃ x, wholeA r = x := ⟨_, rfl⟩
    obtain ⟨y, hy⟩ : ∃ y, partA r = y := ⟨_, rfl⟩
    obtain ⟨z, hz⟩ : ∃ z, x ++ y = z := ⟨_, rfl⟩
    rw [hx, hy, hz] at hws
    have hxs : x.size ≤ 180 := by omega
    have hys : y.size ≤ 180 := by omega
    have hzs : z.size ≤ 180 := by omega
    have HX := hide hx
    have HY := hide hy
    clear hws hx hy
    rcases (show z.size = 0 ∨ 0 < z.size by omega) with hz0 | hz0
    · have HR := hide (show readA true r = (false, ByteArray.empty, 0, false) by rw [readA, if_pos (by simp [badA, HX.out, HY.out, hz, hz0])])
      have hze := empty_of z hz0
      rw [hze] at hz
      clear hze
      go_enter Tryd.func7, Tryd.ntmps7
      go_wp2_with fail
      refine (i_cutP s _).mono ?_
      rintro e w9 ⟨rfl, rfl⟩
      rw [if_pos HNEG.out, HNEG.out, HRE.out]
      go_wp2_with fail
      refine (i_cutD r m _ hbig (mcell HM.out)).mono ?_
      rintro e w9 ⟨b9, rfl, q9, rfl⟩
      rw [HX.out, HY.out]
      go_wp2
      exact bodyPost_ret (v := .tuple #[.agg #[.bool false, .string ⟨#[]⟩, .int .i64 0], .bool false]) (by simp [results, Tryd.results7, go_sem]) rfl ⟨by rw [HR.out]; rfl, below_three (below_drewR ((Below.refl _ _).alloc (Nat.le_refl _) _) _) _ _ _⟩
    · have hne := ne_list z hz0
      cases hdz : digsB z
      · have HR := hide (show readA true r = (false, ByteArray.empty, 0, false) by
          have h2 : (digsB x && digsB y) = false := by rw [← digs_app, hz, hdz]
          have h3 : badA r = true := by
            rw [badA, HX.out, HY.out]
            cases h4 : digsB x
            · simp
            · rw [h4] at h2
              have h5 : digsB y = false := by simpa using h2
              simp [h5]
          rw [readA, if_pos h3])
        go_enter Tryd.func7, Tryd.ntmps7
        go_wp2_with fail
        refine (i_cutP s _).mono ?_
        rintro e w9 ⟨rfl, rfl⟩
        rw [if_pos HNEG.out, HNEG.out, HRE.out]
        go_wp2_with fail
        refine (i_cutD r m _ hbig (mcell HM.out)).mono ?_
        rintro e w9 ⟨b9, rfl, q9, rfl⟩
        rw [HX.out, HY.out]
        go_wp2_with (go_at_call 20; refine (i_digs _ _ (by unfold maxLen; omega)).mono ?_; rintro e w9 ⟨rfl, rfl⟩)
        exact bodyPost_ret (v := .tuple #[.agg #[.bool false, .string ⟨#[]⟩, .int .i64 0], .bool false]) (by simp [results, Tryd.results7, go_sem]) rfl ⟨by rw [HR.out]; rfl, below_three (below_drewR ((Below.refl _ _).alloc (Nat.le_refl _) _) _) _ _ _⟩
      · have h2 : (digsB x && digsB y) = true := by rw [← digs_app, hz, hdz]
        have hbad : badA r = false := by
          rw [Bool.and_eq_true] at h2
          rw [badA, HX.out, HY.out, hz, h2.1, h2.2, decide_eq_false (show ¬ 180 < r.size by omega), decide_eq_false (show ¬ z.size = 0 by omega)]; rfl
        obtain ⟨R, hR⟩ : ∃ R, decRes true (valL z.data.toList) y.size = R := ⟨_, rfl⟩
        have HR := hide (show readA true r = R by rw [readA, if_neg (by rw [hbad]; simp), HX.out, HY.out, hz, hR])
        have HRR := hide hR
        have HDZ := hide ((digs_iff z).1 hdz)
        clear hbad hR h2
        go_enter Tryd.func7, Tryd.ntmps7
        go_wp2_with fail
        refine (i_cutP s _).mono ?_
        rintro e w9 ⟨rfl, rfl⟩
        rw [if_pos HNEG.out, HNEG.out, HRE.out]
        go_wp2_with fail
        refine (i_cutD r m _ hbig (mcell HM.out)).mono ?_
        rintro e w9 ⟨b9, rfl, q9, rfl⟩
        rw [HX.out, HY.out]
        go_wp2_with (first | (go_at_call 20; refine (i_digs _ _ (by unfold maxLen; omega)).mono ?_; rintro e w9 ⟨rfl, rfl⟩) | fail)
        refine (i_decOf true z _ _ (by omega) HDZ.out (by omega) (by omega)).mono ?_
        rintro e w1 ⟨rfl, hb1⟩
        rw [show decRes true (valL z.data.toList) ((y.size : Int)).toNat = R from (by simpa using HRR.out)]
        obtain ⟨n9, s9, c9, o9⟩ := R
        have hb2 := undrewN hb1
        obtain ⟨a0, a1, a2, a3⟩ := boxed_go (boxed_new w false ⟨#[]⟩ 0 _) hb2
        obtain ⟨f0, f1, f2⟩ := res1_frozen hb2
        have HC := hide (res1_done hb2 (.bool n9) (.string s9) (.int .i64 c9))
        have HB := hide (box_below hb2)
        clear hb1 hb2 a0
        simp only [resV]
        go_wp2
        obtain ⟨c0, c1, c2⟩ := HC.out
        exact bodyPost_ret (v := .tuple #[.agg #[.bool n9, .string s9, .int .i64 c9], .bool o9]) (by simp [results, Tryd.results7, go_sem, c0, c1, c2]) rfl ⟨by rw [HR.out]; rfl, below_three HB.out _ _ _⟩
set_option maxHeartbeats 2000000 in
theorem i_read_f (s : ByteArray) (m : Int) (w : World) (hs : s.size ≤ 1048576) (hmm : w.cell? ⟨0, 0, none⟩ = some (.int .i64 m)) (hneg : negA s = false) :
    Calls Tryd.prog 7 #[.string s] w fun e w' => e = .returned (resV (readDecA s)) ∧ Below w.heap.size w w' := by
  have HM := hide hmm
  clear hmm
  obtain ⟨r, hr⟩ : ∃ r, restA s = r := ⟨_, rfl⟩
  have hrs : r.size ≤ 1048576 := by have := rest_size s; rw [hr] at this; omega
  rw [readDecA, hneg, hr]
  have HNEG := hide hneg
  have HRE := hide hr
  clear hneg hr
  rcases (show 180 < r.size ∨ r.size ≤ 180 by omega) with hbig | hbig
  · have HR := hide (show readA false r = (false, ByteArray.empty, 0, false) by rw [readA, if_pos (by simp [badA, hbig])])
    go_enter Tryd.func7, Tryd.ntmps7
    go_wp2_with fail
    refine (i_cutP s _).mono ?_
    rintro e w9 ⟨rfl, rfl⟩
    rw [if_neg (by rw [HNEG.out]; simp), HNEG.out]
    go_wp2_with fail
    refine (i_trimP s _ HNEG.out).mono ?_
    rintro e w9 ⟨rfl, rfl⟩
    rw [HRE.out]
    go_wp2
    exact bodyPost_ret (v := .tuple #[.agg #[.bool false, .string ⟨#[]⟩, .int .i64 0], .bool false]) (by simp [results, Tryd.results7, go_sem]) rfl ⟨by rw [HR.out]; rfl, (Below.refl _ _).alloc (Nat.le_refl _) _⟩
  · have hws := wp_size r
    obtain ⟨x, hx⟩ : ∃ x, wholeA r = x := ⟨_, rfl⟩
    obtain ⟨y, hy⟩ : ∃ y, partA r = y := ⟨_, rfl⟩
    obtain ⟨z, hz⟩ : ∃ z, x ++ y = z := ⟨_, rfl⟩
    rw [hx, hy, hz] at hws
    have hxs : x.size ≤ 180 := by omega
    have hys : y.size ≤ 180 := by omega
    have hzs : z.size ≤ 180 := by omega
    have HX := hide hx
    have HY := hide hy
    clear hws hx hy
    rcases (show z.size = 0 ∨ 0 < z.size by omega) with hz0 | hz0
    · have HR := hide (show readA false r = (false, ByteArray.empty, 0, false) by rw [readA, if_pos (by simp [badA, HX.out, HY.out, hz, hz0])])
      have hze := empty_of z hz0
      rw [hze] at hz
      clear hze
      go_enter Tryd.func7, Tryd.ntmps7
      go_wp2_with fail
      refine (i_cutP s _).mono ?_
      rintro e w9 ⟨rfl, rfl⟩
      rw [if_neg (by rw [HNEG.out]; simp), HNEG.out]
      go_wp2_with fail
      refine (i_trimP s _ HNEG.out).mono ?_
      rintro e w9 ⟨rfl, rfl⟩
      rw [HRE.out]
      go_wp2_with fail
      refine (i_cutD r m _ hbig (mcell HM.out)).mono ?_
      rintro e w9 ⟨b9, rfl, q9, rfl⟩
      rw [HX.out, HY.out]
      go_wp2
      exact bodyPost_ret (v := .tuple #[.agg #[.bool false, .string ⟨#[]⟩, .int .i64 0], .bool false]) (by simp [results, Tryd.results7, go_sem]) rfl ⟨by rw [HR.out]; rfl, below_three (below_drewR ((Below.refl _ _).alloc (Nat.le_refl _) _) _) _ _ _⟩
    · have hne := ne_list z hz0
      cases hdz : digsB z
      · have HR := hide (show readA false r = (false, ByteArray.empty, 0, false) by
          have h2 : (digsB x && digsB y) = false := by rw [← digs_app, hz, hdz]
          have h3 : badA r = true := by
            rw [badA, HX.out, HY.out]
            cases h4 : digsB x
            · simp
            · rw [h4] at h2
              have h5 : digsB y = false := by simpa using h2
              simp [h5]
          rw [readA, if_pos h3])
        go_enter Tryd.func7, Tryd.ntmps7
        go_wp2_with fail
        refine (i_cutP s _).mono ?_
        rintro e w9 ⟨rfl, rfl⟩
        rw [if_neg (by rw [HNEG.out]; simp), HNEG.out]
        go_wp2_with fail
        refine (i_trimP s _ HNEG.out).mono ?_
        rintro e w9 ⟨rfl, rfl⟩
        rw [HRE.out]
        go_wp2_with fail
        refine (i_cutD r m _ hbig (mcell HM.out)).mono ?_
        rintro e w9 ⟨b9, rfl, q9, rfl⟩
        rw [HX.out, HY.out]
        go_wp2_with (go_at_call 20; refine (i_digs _ _ (by unfold maxLen; omega)).mono ?_; rintro e w9 ⟨rfl, rfl⟩)
        exact bodyPost_ret (v := .tuple #[.agg #[.bool false, .string ⟨#[]⟩, .int .i64 0], .bool false]) (by simp [results, Tryd.results7, go_sem]) rfl ⟨by rw [HR.out]; rfl, below_three (below_drewR ((Below.refl _ _).alloc (Nat.le_refl _) _) _) _ _ _⟩
      · have h2 : (digsB x && digsB y) = true := by rw [← digs_app, hz, hdz]
        have hbad : badA r = false := by
          rw [Bool.and_eq_true] at h2
          rw [badA, HX.out, HY.out, hz, h2.1, h2.2, decide_eq_false (show ¬ 180 < r.size by omega), decide_eq_false (show ¬ z.size = 0 by omega)]; rfl
        obtain ⟨R, hR⟩ : ∃ R, decRes false (valL z.data.toList) y.size = R := ⟨_, rfl⟩
        have HR := hide (show readA false r = R by rw [readA, if_neg (by rw [hbad]; simp), HX.out, HY.out, hz, hR])
        have HRR := hide hR
        have HDZ := hide ((digs_iff z).1 hdz)
        clear hbad hR h2
        go_enter Tryd.func7, Tryd.ntmps7
        go_wp2_with fail
        refine (i_cutP s _).mono ?_
        rintro e w9 ⟨rfl, rfl⟩
        rw [if_neg (by rw [HNEG.out]; simp), HNEG.out]
        go_wp2_with fail
        refine (i_trimP s _ HNEG.out).mono ?_
        rintro e w9 ⟨rfl, rfl⟩
        rw [HRE.out]
        go_wp2_with fail
        refine (i_cutD r m _ hbig (mcell HM.out)).mono ?_
        rintro e w9 ⟨b9, rfl, q9, rfl⟩
        rw [HX.out, HY.out]
        go_wp2_with (first | (go_at_call 20; refine (i_digs _ _ (by unfold maxLen; omega)).mono ?_; rintro e w9 ⟨rfl, rfl⟩) | fail)
        refine (i_decOf false z _ _ (by omega) HDZ.out (by omega) (by omega)).mono ?_
        rintro e w1 ⟨rfl, hb1⟩
        rw [show decRes false (valL z.data.toList) ((y.size : Int)).toNat = R from (by simpa using HRR.out)]
        obtain ⟨n9, s9, c9, o9⟩ := R
        have hb2 := undrewN hb1
        obtain ⟨a0, a1, a2, a3⟩ := boxed_go (boxed_new w false ⟨#[]⟩ 0 _) hb2
        obtain ⟨f0, f1, f2⟩ := res1_frozen hb2
        have HC := hide (res1_done hb2 (.bool n9) (.string s9) (.int .i64 c9))
        have HB := hide (box_below hb2)
        clear hb1 hb2 a0
        simp only [resV]
        go_wp2
        obtain ⟨c0, c1, c2⟩ := HC.out
        exact bodyPost_ret (v := .tuple #[.agg #[.bool n9, .string s9, .int .i64 c9], .bool o9]) (by simp [results, Tryd.results7, go_sem, c0, c1, c2]) rfl ⟨by rw [HR.out]; rfl, below_three HB.out _ _ _⟩
theorem i_read (s : ByteArray) (m : Int) (w : World) (hs : s.size ≤ 1048576) (hmm : w.cell? ⟨0, 0, none⟩ = some (.int .i64 m)) :
    Calls Tryd.prog 7 #[.string s] w fun e w' => e = .returned (resV (readDecA s)) ∧ Below w.heap.size w w' := by
  cases hn : negA s
  · exact i_read_f s m w hs hmm hn
  · exact i_read_t s m w hs hmm hn
end Go.Proofs.YtlpgfeonfhomlacDoor
