/-
  The walk of the law of numbers and their texts.
-/
import Derived.Test.YtlpgfeonfhomlacDoorFnDecs0
import Derived.Deep.RegionWith
import Derived.Deep.DeepCutAuto
namespace Go.Proofs.YtlpgfeonfhomlacDoor
open Go.RowKit
set_option linter.unusedVariables false
set_option linter.unusedSimpArgs false
theorem below_drew1 {w wn : World} (h : Below w.drew.heap.size w.drew wn) : Below w.heap.size w wn := ⟨h.os, h.tape, h.output, h.size, h.block⟩
set_option maxHeartbeats 8000000 in
theorem decs_core (a0 : Option Addr) (len0 cap0 : Nat) (zs : List Int) (w : World) (m : Int) (hn : len0 ≤ 1048576) (h0 : 0 < w.heap.size) (hm : w.cell? ⟨0, 0, none⟩ = some (.int .i64 m)) (hl : zs.length = len0) (hz : ∀ x ∈ zs, 0 ≤ x ∧ x ≤ 255) (hs : SrcAt w a0 zs w.heap.size) :
    Calls Tryd.prog 3 #[.slice a0 len0 cap0] w fun e w' => e = .returned (.bool true) ∧ Below w.heap.size w w' := by
  have HM := hide hm
  have HL := hide hl
  have HZ := hide hz
  have HS := hide hs
  clear hm hl hz hs
  have hn' : ¬ (1048576 : Int) < (len0 : Int) := by omega
  go_enter Tryd.func3, Tryd.ntmps3
  go_wp2_with (go_at_call 4; go_in)
  refine (d_drawDT a0 len0 cap0 zs _ HL.out HZ.out hn HS.out).mono ?_
  rintro e w1 ⟨n, s, c, hss, rfl, hb1⟩
  have HB1 := hide hb1
  clear hb1
  obtain ⟨T, hT⟩ : ∃ T, textB n s c = T := ⟨_, rfl⟩
  have hTs := text_size n s c
  rw [hT] at hTs
  have HT := hide hT
  clear hT
  go_wp2_with fail
  refine (i_text4 n s c _ (by unfold maxLen; omega)).mono ?_
  rintro e w2 ⟨rfl, hb2⟩
  rw [HT.out]
  have HE2 := hide (held_below (held_new w1 n s c _) hb2)
  have HB2 := hide (below_go HB1.out (box_below hb2))
  clear hb2
  have hm2 := mcell2 h0 HM.out HB2.out
  go_wp2_with fail
  refine (i_read T m _ (by omega) hm2).mono ?_
  rintro e w3 ⟨rfl, hb3⟩
  have HE3 := hide (held_below HE2.out hb3)
  have HB3 := hide (below_go HB2.out hb3)
  clear hb3 hm2
  obtain ⟨R9, hR9⟩ : ∃ R, readDecA T = R := ⟨_, rfl⟩
  obtain ⟨n', s', c', o'⟩ := R9
  have HRD := hide hR9
  rw [hR9]
  clear hR9
  simp only [resV]
  have HDx := hide (held_alloc (o := .cells #[.bool n', .string s', .int .i64 c'] 25) HE3.out)
  have HEx := hide (held_new w3 n' s' c' 25)
  have HBc := hide (HB3.out.alloc HB3.out.size (.cells #[.bool n', .string s', .int .i64 c'] 25))
  obtain ⟨⟨e1, e2, e3⟩, f1, f2, f3⟩ := held_cells HDx.out
  obtain ⟨⟨i1, i2, i3⟩, j1, j2, j3⟩ := held_cells HEx.out
  go_wp2_with fail
  go_cut [49] (fun v wx => v = .bool false ∧ Below w.heap.size w wx)
  case first =>
    clear HL HZ HS HM HB1 HB2 HB3 HE2 HE3 hn hn' h0
    cases hdb : decB n s c
    · have hTe : T = ⟨#[]⟩ := by rw [← HT.out, textB, if_neg (by rw [hdb]; simp)]; rfl
      have hq := HRD.out.symm.trans (show readDecA T = (false, ⟨#[]⟩, 0, false) by rw [hTe, read_none]; rfl)
      simp only [Prod.mk.injEq] at hq
      obtain ⟨rfl, rfl, rfl, rfl⟩ := hq
      clear hTe HRD
      go_region_with (first | (go_at_call 8; refine (s_text4 _ _ _ _ (by unfold maxLen; omega)).mono ?_; rintro e wn ⟨rfl, hbn⟩; rw [HT.out]; (first | replace hbn := below_drew1 hbn | skip); replace HBc := hide (below_go HBc.out hbn); replace HDx := hide (held_below HDx.out hbn); replace HEx := hide (held_below HEx.out hbn); clear hbn e1 e2 e3 f1 f2 f3 i1 i2 i3 j1 j2 j3; obtain ⟨⟨e1, e2, e3⟩, f1, f2, f3⟩ := held_cells HDx.out; obtain ⟨⟨i1, i2, i3⟩, j1, j2, j3⟩ := held_cells HEx.out) | (go_at_call 9; refine (i_decok _ _ _ _ (by unfold maxLen; omega)).mono ?_; rintro e wn ⟨rfl, hbn⟩; (first | replace hbn := below_drew1 hbn | skip); replace HBc := hide (below_go HBc.out hbn); replace HDx := hide (held_below HDx.out hbn); replace HEx := hide (held_below HEx.out hbn); clear hbn e1 e2 e3 f1 f2 f3 i1 i2 i3 j1 j2 j3; obtain ⟨⟨e1, e2, e3⟩, f1, f2, f3⟩ := held_cells HDx.out; obtain ⟨⟨i1, i2, i3⟩, j1, j2, j3⟩ := held_cells HEx.out) | (go_at_call 10; refine (i_total _ _ _ _ (by unfold maxLen; omega)).mono ?_; rintro e wn ⟨rfl, hbn⟩; (first | replace hbn := below_drew1 hbn | skip); replace HBc := hide (below_go HBc.out hbn); replace HDx := hide (held_below HDx.out hbn); replace HEx := hide (held_below HEx.out hbn); clear hbn e1 e2 e3 f1 f2 f3 i1 i2 i3 j1 j2 j3; obtain ⟨⟨e1, e2, e3⟩, f1, f2, f3⟩ := held_cells HDx.out; obtain ⟨⟨i1, i2, i3⟩, j1, j2, j3⟩ := held_cells HEx.out) | (go_at_call 11; refine (s_total _ _ _ _ (by unfold maxLen; omega)).mono ?_; rintro e wn ⟨rfl, hbn⟩; (first | replace hbn := below_drew1 hbn | skip); replace HBc := hide (below_go HBc.out hbn); replace HDx := hide (held_below HDx.out hbn); replace HEx := hide (held_below HEx.out hbn); clear hbn e1 e2 e3 f1 f2 f3 i1 i2 i3 j1 j2 j3; obtain ⟨⟨e1, e2, e3⟩, f1, f2, f3⟩ := held_cells HDx.out; obtain ⟨⟨i1, i2, i3⟩, j1, j2, j3⟩ := held_cells HEx.out))
      all_goals
        go_wp2_with fail
        go_meet
        exact ⟨rfl, HBc.out⟩
    · have hq := HRD.out.symm.trans (show readDecA T = (n, s, c, true) by rw [← HT.out]; exact text_read hdb)
      simp only [Prod.mk.injEq] at hq
      obtain ⟨rfl, rfl, rfl, rfl⟩ := hq
      clear HRD
      go_region_with (first | (go_at_call 8; refine (s_text4 _ _ _ _ (by unfold maxLen; omega)).mono ?_; rintro e wn ⟨rfl, hbn⟩; rw [HT.out]; (first | replace hbn := below_drew1 hbn | skip); replace HBc := hide (below_go HBc.out hbn); replace HDx := hide (held_below HDx.out hbn); replace HEx := hide (held_below HEx.out hbn); clear hbn e1 e2 e3 f1 f2 f3 i1 i2 i3 j1 j2 j3; obtain ⟨⟨e1, e2, e3⟩, f1, f2, f3⟩ := held_cells HDx.out; obtain ⟨⟨i1, i2, i3⟩, j1, j2, j3⟩ := held_cells HEx.out) | (go_at_call 9; refine (i_decok _ _ _ _ (by unfold maxLen; omega)).mono ?_; rintro e wn ⟨rfl, hbn⟩; (first | replace hbn := below_drew1 hbn | skip); replace HBc := hide (below_go HBc.out hbn); replace HDx := hide (held_below HDx.out hbn); replace HEx := hide (held_below HEx.out hbn); clear hbn e1 e2 e3 f1 f2 f3 i1 i2 i3 j1 j2 j3; obtain ⟨⟨e1, e2, e3⟩, f1, f2, f3⟩ := held_cells HDx.out; obtain ⟨⟨i1, i2, i3⟩, j1, j2, j3⟩ := held_cells HEx.out) | (go_at_call 10; refine (i_total _ _ _ _ (by unfold maxLen; omega)).mono ?_; rintro e wn ⟨rfl, hbn⟩; (first | replace hbn := below_drew1 hbn | skip); replace HBc := hide (below_go HBc.out hbn); replace HDx := hide (held_below HDx.out hbn); replace HEx := hide (held_below HEx.out hbn); clear hbn e1 e2 e3 f1 f2 f3 i1 i2 i3 j1 j2 j3; obtain ⟨⟨e1, e2, e3⟩, f1, f2, f3⟩ := held_cells HDx.out; obtain ⟨⟨i1, i2, i3⟩, j1, j2, j3⟩ := held_cells HEx.out) | (go_at_call 11; refine (s_total _ _ _ _ (by unfold maxLen; omega)).mono ?_; rintro e wn ⟨rfl, hbn⟩; (first | replace hbn := below_drew1 hbn | skip); replace HBc := hide (below_go HBc.out hbn); replace HDx := hide (held_below HDx.out hbn); replace HEx := hide (held_below HEx.out hbn); clear hbn e1 e2 e3 f1 f2 f3 i1 i2 i3 j1 j2 j3; obtain ⟨⟨e1, e2, e3⟩, f1, f2, f3⟩ := held_cells HDx.out; obtain ⟨⟨i1, i2, i3⟩, j1, j2, j3⟩ := held_cells HEx.out))
      all_goals
        go_wp2_with fail
        go_meet
        exact ⟨rfl, HBc.out⟩
  case rest =>
    obtain ⟨rfl, hbr⟩ := hcut
    have HBr := hide hbr
    clear hbr e1 e2 e3 f1 f2 f3 i1 i2 i3 j1 j2 j3 HDx HEx HBc HRD HE2 HE3 HB1 HB2 HB3
    go_wp2_with fail
    refine (d_drawRD a0 len0 cap0 zs _ HL.out HZ.out hn (src_up (src_grown HS.out (Nat.le_refl _) (row := none) ⟨HBr.out.os, HBr.out.tape, HBr.out.output, HBr.out.size, fun i hi _ => HBr.out.block i hi⟩ (fun k hk => by cases hk)) HBr.out.size)).mono ?_
    rintro e w5 ⟨t, ht, rfl, hb5⟩
    have HB5 := hide (below_go HBr.out hb5)
    clear hb5
    go_wp2_with fail
    refine (i_read t m _ (by omega) (mcell2 h0 HM.out HB5.out)).mono ?_
    rintro e w6 ⟨rfl, hb6⟩
    have HB6 := hide (below_go HB5.out hb6)
    clear hb6
    have hsz := read_size t
    obtain ⟨R, hR⟩ : ∃ R, readDecA t = R := ⟨_, rfl⟩
    rw [hR] at hsz ⊢
    obtain ⟨n9, s9, c9, o9⟩ := R
    have hs9 : s9.size ≤ 60 := hsz
    have HR := hide hR
    simp only [resV]
    clear hR hsz
    go_wp2_with fail
    refine (s_read t _ (by omega)).mono ?_
    rintro e w7 ⟨rfl, hb7⟩
    have HX7 := hide (held_below (held_new w6 n9 s9 c9 _) hb7)
    have HB7 := hide (below_go HB6.out (box_below hb7))
    clear hb7
    rw [HR.out]
    simp only [resV]
    have HX8 := hide (held_alloc (o := .cells #[.bool n9, .string s9, .int .i64 c9] 25) HX7.out)
    have HB8 := hide (HB7.out.alloc HB7.out.size (.cells #[.bool n9, .string s9, .int .i64 c9] 25))
    obtain ⟨⟨e1, e2, e3⟩, f1, f2, f3⟩ := held_cells HX8.out
    go_wp2_with fail
    refine (i_text4 n9 s9 c9 _ (by unfold maxLen; omega)).mono ?_
    rintro e w9 ⟨rfl, hb9⟩
    have HX9 := hide (held_below HX8.out hb9)
    have HB9 := hide (below_go HB8.out hb9)
    clear hb9 e1 e2 e3 f1 f2 f3
    obtain ⟨T2, hT2⟩ : ∃ T, textB n9 s9 c9 = T := ⟨_, rfl⟩
    have hTs2 := text_size n9 s9 c9
    rw [hT2] at hTs2 ⊢
    have HT2 := hide hT2
    clear hT2
    go_wp2_with fail
    refine (i_read T2 m _ (by omega) (mcell2 h0 HM.out HB9.out)).mono ?_
    rintro e wA ⟨rfl, hbA⟩
    have HXA := hide (held_below HX9.out hbA)
    have HBA := hide (below_go HB9.out hbA)
    clear hbA
    cases o9
    · obtain ⟨R2, hR2⟩ : ∃ R, readDecA T2 = R := ⟨_, rfl⟩
      obtain ⟨n8, s8, c8, o8⟩ := R2
      rw [hR2]
      clear hR2
      simp only [resV]
      have HXB := hide (held_alloc (o := .cells #[.bool n8, .string s8, .int .i64 c8] 25) HXA.out)
      have HYB := hide (held_new wA n8 s8 c8 25)
      have HBB := hide (HBA.out.alloc HBA.out.size (.cells #[.bool n8, .string s8, .int .i64 c8] 25))
      obtain ⟨⟨e1, e2, e3⟩, f1, f2, f3⟩ := held_cells HXB.out
      obtain ⟨⟨i1, i2, i3⟩, j1, j2, j3⟩ := held_cells HYB.out
      go_wp2
      go_ret
      exact ⟨rfl, HBB.out⟩
    · have hR2 : readDecA T2 = (n9, s9, c9, true) := by rw [← HT2.out]; exact text_read (read_right HR.out)
      rw [hR2]
      clear hR2
      simp only [resV]
      have HXB := hide (held_alloc (o := .cells #[.bool n9, .string s9, .int .i64 c9] 25) HXA.out)
      have HYB := hide (held_new wA n9 s9 c9 25)
      have HBB := hide (HBA.out.alloc HBA.out.size (.cells #[.bool n9, .string s9, .int .i64 c9] 25))
      obtain ⟨⟨e1, e2, e3⟩, f1, f2, f3⟩ := held_cells HXB.out
      obtain ⟨⟨i1, i2, i3⟩, j1, j2, j3⟩ := held_cells HYB.out
      go_wp2
      go_ret
      exact ⟨rfl, HBB.out⟩
end Go.Proofs.YtlpgfeonfhomlacDoor
