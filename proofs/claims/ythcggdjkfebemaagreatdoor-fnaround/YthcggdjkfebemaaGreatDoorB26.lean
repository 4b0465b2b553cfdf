/-
  Texts put together: PaG, PaH.
-/
import Derived.Test.YthcggdjkfebemaaGreatDoorB25
import Derived.Deep.RegionHeld3
/-
  Contract of the program's reader of documents: an element.
-/
namespace Go.Proofs.YthcggdjkfebemaaGreatDoor
open Go.RowKit Go.Joins
set_option linter.unusedVariables false
set_option linter.unusedSimpArgs false
section
variable {R : Nat} {w : World} {D : Dc} {i : Nat} {l r : List UInt8}
set_option maxRecDepth 100000 in
set_option maxHeartbeats 8000000 in
theorem i_rdElem (pend b : Bool) (o : Int) (hE : EnvR R w) (hdk : docokB D = true) (hi : i < D.n) (hn : i ≤ 200) (ht : isE (D.NM i) = false) (hu : D.U i = o) (hr : ((D.NM i).data.toList ++ (atsP (D.AN i) (D.AV i) (D.AC i) ++ (tlE b ++ r))).length ≤ 1000000) (h : PS R w D i o pend ((D.NM i).data.toList ++ (atsP (D.AN i) (D.AV i) (D.AC i) ++ (tlE b ++ r)))) :
    Calls Tryz.prog 57 #[.pointer (some ⟨R, 0, none⟩)] w fun e w' => e = .returned (.tuple #[]) ∧ PS R w' D (i + 1) (if b = true then (i : Int) else o) false r ∧ Fr R w w' := by
  obtain ⟨i0, hii, hz0, hz1, hz2⟩ := info_parts infoIt
  obtain ⟨j0, hjj, hy0, hy1, hy2⟩ := info_parts infoAt
  obtain ⟨htx, hq, -⟩ := elem_part hdk hi ht
  have hsz := doc_sz hdk hi
  have hac := ac_le hdk hi ht
  have hnl : (D.NM i).data.toList.length = (D.NM i).size := by simp
  rw [ats_all] at h hr
  obtain ⟨n, hnn⟩ : ∃ n, D.AC i = n := ⟨_, rfl⟩
  have HAT : Hid (∀ j, j < n → ∃ x nm, (D.AN i j).data.toList = x :: nm ∧ qualB (D.AN i j) = true ∧ (x ≠ 32 ∧ x ≠ 9 ∧ x ≠ 10 ∧ x ≠ 47 ∧ x ≠ 62) ∧ (D.AN i j).data.toList.length ≤ 2500 ∧ escOk (D.AV i j) = true) := hide (fun j hj => at_fact hdk hi ht (by omega))
  rw [hnn] at h hr hac
  have CE := hide (i_endText pend hn h)
  obtain ⟨c9, rest, hc9, hq9⟩ : ∃ c9 rest, atsS (D.AN i) (D.AV i) n 0 ++ (tlE b ++ r) = c9 :: rest ∧ qC c9 = false := by
    cases n with
    | zero => cases b <;> exact ⟨_, _, rfl, by decide⟩
    | succ n => exact ⟨_, _, rfl, by decide⟩
  obtain ⟨nm, hnm⟩ : ∃ nm, D.NM i = nm := ⟨_, rfl⟩
  have HC := hide hc9
  have HNN := hide hnn
  have HNM := hide hnm
  have HE := hide hE
  have HU := hide hu
  have HTX := hide htx
  rw [hc9, hnm] at CE hr
  rw [hnm] at hsz hnl hq
  have CN : Hid (∀ W9 (x1 x2 x3 : Value), RB W9 R (nm.data.toList ++ c9 :: rest) x1 x2 x3 → Calls Tryz.prog 83 #[.pointer (some ⟨R, 0, none⟩)] W9 fun e w' => e = .returned (.string nm) ∧ RdP R W9 (c9 :: rest) x1 x2 x3 w') := hide (fun W9 x1 x2 x3 h9 => by
    have h8 := i_rdName nm.data.toList c9 h9 (by rw [ba_self]; exact hq) hq9 (by omega)
    rw [ba_self] at h8
    exact h8)
  have HL : Hid ((c9 :: rest).length ≤ 1000000) := hide (by rw [List.length_append] at hr; omega)
  clear h hr hE hq hc9 hnn hnm hu htx ht hdk hsz hnl
  go_enter Tryz.func57, Tryz.ntmps57
  go_wp2_with fail
  refine CE.out.mono ?_
  rintro e w1 ⟨rfl, ⟨ad, c, k, tx, hk, hB, hI, hf, -⟩, hF1⟩
  have hki : k = i := by simpa using hk
  have htx := hf rfl
  subst htx
  subst hki
  have HB := hide hB
  have HF1 := hide hF1
  obtain ⟨xs, hown, hip⟩ := hI
  have HO := hide hown
  have HIP := hide hip
  have d2 : w1.drew.cell? ⟨R, 2, none⟩ = some (.int .i64 o) := (rb_cells hB).2.2.1
  have hRl := rb_lt hB
  clear hk hf hB hF1 hown hip CE
  go_upto_region 1 with fail
  go_cut [2] (fun v wx => ∃ N wX, v = .pointer (some ⟨N, 0, none⟩) ∧ Hid (ES R N w wX wx ad k c D (c9 :: rest) o nm none 0 0 (D.AN k) (D.AV k)))
  case first =>
    have HBD := hide (show RB w1.drew R (nm.data.toList ++ c9 :: rest) (.slice ad k c) (.int .i64 o) (.string ⟨#[]⟩) from HB.out)
    have HBA : Hid (∀ ob, RB (w1.drew.alloc ob) R (nm.data.toList ++ c9 :: rest) (.slice ad k c) (.int .i64 o) (.string ⟨#[]⟩)) := hide (fun ob => rb_below HBD.out ((Below.refl _ _).alloc (Nat.le_refl _) ob))
    have HBX : Hid ((w1.drew.alloc (.cells #[.int .i64 0, .string ⟨#[]⟩, .string ⟨#[]⟩, .slice none 0 0] IT)).heap[w1.heap.size]? = some (.cells #[.int .i64 0, .string ⟨#[]⟩, .string ⟨#[]⟩, .slice none 0 0] IT (0, 0))) := hide (heap_alloc_new w1.drew _)
    have d1 : w1.cell? ⟨R, 2, none⟩ = some (.int .i64 o) := (rb_cells HB.out).2.2.1
    have HBA2 : Hid (∀ ob, RB (w1.alloc ob).drew R (nm.data.toList ++ c9 :: rest) (.slice ad k c) (.int .i64 o) (.string ⟨#[]⟩)) := hide (fun ob => show RB (w1.alloc ob) R _ _ _ _ from rb_below HB.out ((Below.refl _ _).alloc (Nat.le_refl _) ob))
    have HBX2 : Hid ((w1.alloc (.cells #[.int .i64 0, .string ⟨#[]⟩, .string ⟨#[]⟩, .slice none 0 0] IT)).drew.heap[w1.heap.size]? = some (.cells #[.int .i64 0, .string ⟨#[]⟩, .string ⟨#[]⟩, .slice none 0 0] IT (0, 0))) := hide (heap_alloc_new w1 _)
    have d3 : ∀ ob, (w1.drew.alloc ob).cell? ⟨R, 2, none⟩ = some (.int .i64 o) := fun ob => (rb_cells (HBA.out ob)).2.2.1
    go_region_law (first
      | (go_simp; go_at_call 83; refine (CN.out _ (.slice ad k c) (.int .i64 o) (.string ⟨#[]⟩) (by first | exact HBD.out | exact HBA2.out _ | exact HBA.out _)).mono ?_; rintro e w2 ⟨rfl, h2⟩; have H2 := hide h2; have e2 : w2.cell? ⟨R, 2, none⟩ = some (.int .i64 o) := (rb_cells h2.1).2.2.1; have e3 : ∀ ob, (w2.alloc ob).cell? ⟨R, 2, none⟩ = some (.int .i64 o) := (fun ob => (rb_cells (rb_below h2.1 ((Below.refl _ _).alloc (Nat.le_refl _) ob))).2.2.1); (try (have hX := (by first | exact rd_box HBX2.out h2.2 (by omega) | exact rd_box HBX.out h2.2 (by omega) : w2.heap[w1.heap.size]? = some (.cells #[.int .i64 0, .string ⟨#[]⟩, .string ⟨#[]⟩, .slice none 0 0] IT (0, 0))); have HX := hide hX; have y0 : w2.cell? ⟨w1.heap.size, 0, none⟩ = some (.int .i64 0) := (by rw [cell_of_row w2 _ 0 _ _ (0, 0) hX]; rfl); have y1 : w2.cell? ⟨w1.heap.size, 1, none⟩ = some (.string ⟨#[]⟩) := (by rw [cell_of_row w2 _ 1 _ _ (0, 0) hX]; rfl); have y2 : w2.cell? ⟨w1.heap.size, 2, none⟩ = some (.string ⟨#[]⟩) := (by rw [cell_of_row w2 _ 2 _ _ (0, 0) hX]; rfl); have y3 : w2.cell? ⟨w1.heap.size, 3, none⟩ = some (.slice none 0 0) := (by rw [cell_of_row w2 _ 3 _ _ (0, 0) hX]; rfl); have yf : ∀ i, w2.frozen? ⟨w1.heap.size, i, none⟩ = false := (fun i => frozen_of_row w2 _ i _ _ hX); clear hX)); clear h2)
      | (fail))
    all_goals
      go_wp2
      go_meet
      first
        | (have HX9 := HX; exact ⟨_, _, rfl, hide (ep_es (ep_set (ep_set (ep_set (ep_set (ep_ahead (cs := #[.int .i64 0, .string ⟨#[]⟩, .string ⟨#[]⟩, .slice none 0 0]) HB.out HO.out HIP.out HF1.out ⟨H2.out.1, H2.out.2.os, H2.out.2.tape, H2.out.2.output, H2.out.2.size, H2.out.2.block⟩) 0 (.int .i64 o)) 1 (.string nm)) 2 (.string ⟨#[]⟩)) 3 (.slice none 0 0)))⟩)
        | exact ⟨_, _, rfl, hide (ep_es (ep_after HB.out HO.out HIP.out HF1.out ⟨H2.out.1, H2.out.2.os, H2.out.2.tape, H2.out.2.output, H2.out.2.size, H2.out.2.block⟩))⟩
  case rest =>
    obtain ⟨N, wX, rfl, HS0⟩ := hcut
    rw [← HC.out] at HS0 HL
    clear d2
    go_wp2_with fail
    go_loopw [] (fun wr => ∃ j sa ca, j ≤ n ∧ Hid (ES R N w wX wr ad k c D (atsS (D.AN k) (D.AV k) (n - j) j ++ (tlE b ++ r)) o nm sa j ca (D.AN k) (D.AV k)) ∧ Hid ((atsS (D.AN k) (D.AV k) (n - j) j ++ (tlE b ++ r)).length ≤ 1000000)) (fun wr => jOf N n wr)
    case atStart => exact ⟨0, _, _, Nat.zero_le _, HS0, HL⟩
    case round =>
      clear HS0 HL
      obtain ⟨j, sa, ca, hjn, HS, HL⟩ := hrel
      have HM := hide (jOf_of (n := n) HS.out)
      by_cases hj : j < n
      · obtain ⟨x, xs9, hx, hqx, ⟨hx1, hx2, hx3, hx4, hx5⟩, hxl, hxe⟩ := HAT.out j hj
        obtain ⟨f, hf⟩ : ∃ f, n - j = f + 1 := ⟨n - j - 1, by omega⟩
        obtain ⟨T, hT⟩ : ∃ T, atsS (D.AN k) (D.AV k) f (j + 1) ++ (tlE b ++ r) = T := ⟨_, rfl⟩
        have HT := hide hT
        have hl9 : atsS (D.AN k) (D.AV k) (n - j) j ++ (tlE b ++ r) = 32 :: ((D.AN k j).data.toList ++ 61 :: 34 :: (escL true (D.AV k j).data.toList ++ 34 :: T)) := by
          rw [hf, atsS, ← hT]; unfold atP; simp
        rw [hl9] at HS HL
        clear hl9 hT
        have hTl : T.length ≤ 1000000 := by
          have := HL.out
          simp only [List.length_cons, List.length_append] at this
          omega
        have htb : tbL (32 :: ((D.AN k j).data.toList ++ 61 :: 34 :: (escL true (D.AV k j).data.toList ++ 34 :: T))) = (D.AN k j).data.toList ++ 61 :: 34 :: (escL true (D.AV k j).data.toList ++ 34 :: T) := by
          rw [hx]; exact tb_skip ⟨hx1, hx2, hx3⟩
        have hde : decide ((tbL (32 :: ((D.AN k j).data.toList ++ 61 :: 34 :: (escL true (D.AV k j).data.toList ++ 34 :: T)))).length < (32 :: ((D.AN k j).data.toList ++ 61 :: 34 :: (escL true (D.AV k j).data.toList ++ 34 :: T))).length) = true := by
          rw [htb]; exact decide_eq_true (by simp)
        have CB := hide (i_blanks HS.out.1)
        rw [hde, htb] at CB
        have CT : Hid (∀ W9 (z1 z2 z3 : Value), RB W9 R ((D.AN k j).data.toList ++ 61 :: 34 :: (escL true (D.AV k j).data.toList ++ 34 :: T)) z1 z2 z3 → Calls Tryz.prog 84 #[.pointer (some ⟨R, 0, none⟩)] W9 fun e w' => e = .returned (.bool false) ∧ w' = W9) := hide (fun W9 z1 z2 z3 h9 => by
          rw [hx] at h9
          have h8 := i_tagEnd x h9
          rw [show decide (x = 47 ∨ x = 62) = false from decide_eq_false (by rintro (h | h); exact hx4 h; exact hx5 h)] at h8
          exact h8)
        have CA : Hid (∀ W9 (z1 z2 z3 : Value), EnvR R W9 → RB W9 R ((D.AN k j).data.toList ++ 61 :: 34 :: (escL true (D.AV k j).data.toList ++ 34 :: T)) z1 z2 z3 → Calls Tryz.prog 85 #[.pointer (some ⟨R, 0, none⟩)] W9 fun e w' => e = .returned (.agg #[.string (D.AN k j), .string (D.AV k j)]) ∧ RdP R W9 T z1 z2 z3 w') := hide (fun W9 z1 z2 z3 hE9 h9 => by
          have h8 := i_rdAttr (D.AN k j).data.toList (D.AV k j) hE9 h9 (by rw [ba_self]; exact hqx) hxl hxe hTl
          rw [ba_self] at h8
          exact h8)
        have HTL := hide hTl
        clear hx hqx hx1 hx2 hx3 hx4 hx5 hxl hxe htb hde hTl
        go_wp2_with fail
        refine CB.out.mono ?_
        rintro e w2 ⟨rfl, h2⟩
        have HS2 := hide (es_rd HS.out h2)
        clear h2 CB
        go_wp2_with fail
        refine (CT.out _ _ _ _ HS2.out.1).mono ?_
        rintro e w3 ⟨rfl, hw3⟩
        rw [hw3]
        clear hw3 w3
        obtain ⟨an, han⟩ : ∃ an, D.AN k j = an := ⟨_, rfl⟩
        obtain ⟨av, hav⟩ : ∃ av, D.AV k j = av := ⟨_, rfl⟩
        have HAN := hide han
        have HAV := hide hav
        rw [han, hav] at CA HS2
        clear han hav HS HL CT
        have HSD := hide (es_drew HS2.out)
        have HED := hide (es_env HSD.out HE.out)
        have hS0 : w2.drew.cell? ⟨N, 3, none⟩ = some (.slice sa j ca) := es_cell HSD.out 3
        have hlN := es_lt HS2.out
        have hRN : R < N := HS2.out.2.2.2.2.2.2.1
        have hj10 : j < 10 := by omega
        go_wp2
        go_region_law (first
          | (go_simp; go_at_call 85; refine (CA.out _ _ _ _ HED.out HSD.out.1).mono ?_; rintro e w7 ⟨rfl, h7⟩; have HT1 := hide (es_rd HSD.out h7); obtain ⟨ys, hown7, hp7⟩ := HT1.out.2.2.2.2.2.1; have HOW := hide hown7; have HP7 := hide hp7; have hN7 := es_lt HT1.out; have hc7 : w7.cell? ⟨N, 3, none⟩ = some (.slice sa j ca) := es_cell HT1.out 3; have hc7a : ∀ ob, (w7.alloc ob).cell? ⟨N, 3, none⟩ = some (.slice sa j ca) := fun ob => es_cell (es_alloc HT1.out ob) 3; clear h7 hown7 hp7)
          | (refine step_append_lies _ (by rfl) _ _ _ (by rfl) (N + 1) AT j0 _ 2 32 Tryz.underlying39 hjj hy0 hy1 hy2 rfl (by omega) (.slice sa j ca) j ys (by rfl) (HOW.out.alloc _) ⟨w7.heap.size, 0, none⟩ 1 1 [.string an, .string av] (by rfl) (by rfl) (World.news_of_block (cs := #[.string an, .string av]) (t := AT) (fr := (0, 0)) (heap_alloc_new w7 _)) (by simp [Value.oneCell']) (by omega) (by unfold maxLen; omega) (by omega) (by simp; omega) (w7.heap.size + 1) (by simp) ?_; intro gg cap' w8 hown8 hgrow8 hat8 hlt8; have HT2 := hide (es_put (es_alloc HT1.out _) (HOW.out.alloc _) hgrow8 hown8 (by rw [← HAN.out, ← HAV.out]; exact pairs_snoc HP7.out HOW.out.1)); have hfz : w8.frozen? ⟨N, 3, none⟩ = false := (World.frozen?_of_block (hgrow8.block N (by simp; omega) (fun e => by have := (HOW.out.lt N e.symm).1; omega))).trans (es_frozen (es_alloc HT1.out _) 3); have hcz : w8.cell? ⟨N, 3, none⟩ = some (.slice sa j ca) := (World.cell?_of_block (hgrow8.block N (by simp; omega) (fun e => by have := (HOW.out.lt N e.symm).1; omega))).trans (hc7a _); clear hown8 hgrow8 hat8)
          | (fail))
        all_goals
          go_wp2
          go_roundw
          case rel => exact ⟨j + 1, some ⟨gg, 0, none⟩, cap', by omega, by rw [show n - (j + 1) = f by omega, HT.out]; exact ⟨HT2, HTL⟩⟩
          case measure =>
            rw [HM.out, jOf_of (n := n) HT2.out]
            omega
      · have hjn2 : j = n := by omega
        subst hjn2
        rw [Nat.sub_self, atsS, List.nil_append] at HS HL
        obtain ⟨c8, t8, hc8, hne8⟩ : ∃ c8 t8, tlE b ++ r = c8 :: t8 ∧ (c8 ≠ 32 ∧ c8 ≠ 9 ∧ c8 ≠ 10) := by
          cases b <;> exact ⟨_, _, rfl, by decide⟩
        have htb : tbL (tlE b ++ r) = tlE b ++ r := by rw [hc8]; exact tb_none hne8
        have CB := hide (i_blanks HS.out.1)
        rw [htb, show decide ((tlE b ++ r).length < (tlE b ++ r).length) = false from decide_eq_false (Nat.lt_irrefl _)] at CB
        clear hc8 hne8 htb c8 t8 HM
        go_wp2_with fail
        refine CB.out.mono ?_
        rintro e w2 ⟨rfl, h2⟩
        have HS2 := hide (es_rd HS.out h2)
        clear h2 CB HS
        have HSD := hide (es_drew HS2.out)
        obtain ⟨xs2, hox2, hip2⟩ := HSD.out.2.1
        have HOD := hide hox2
        have HPD := hide hip2
        clear hox2 hip2
        have x0 : w2.drew.cell? ⟨N, 0, none⟩ = some (.int .i64 o) := es_cell HSD.out 0
        have x1 : w2.drew.cell? ⟨N, 1, none⟩ = some (.string nm) := es_cell HSD.out 1
        have x2 : w2.drew.cell? ⟨N, 2, none⟩ = some (.string ⟨#[]⟩) := es_cell HSD.out 2
        have x3 : w2.drew.cell? ⟨N, 3, none⟩ = some (.slice sa j ca) := es_cell HSD.out 3
        have z1 : w2.drew.cell? ⟨R, 1, none⟩ = some (.slice ad k c) := (rb_cells HSD.out.1).2.1
        have y0 : w2.cell? ⟨N, 0, none⟩ = some (.int .i64 o) := es_cell HS2.out 0
        have y1 : w2.cell? ⟨N, 1, none⟩ = some (.string nm) := es_cell HS2.out 1
        have y2 : w2.cell? ⟨N, 2, none⟩ = some (.string ⟨#[]⟩) := es_cell HS2.out 2
        have y3 : w2.cell? ⟨N, 3, none⟩ = some (.slice sa j ca) := es_cell HS2.out 3
        have z0 : w2.cell? ⟨R, 1, none⟩ = some (.slice ad k c) := (rb_cells HS2.out.1).2.1
        have hlN := es_lt HS2.out
        have hlR := rb_lt HS2.out.1
        go_upto_region 4 with fail
        go_region_law (first
          | (refine step_append_lies _ (by rfl) _ _ _ (by rfl) (R + 1) IT i0 _ 4 64 Tryz.underlying24 hii hz0 hz1 hz2 rfl (by omega) (.slice ad k c) k xs2 (by rfl) (HOD.out.alloc _) ⟨w2.heap.size, 0, none⟩ 1 1 [.int .i64 o, .string nm, .string ⟨#[]⟩, .slice sa j ca] (by rfl) (by rfl) (World.news_of_block (cs := #[.int .i64 o, .string nm, .string ⟨#[]⟩, .slice sa j ca]) (t := IT) (fr := (0, 0)) (heap_alloc_new w2.drew _)) (by simp [Value.oneCell']) (by omega) (by unfold maxLen; omega) (by omega) (by simp; omega) (w2.heap.size + 1) (by simp) ?_; intro gg cap' w8 hown8 hgrow8 hat8 hlt8; obtain ⟨hrb8, hfr8⟩ := ap_step HSD.out.1 HOD.out hgrow8; have HR8 := hide hrb8; have HF8 : Hid (Fr R w2 w8) := hide ⟨⟨hfr8.1.os, hfr8.1.tape, hfr8.1.output, hfr8.1.size, hfr8.1.block⟩, hfr8.2⟩; have HO8 := hide hown8; have HP8 := hide (es_item HSD.out HPD.out HOD.out.1 hfr8.2 HU.out HNM.out HTX.out HNN.out); have e1 := (rb_cells hrb8).2.1; have f1 := rb_frozen hrb8 1; clear hrb8 hfr8 hown8 hgrow8 hat8 hlt8)
          | (fail))
        all_goals
          have HR9 := hide (rb_set1 HR8.out (.slice (some ⟨gg, 0, none⟩) (k + 1) cap'))
          have HI9 : Hid (ItO (R + 1) (w8.setCell ⟨R, 1, none⟩ (.slice (some ⟨gg, 0, none⟩) (k + 1) cap')) (some ⟨gg, 0, none⟩) (k + 1) cap' D) := hide (ito_rg HR8.out ⟨_, HO8.out, HP8.out⟩ (rg_set R 1 w8 _))
          have HF9 : Hid (Fr R w (w8.setCell ⟨R, 1, none⟩ (.slice (some ⟨gg, 0, none⟩) (k + 1) cap'))) := hide (fr_trans (fr_trans (es_fr HS2.out) HF8.out) (fr_rg HR8.out (rg_set R 1 w8 _)))
          cases b
          · go_wp2_with fail
            refine (i_takesY (p := [47, 62]) HR9.out).mono ?_
            rintro e w10 ⟨rfl, h10⟩
            have H10 := hide h10
            clear h10
            go_wp2
            (try simp only [Exit.inBlock, Exit.then])
            refine bodyPost_ret (results_none rfl _ _ _) rfl ?_
            exact ⟨rfl, ⟨some ⟨gg, 0, none⟩, cap', k + 1, ⟨#[]⟩, rfl, H10.out.1, ito_rg HR9.out HI9.out H10.out.2, fun _ => rfl, fun h => by cases h⟩, fr_trans HF9.out (fr_rg HR9.out H10.out.2)⟩
          · go_wp2_with fail
            refine (i_takesN (l := 62 :: r) (p := [47, 62]) HR9.out (by rfl)).mono ?_
            rintro e w10 ⟨rfl, h10⟩
            have H10 := hide h10
            clear h10
            go_wp2_with fail
            refine (i_mustY (p := [62]) H10.out.1).mono ?_
            rintro e w11 ⟨rfl, h11⟩
            have H11 := hide (show RdP R (w8.setCell ⟨R, 1, none⟩ (.slice (some ⟨gg, 0, none⟩) (k + 1) cap')) r _ _ _ w11 from ⟨h11.1, rg_trans H10.out.2 h11.2⟩)
            clear h11
            have k1 := (rb_cells H11.out.1).2.1
            have k2 := (rb_cells H11.out.1).2.2.1
            have kf := rb_frozen H11.out.1 2
            go_wp2
            go_end0
            have hG9 := rg_trans H11.out.2 (rg_set R 2 w11 (.int .i64 (k : Int)))
            exact ⟨rfl, ⟨some ⟨gg, 0, none⟩, cap', k + 1, ⟨#[]⟩, rfl, rb_set2 H11.out.1 (.int .i64 (k : Int)), ito_rg HR9.out HI9.out hG9, fun _ => rfl, fun h => by cases h⟩, fr_trans HF9.out (fr_rg HR9.out hG9)⟩
end
end Go.Proofs.YthcggdjkfebemaaGreatDoor

/-
  Contract of the program's reader of documents: one step below the root.
-/
namespace Go.Proofs.YthcggdjkfebemaaGreatDoor
open Go.RowKit Go.Joins
set_option linter.unusedVariables false
set_option linter.unusedSimpArgs false
theorem hp_one {x c : UInt8} {l p : List UInt8} (h : x ≠ c) : Lib.hasPrefix (x :: l) (c :: p) = false := by
  simp [Lib.hasPrefix, List.isPrefixOf, Ne.symm h]
theorem hp_two {a x c : UInt8} {l p : List UInt8} (h : x ≠ c) : Lib.hasPrefix (a :: x :: l) (a :: c :: p) = false := by
  simp [Lib.hasPrefix, List.isPrefixOf, Ne.symm h]
theorem qC_33 {x : UInt8} (h : qC x = true) : x ≠ 33 := by rintro rfl; exact absurd h (by decide)
/-- What one step below the root leaves. -/
def BlP (R : Nat) (w : World) (D : Dc) (z : List UInt8) (n : Nat) (w' : World) : Prop := ∃ i o pend, RPos D i o ∧ PS R w' D i o pend (Rm D i o ++ z) ∧ Fr R w w' ∧ (Rm D i o ++ z).length < n
theorem cl_split {D : Dc} {p : Nat} {r : List UInt8} : clP D p ++ r = 60 :: 47 :: ((D.NM p).data.toList ++ 62 :: r) := by unfold clP; simp
section
variable {R : Nat} {w : World} {D : Dc} {i : Nat} {o : Int}
theorem ps_rd9 {w' : World} {pend : Bool} {l l' : List UInt8} (h : PS R w D i o pend l) (hh : ∀ ad k c tx, RB w R l (.slice ad k c) (.int .i64 o) (.string tx) → RdP R w l' (.slice ad k c) (.int .i64 o) (.string tx) w') : PS R w' D i o pend l' ∧ Fr R w w' := by
  obtain ⟨ad, c, k, tx, hk, hB, hI, hf, ht⟩ := h
  have h9 := hh ad k c tx hB
  exact ⟨⟨ad, c, k, tx, hk, h9.1, ito_rg hB hI h9.2, hf, ht⟩, fr_rg hB h9.2⟩
theorem ps_text {pend : Bool} {l : List UInt8} (hdk : docokB D = true) (h : PS R w D i o pend l) (hi : i < D.n) (ho : o = D.U i) (ht : isE (D.NM i) = true) : pend = false := by
  cases pend
  · rfl
  · obtain ⟨ad, c, k, tx, hk, hB, hI, -, hp⟩ := h
    obtain ⟨-, -, h3, h4, -⟩ := hp rfl
    have hki : k = i - 1 := by have : k + 1 = i := hk; omega
    have h0 : 0 < i := by have : k + 1 = i := hk; omega
    rw [hki] at h3 h4
    have h9 := no_dup hdk h0 hi (by rw [h3]; simp [isE, ByteArray.toList_eq]) (by rw [h4, ho])
    rw [ht] at h9
    cases h9
set_option maxRecDepth 100000 in
set_option maxHeartbeats 8000000 in
theorem i_rdBelow (pend : Bool) (z : List UInt8) (hE : EnvR R w) (hdk : docokB D = true) (hl : (Rm D i o ++ z).length ≤ 1000000) (hp : RPos D i o) (h0 : 0 ≤ o) (h : PS R w D i o pend (Rm D i o ++ z)) :
    Calls Tryz.prog 58 #[.pointer (some ⟨R, 0, none⟩)] w fun e w' => e = .returned (.tuple #[]) ∧ BlP R w D z (Rm D i o ++ z).length w' := by
  have hn := (docok_facts hdk).1
  by_cases he : o = tgt D i
  · obtain ⟨hi, hu⟩ := po_tgt hp h0 he
    have hnext := po_next hdk hi
    by_cases ht : isE (D.NM i) = true
    · have hpf := ps_text hdk h hi hu ht
      subst hpf
      obtain ⟨htx, -, -⟩ := text_part hdk hi ht
      have hop : opE D (i + 1) = o := by rw [op_text ht, hu]
      obtain ⟨l8, hl8⟩ : ∃ l, Rm D (i + 1) (opE D (i + 1)) = 60 :: l := rm_lt hdk hnext (by rw [hop]; exact h0) (fun h1 h2 => no_dup hdk (by omega) h1 (by rw [show i + 1 - 1 = i by omega]; exact ht) (by rw [show i + 1 - 1 = i by omega, ← hu, ← hop]; exact h2))
      obtain ⟨l9, hl9⟩ : ∃ l, Rm D (i + 1) (opE D (i + 1)) ++ z = 60 :: l := ⟨l8 ++ z, by rw [hl8]; rfl⟩
      have hrm : Rm D i o ++ z = txP D i ++ 60 :: l9 := by
        rw [hu, rm_open hi, List.append_assoc, hl9]; unfold pcP; rw [if_pos ht]
      have hT0 : 0 < (txP D i).length := by
        unfold txP
        refine esc_nil (fun e => htx ?_)
        have h9 := ba_self (D.TX i)
        rw [e] at h9
        exact h9.symm
      obtain ⟨x, t9, hx⟩ : ∃ x t9, txP D i = x :: t9 := by
        cases e : txP D i with
        | nil => rw [e] at hT0; cases hT0
        | cons x t9 => exact ⟨x, t9, rfl⟩
      have hx60 : x ≠ 60 := (esc_free false _ x (show x ∈ txP D i by rw [hx]; exact List.mem_cons_self ..)).1
      have hrl : (60 :: l9).length < (Rm D i o ++ z).length := by rw [hrm, List.length_append]; omega
      rw [hrm] at h
      have CN : Hid (∀ (c : UInt8) (p : List UInt8) W9 (z1 z2 z3 : Value), c = 60 → RB W9 R (txP D i ++ 60 :: l9) z1 z2 z3 → Calls Tryz.prog 80 #[.pointer (some ⟨R, 0, none⟩), .string ⟨(c :: p).toArray⟩] W9 fun e w' => e = .returned (.bool false) ∧ RdP R W9 (txP D i ++ 60 :: l9) z1 z2 z3 w') := hide (fun c p W9 z1 z2 z3 hc h9 => i_takesN h9 (by rw [hx, hc]; exact hp_one hx60))
      have HH := hide h
      have HE := hide hE
      have HRL := hide hrl
      have HX := hide hl9
      have HN := hide hnext
      rw [hop] at HN HX
      clear h hE hrl hl9 hnext hx hx60 hT0 hrm htx hp he
      obtain ⟨ad, c, k, tx, hk, hB, hI, hf, -⟩ := HH.out
      have HB := hide hB
      have HI := hide hI
      have HF := hide hf
      have HK := hide hk
      clear hk hB hI hf HH
      go_enter Tryz.func58, Tryz.ntmps58
      go_wp2_with fail
      refine (CN.out 60 [33, 45, 45] _ _ _ _ rfl HB.out).mono ?_
      rintro e w1 ⟨rfl, h1⟩
      have H1 := hide h1
      clear h1
      go_wp2_with fail
      refine (CN.out 60 [47] _ _ _ _ rfl H1.out.1).mono ?_
      rintro e w2 ⟨rfl, h2⟩
      have H2 := hide (show RdP R w _ _ _ _ w2 from ⟨h2.1, rg_trans H1.out.2 h2.2⟩)
      clear h2
      go_wp2_with fail
      refine (CN.out 60 [] _ _ _ _ rfl H2.out.1).mono ?_
      rintro e w3 ⟨rfl, h3⟩
      have H3 := hide (show RdP R w _ _ _ _ w3 from ⟨h3.1, rg_trans H2.out.2 h3.2⟩)
      clear h3
      have HF3 := hide (fr_rg HB.out H3.out.2)
      have HP3 : Hid (PS R w3 D i o false (txP D i ++ 60 :: l9)) := hide ⟨ad, c, k, tx, HK.out, H3.out.1, ito_rg HB.out HI.out H3.out.2, fun _ => HF.out trivial, fun h => by cases h⟩
      go_wp2_with fail
      refine (i_rdText o (fr_env HF3.out HE.out) hdk hi ht hu.symm (by have := HRL.out; simp only [List.length_cons] at this; omega) HP3.out).mono ?_
      rintro e w4 ⟨rfl, hps, hf4⟩
      have HPS := hide hps
      have HF4 := hide hf4
      clear hps hf4
      go_wp2
      go_end0
      exact ⟨rfl, i + 1, o, true, HN.out, by rw [HX.out]; exact HPS.out, fr_trans HF3.out HF4.out, by rw [HX.out]; exact HRL.out⟩
    · have ht' : isE (D.NM i) = false := by cases e : isE (D.NM i) with | true => exact absurd e ht | false => rfl
      obtain ⟨-, hq, -⟩ := elem_part hdk hi ht'
      obtain ⟨h6, h7⟩ := qual_q hq
      obtain ⟨x, t9, hx⟩ : ∃ x t9, (D.NM i).data.toList = x :: t9 := by
        cases e : (D.NM i).data.toList with
        | nil => exact absurd e h6
        | cons x t9 => exact ⟨x, t9, rfl⟩
      have hqx := h7 x (by rw [hx]; exact List.mem_cons_self ..)
      obtain ⟨b, hb⟩ : ∃ b, decide (i + 1 < D.n ∧ D.U (i + 1) = i) = b := ⟨_, rfl⟩
      have hop := op_elem ht'
      have hpc := pc_elem ht'
      rw [hb] at hop hpc
      rw [← hu] at hop
      obtain ⟨r, hr⟩ : ∃ r, Rm D (i + 1) (opE D (i + 1)) ++ z = r := ⟨_, rfl⟩
      have hrm : Rm D i o ++ z = 60 :: ((D.NM i).data.toList ++ (atsP (D.AN i) (D.AV i) (D.AC i) ++ (tlE b ++ r))) := by
        rw [hu, rm_open hi, hpc, List.append_assoc, hr]; simp
      have hrl : r.length < (Rm D i o ++ z).length := by rw [hrm]; simp; omega
      have hll : ((D.NM i).data.toList ++ (atsP (D.AN i) (D.AV i) (D.AC i) ++ (tlE b ++ r))).length ≤ 1000000 := by
        rw [hrm, List.length_cons] at hl; omega
      obtain ⟨rest, hrest⟩ : ∃ rest, t9 ++ (atsP (D.AN i) (D.AV i) (D.AC i) ++ (tlE b ++ r)) = rest := ⟨_, rfl⟩
      have hrm2 : Rm D i o ++ z = 60 :: x :: rest := by rw [hrm, hx, ← hrest]; rfl
      have hxr : (D.NM i).data.toList ++ (atsP (D.AN i) (D.AV i) (D.AC i) ++ (tlE b ++ r)) = x :: rest := by rw [hx, ← hrest]; rfl
      rw [hrm2] at h
      have HE := hide hE
      have HRL := hide hrl
      have HN := hide hnext
      have HR := hide hr
      have HX := hide hxr
      rw [hop] at HN HR
      have hx47 := (qC_ne hqx).2.2.2.1
      have hx33 := qC_33 hqx
      obtain ⟨ad, c, k, tx, hk, hB, hI, hf, hf9⟩ := h
      have HB := hide hB
      have HI := hide hI
      have HF := hide hf
      have HF9 := hide hf9
      have HK := hide hk
      clear hk hB hI hf hf9 hE hrl hnext hr hxr hrm hrm2 hrest hop hpc hx h6 h7 hq hp he
      go_enter Tryz.func58, Tryz.ntmps58
      go_wp2_with fail
      refine (i_takesN (p := [60, 33, 45, 45]) HB.out (hp_two hx33)).mono ?_
      rintro e w1 ⟨rfl, h1⟩
      have H1 := hide h1
      clear h1
      go_wp2_with fail
      refine (i_takesN (p := [60, 47]) H1.out.1 (hp_two hx47)).mono ?_
      rintro e w2 ⟨rfl, h2⟩
      have H2 := hide (show RdP R w _ _ _ _ w2 from ⟨h2.1, rg_trans H1.out.2 h2.2⟩)
      clear h2
      go_wp2_with fail
      refine (i_takesY (p := [60]) (r := x :: rest) H2.out.1).mono ?_
      rintro e w3 ⟨rfl, h3⟩
      have H3 := hide (show RdP R w _ _ _ _ w3 from ⟨h3.1, rg_trans H2.out.2 h3.2⟩)
      clear h3
      have HF3 := hide (fr_rg HB.out H3.out.2)
      have HP3 : Hid (PS R w3 D i o pend ((D.NM i).data.toList ++ (atsP (D.AN i) (D.AV i) (D.AC i) ++ (tlE b ++ r)))) := hide (by rw [HX.out]; exact ⟨ad, c, k, tx, HK.out, H3.out.1, ito_rg HB.out HI.out H3.out.2, HF.out, HF9.out⟩)
      go_wp2_with fail
      refine (i_rdElem pend b o (fr_env HF3.out HE.out) hdk hi (by omega) ht' hu.symm hll HP3.out).mono ?_
      rintro e w4 ⟨rfl, hps, hf4⟩
      have HPS := hide hps
      have HF4 := hide hf4
      clear hps hf4
      go_wp2
      go_end0
      exact ⟨rfl, i + 1, _, false, HN.out, by rw [HR.out]; exact HPS.out, fr_trans HF3.out HF4.out, by rw [HR.out]; exact HRL.out⟩
  · obtain ⟨-, hoi, hrm, hpo⟩ := po_close hdk hp he
    obtain ⟨p, hpp⟩ : ∃ p, o.toNat = p := ⟨_, rfl⟩
    rw [hpp] at hoi hrm hpo
    have hop : o = (p : Int) := by omega
    subst hop
    replace hrm : Rm D i (p : Int) ++ z = 60 :: 47 :: ((D.NM p).data.toList ++ 62 :: (Rm D i (D.U p) ++ z)) := by
      rw [hrm, List.append_assoc, cl_split]
    rw [hrm] at h
    have HRL : Hid ((Rm D i (D.U p) ++ z).length < (Rm D i (p : Int) ++ z).length) := hide (by rw [hrm]; simp; omega)
    have HN := hide hpo
    have hi2 : i ≤ 200 := by have := hp.2.1; omega
    obtain ⟨ad, c, k, tx, hk, hB, hI, hf, hf9⟩ := h
    have HB := hide hB
    have HI := hide hI
    have HF := hide hf
    have HF9 := hide hf9
    have HK := hide hk
    clear hk hB hI hf hf9 hE hrm hpo hpp hp he
    go_enter Tryz.func58, Tryz.ntmps58
    go_wp2_with fail
    refine (i_takesN (p := [60, 33, 45, 45]) HB.out (hp_two (by decide))).mono ?_
    rintro e w1 ⟨rfl, h1⟩
    have H1 := hide h1
    clear h1
    go_wp2_with fail
    refine (i_takesY (p := [60, 47]) (r := (D.NM p).data.toList ++ 62 :: (Rm D i (D.U p) ++ z)) H1.out.1).mono ?_
    rintro e w2 ⟨rfl, h2⟩
    have H2 := hide (show RdP R w _ _ _ _ w2 from ⟨h2.1, rg_trans H1.out.2 h2.2⟩)
    clear h2
    have HF2 := hide (fr_rg HB.out H2.out.2)
    have HP2 : Hid (PS R w2 D i (p : Int) pend ((D.NM p).data.toList ++ 62 :: (Rm D i (D.U p) ++ z))) := hide ⟨ad, c, k, tx, HK.out, H2.out.1, ito_rg HB.out HI.out H2.out.2, HF.out, HF9.out⟩
    go_wp2_with fail
    refine (i_rdEnd pend p hi2 hoi HP2.out).mono ?_
    rintro e w4 ⟨rfl, hps, hf4⟩
    have HPS := hide hps
    have HF4 := hide hf4
    clear hps hf4
    go_wp2
    go_end0
    exact ⟨rfl, i, _, false, HN.out, HPS.out, fr_trans HF2.out HF4.out, HRL.out⟩
end
end Go.Proofs.YthcggdjkfebemaaGreatDoor
