/-
  Texts put together: BrV, BrI.
-/
import Derived.Test.YtdepgkpfibmbgaaGreatDoorF35
import Derived.Test.YtdepgkpfibmbgaaGreatDoorF39
import Derived.Test.YtdepgkpfibmbgaaGreatDoorF37
/-
  Contracts of the program: (*plan).row and (*plan).table, at a plan that lies anywhere.
-/
namespace Go.Proofs.YtdepgkpfibmbgaaGreatDoor
open Go.RowKit Go.Joins
set_option linter.unusedVariables false
set_option linter.unusedSimpArgs false
/-- A plan's ten cells. -/
def PlC (w : World) (P o : Nat) (pl : Pl) : Prop := P < w.heap.size ∧ ∀ i, i < 10 → w.cell? ⟨P, o + i, none⟩ = (plV pl)[i]?
theorem plC_go {w w' : World} {P o : Nat} {pl : Pl} (h : PlC w P o pl) (hb : Below w.heap.size w w') : PlC w' P o pl := ⟨Nat.lt_of_lt_of_le h.1 hb.size, fun i hi => (hb.cell (p := ⟨P, o + i, none⟩) h.1).trans (h.2 i hi)⟩
set_option maxRecDepth 100000 in
set_option maxHeartbeats 8000000 in
theorem i_rowV (D : Dc) (n b off cap x P o : Nat) (pl : Pl) (F : List Fq) (B0 fm : Nat) (w : World) (hD : D.n = n) (hdk : docokB D = true) (hx : x < n) (hfm : pl.k.fl.length = fm) (hF : F.length = fm) (h4 : fm ≤ 4) (hq6 : ∀ f ∈ F, f.q.1.length ≤ 6)
    (hP : PlC w P o pl) (hO : w.ownsRow B0 69 3 (.slice pl.fa fm pl.fc) fm (F.flatMap fqV)) (hS : FqS B0 w F) (hbs : b < w.heap.size) (hr : DcRow w b off D w.heap.size) :
    Calls Tryz.prog 52 #[.pointer (some ⟨P, o, none⟩), .slice (some ⟨b, off, none⟩) n cap, .int .i64 x] w (RowAns (rwI D x pl.k.kd (fun j => (fqA F j).q) fm) w) := by
  obtain ⟨i0, hi, hz0, hz1, hz2⟩ := info_parts infoStr
  have HD := hide hD
  have HDK := hide hdk
  have HF := hide hF
  have HQ6 := hide hq6
  have HO := hide hO
  have HS := hide hS
  have HR := hide hr
  have HP := hide hP
  have hPl := hP.1
  have p8 : w.cell? ⟨P, o + 8, none⟩ = some (.slice pl.fa fm pl.fc) := by have h9 := hP.2 8 (by decide); rw [h9]; unfold plV; simp; exact hfm
  obtain ⟨kd, hkd⟩ : ∃ kd, pl.k.kd = kd := ⟨_, rfl⟩
  rw [hkd]
  have D1 : Hid (∀ w9, Below w.heap.size w w9 → w9.cell? ⟨P, o + 1, none⟩ = some (.int .i64 kd)) := hide (fun w9 h9 => (h9.cell (p := ⟨P, o + 1, none⟩) hPl).trans (by have h8 := HP.out.2 1 (by decide); rw [h8]; unfold plV; simp; exact hkd))
  clear hD hdk hF hq6 hO hS hr hP hfm hkd
  go_enter Tryz.func52, Tryz.ntmps52
  go_wp2
  go_loopw [8, 18] (fun rv jv wr => ∃ (j L c8 : Nat) (a8 : Option Addr) (r : List ByteArray), j ≤ fm ∧ jv = .int .i64 j ∧ rv = .slice a8 L c8 ∧ L ≤ j ∧ Hid (r.length = L) ∧ Hid (rwI D x kd (fun j => (fqA F j).q) j = some r) ∧ Hid (wr.ownsRow w.heap.size 9 1 (.slice a8 L c8) L (r.map Value.string)) ∧ Hid (Below w.heap.size w wr)) (fun _ jv _ => fm - (intOf jv).toNat)
  case atStart => exact ⟨0, 0, 0, none, [], Nat.zero_le _, rfl, rfl, Nat.le_refl _, hide rfl, hide rfl, hide ⟨rfl, .inl ⟨rfl, rfl⟩⟩, hide (Below.refl _ _)⟩
  case round =>
    obtain ⟨j, L, c8, a8, r, hj, rfl, rfl, hLj, HL, HRW, HRO, HB⟩ := hrel
    have hsz := HB.out.size
    by_cases hlt : j < fm
    · have hji : (j : Int) < (fm : Int) := by omega
      have hjF : j < F.length := by rw [HF.out]; exact hlt
      have hmem : fqA F j ∈ F := by unfold fqA; rw [List.getElem?_eq_getElem hjF]; exact List.getElem_mem _
      obtain ⟨g, hg, hgl, hcells⟩ : ∃ g, pl.fa = some ⟨g, 0, none⟩ ∧ g < w.heap.size ∧ ∀ i, i < 3 → w.cell? ⟨g, j * 3 + i, none⟩ = (fqV (fqA F j))[i]? := by
        have h2 := HO.out
        rcases h2.2 with ⟨e, h0⟩ | ⟨g, cp, cur, e, -, hg, -⟩
        · omega
        · simp only [Value.slice.injEq] at e
          refine ⟨g, e.1, (Array.getElem?_eq_some_iff.1 hg).1, fun i hi => ?_⟩
          rw [e.1] at h2
          rw [h2.cellAt (j * 3 + i) (by omega), fq_flat F j i hi hjF]
      have hown := HS.out _ hmem
      have h6 := HQ6.out _ hmem
      obtain ⟨f, hf⟩ : ∃ f, fqA F j = f := ⟨_, rfl⟩
      rw [hf] at hcells hown h6
      obtain ⟨ka, kc, kq⟩ := f
      have c0 : wr.cell? ⟨g, j * 3, none⟩ = some (.bool false) := (HB.out.cell (p := ⟨g, j * 3, none⟩) hgl).trans (hcells 0 (by omega))
      have c1 : wr.cell? ⟨g, j * 3 + 1, none⟩ = some (.slice ka kq.1.length kc) := (HB.out.cell (p := ⟨g, j * 3 + 1, none⟩) hgl).trans (hcells 1 (by omega))
      have c2 : wr.cell? ⟨g, j * 3 + 2, none⟩ = some (.string ⟨kq.2.toArray⟩) := (HB.out.cell (p := ⟨g, j * 3 + 2, none⟩) hgl).trans (hcells 2 (by omega))
      have HFJ := hide hf
      have CA : Hid (∀ o, Calls Tryz.prog 32 #[.agg #[.bool false, .slice ka kq.1.length kc, .string ⟨kq.2.toArray⟩], .slice (some ⟨b, off, none⟩) n cap, .int .i64 x] (wr.alloc o) fun e w' => e = .returned (.tuple #[.string (fvF D x kq).1, .int .i64 (fvF D x kq).2]) ∧ Below (wr.alloc o).heap.size (wr.alloc o) w') := hide (fun o => by
        have hb9 : Below w.heap.size w (wr.alloc o) := HB.out.alloc HB.out.size o
        have h9 := i_at D n b off cap x ka kq.1.length kc ⟨kq.2.toArray⟩ kq.1 B0 (wr.alloc o) HD.out HDK.out hx rfl (by dsimp only at h6; omega) (gOwn_after hown hb9) (Nat.lt_of_lt_of_le hbs hb9.size) (dcRow_up (dcRow_go HR.out hbs hb9) hb9.size)
        unfold fvF
        rw [HD.out]
        exact h9)
      have HRN : Hid (fvF D x ((fun j => (fqA F j).q) j) = fvF D x kq) := hide (by show fvF D x (fqA F j).q = _; rw [HFJ.out])
      obtain ⟨V, hV⟩ : ∃ V, fvF D x kq = V := ⟨_, rfl⟩
      rw [hV] at CA HRN
      obtain ⟨v, many⟩ := V
      obtain ⟨nq, hnq⟩ : ∃ nq, kq.1.length = nq := ⟨_, rfl⟩
      obtain ⟨tq, htq⟩ : ∃ tq : ByteArray, (⟨kq.2.toArray⟩ : ByteArray) = tq := ⟨_, rfl⟩
      rw [hnq] at c1 CA
      rw [htq] at c2 CA
      rw [hg] at p8 ⊢
      clear hcells hown hmem hf hV hnq htq h6
      go_wp2_with fail
      refine (CA.out _).mono ?_
      rintro e w5 ⟨rfl, hb5⟩
      have hb6 : Below wr.heap.size wr w5 := ((Below.refl _ _).alloc (Nat.le_refl _) _).trans (hb5.mono (by simp))
      have HB5 := hide (HB.out.trans (hb6.mono HB.out.size))
      have HRO5 := hide (gOwn_after HRO.out hb6)
      have e1 := D1.out w5 HB5.out
      have hs5 := HB5.out.size
      clear hb5 hb6
      dsimp only
      by_cases hm1 : 1 < many
      · have HNO := hide (rw_stop (rw_bad HRW.out HRN.out (.inl hm1)) (fm - (j + 1)))
        have hd1 : decide (1 < many) = true := decide_eq_true hm1
        go_wp2
        go_ret2
        exact ⟨HB5.out, .inr ⟨by have h9 := HNO.out; rw [show j + 1 + (fm - (j + 1)) = fm by omega] at h9; exact h9, rfl⟩⟩
      · have hd1 : decide (1 < many) = false := decide_eq_false hm1
        by_cases hm0 : many = 0
        · have hb0 : (many == 0) = true := by rw [beq_iff_eq]; exact hm0
          by_cases hk2 : kd = 2
          · have hkb : (kd == 2) = true := by rw [beq_iff_eq]; exact hk2
            have HNO := hide (rw_stop (rw_bad HRW.out HRN.out (.inr ⟨hm0, hk2⟩)) (fm - (j + 1)))
            clear hm0 hk2
            go_wp2
            go_ret2
            exact ⟨HB5.out, .inr ⟨by have h9 := HNO.out; rw [show j + 1 + (fm - (j + 1)) = fm by omega] at h9; exact h9, rfl⟩⟩
          · have hkb : (kd == 2) = false := by rw [beq_eq_false_iff_ne]; exact hk2
            have HSK := hide (rw_skip HRW.out HRN.out (by omega) (by omega))
            have hb1 : (many == 1) = false := by rw [beq_eq_false_iff_ne]; omega
            clear hm0 hk2
            go_wp2
            go_roundw
            case rel => exact ⟨j + 1, L, c8, a8, r, by omega, by go_num, rfl, by omega, HL, HSK, HRO5, HB5⟩
            case measure => simp [intOf]; omega
        · have hb0 : (many == 0) = false := by rw [beq_eq_false_iff_ne]; exact hm0
          by_cases he : many = 1
          · have hb1 : (many == 1) = true := by rw [beq_iff_eq]; exact he
            have HTK := hide (rw_one HRW.out HRN.out he)
            clear he hm0
            go_wp2_with (at_builtin; refine wpList_append_own _ rfl (.tmp 45) (.tmp 47) 25 rfl w.heap.size 9 i0 (.string ByteArray.empty) 1 16 Tryz.underlying25 hi hz0 hz1 hz2 rfl (by decide) _ _ _ rfl (HRO5.out.alloc _) ⟨w5.heap.size, 0, none⟩ 1 1 [.string v] rfl rfl (fun i u hu => tb_new w5 v _ i u hu) (tb_one v) (by unfold maxLen; omega) (by omega) (by simp; omega) ?_; intro v2 w7 hown2 hgrow2 _; obtain ⟨ad2, c2', hv2⟩ := gOwn_shape hown2; rw [hv2] at hown2 ⊢; clear hv2; have HB7 := hide (HB5.out.trans (gBelow_at hs5 HRO5.out hgrow2)); have HO7 := hide hown2; clear hown2 hgrow2)
            go_roundw
            case rel => exact ⟨j + 1, L + 1, c2', ad2, r ++ [v], by omega, by go_num, rfl, by omega, hide (by rw [List.length_append, HL.out]; rfl), HTK, hide (by rw [List.map_append]; exact HO7.out), HB7⟩
            case measure => simp [intOf]; omega
          · have hb1 : (many == 1) = false := by rw [beq_eq_false_iff_ne]; exact he
            have HSK := hide (rw_skip HRW.out HRN.out (by omega) he)
            clear he hm0
            go_wp2
            go_roundw
            case rel => exact ⟨j + 1, L, c8, a8, r, by omega, by go_num, rfl, by omega, HL, HSK, HRO5, HB5⟩
            case measure => simp [intOf]; omega
    · have hje : j = fm := by omega
      subst hje
      go_wp2
      go_ret2
      exact ⟨HB.out, .inl ⟨a8, c8, r, L, HRW.out, HL.out, rfl, HRO.out⟩⟩
set_option maxRecDepth 100000 in
set_option maxHeartbeats 8000000 in
theorem i_tableV (D : Dc) (n b off cap x P o : Nat) (pl : Pl) (ps : List (List UInt8)) (F : List Fq) (B0 fm : Nat) (w : World) (hD : D.n = n) (hdk : docokB D = true) (hx : x < n) (hfm : pl.k.fl.length = fm) (hF : F.length = fm) (h4 : fm ≤ 4) (hq6 : ∀ f ∈ F, f.q.1.length ≤ 6) (hps : ps.length = pl.n1) (hp6 : pl.n1 ≤ 6)
    (hP : PlC w P o pl) (hR : w.ownsRow B0 9 1 (.slice pl.a1 pl.n1 pl.c1) pl.n1 (strV ps)) (hO : w.ownsRow B0 69 3 (.slice pl.fa fm pl.fc) fm (F.flatMap fqV)) (hS : FqS B0 w F) (hbs : b < w.heap.size) (hr : DcRow w b off D w.heap.size) :
    Calls Tryz.prog 26 #[.pointer (some ⟨P, o, none⟩), .slice (some ⟨b, off, none⟩) n cap, .int .i64 x] w (TabAns (tbI D pl.k.kd (fun j => (fqA F j).q) fm (srtL (sel D (st D x n pl.d) ps)) (srtL (sel D (st D x n pl.d) ps)).length) w) := by
  obtain ⟨i0, hi, hz0, hz1, hz2⟩ := info_parts infoStrs
  have hn : n ≤ 200 := by rw [← hD]; exact (docok_facts hdk).1.2
  have hst := st_ok (D := D) (x := x) (n := n) pl.d hD hx
  have hsl := sel_ok ps _ hst.1 hst.2
  have CF := hide (i_from D n b off cap w x pl.d pl.a1 pl.n1 pl.c1 ps B0 hD hn hx hbs hr (by rw [← hD]; exact docok_good hdk) hps (by omega) hR)
  have HIN : Hid (∀ j ∈ srtL (sel D (st D x n pl.d) ps), 0 ≤ j ∧ j < (n : Int)) := hide (fun j hj => by rw [← hD]; exact hsl.2 j ((srt_mem _ _).1 hj))
  have hPL : (srtL (sel D (st D x n pl.d) ps)).length ≤ 200 := by
    rw [srt_len hsl.1]
    have := nodup_len hsl.1 (by rw [← hD] at hn; exact hsl.2)
    omega
  have hPl := hP.1
  have CR : Hid (∀ (y : Nat) (w9 : World), y < n → Below w.heap.size w w9 → Calls Tryz.prog 52 #[.pointer (some ⟨P, o, none⟩), .slice (some ⟨b, off, none⟩) n cap, .int .i64 y] w9 (RowAns (rwI D y pl.k.kd (fun j => (fqA F j).q) fm) w9)) := hide (fun y w9 hy h9 => i_rowV D n b off cap y P o pl F B0 fm w9 hD hdk hy hfm hF h4 hq6 (plC_go hP h9) (gOwn_after hO h9) (fqs_go hS h9) (Nat.lt_of_lt_of_le hbs h9.size) (dcRow_up (dcRow_go hr hbs h9) h9.size))
  have HP := hide hP
  have p6 : w.cell? ⟨P, o + 6, none⟩ = some (.bool pl.d) := by have h9 := hP.2 6 (by decide); rw [h9]; unfold plV; simp
  have p7 : w.cell? ⟨P, o + 7, none⟩ = some (.slice pl.a1 pl.n1 pl.c1) := by have h9 := hP.2 7 (by decide); rw [h9]; unfold plV; simp
  have P8 : Hid (∀ w9, Below w.heap.size w w9 → w9.cell? ⟨P, o + 8, none⟩ = some (.slice pl.fa fm pl.fc)) := hide (fun w9 h9 => (h9.cell (p := ⟨P, o + 8, none⟩) hPl).trans (by have h8 := hP.2 8 (by decide); rw [h8]; unfold plV; simp; exact hfm))
  obtain ⟨PL, hPLe⟩ : ∃ PL, srtL (sel D (st D x n pl.d) ps) = PL := ⟨_, rfl⟩
  rw [hPLe] at CF HIN hPL ⊢
  obtain ⟨N, hN⟩ : ∃ N, PL.length = N := ⟨_, rfl⟩
  rw [hN] at CF hPL ⊢
  have HN := hide hN
  obtain ⟨kd, hkd⟩ : ∃ kd, pl.k.kd = kd := ⟨_, rfl⟩
  rw [hkd] at CR ⊢
  clear hD hdk hfm hF hq6 hps hP hR hO hS hr hst hsl hPLe hN hkd
  go_enter Tryz.func26, Tryz.ntmps26
  go_wp2_with fail
  refine CF.out.mono ?_
  rintro e w2 ⟨pa, pc, rfl, hir, hb2⟩
  have HB2 := hide hb2
  have HIR := hide hir
  clear hir hb2
  go_wp2
  go_loopw [8, 21] (fun tv iv wr => ∃ (i L c8 : Nat) (a8 : Option Addr) (T : List (List ByteArray)) (cs : List Value), i ≤ N ∧ iv = .int .i64 i ∧ tv = .slice a8 L c8 ∧ L ≤ i ∧ Hid (T.length = L) ∧ Hid (tbI D kd (fun j => (fqA F j).q) fm PL i = some T) ∧ Hid (wr.ownsRow w2.heap.size 25 1 (.slice a8 L c8) L cs) ∧ Hid (RrS w2.heap.size wr cs T) ∧ Hid (Below w2.heap.size w2 wr)) (fun _ iv _ => N - (intOf iv).toNat)
  case atStart => exact ⟨0, 0, 0, none, [], [], Nat.zero_le _, rfl, rfl, Nat.le_refl _, hide rfl, hide rfl, hide ⟨rfl, .inl ⟨rfl, rfl⟩⟩, hide ⟨rfl, fun j hj => absurd hj (Nat.not_lt_zero _), fun i j u v h hu => by simp at hu⟩, hide (Below.refl _ _)⟩
  case round =>
    obtain ⟨i, L, c8, a8, T, cs, hii, rfl, rfl, hLi, HTL, HTB, HTO, HRR, HB⟩ := hrel
    have HBB := hide (HB2.out.trans (HB.out.mono HB2.out.size))
    have hsz := HBB.out.size
    have hsw2 : w2.heap.size ≤ wr.heap.size := HB.out.size
    by_cases hlt : i < N
    · have hci : (i : Int) < (N : Int) := by omega
      obtain ⟨g, hga, hgl, hc⟩ := ti_at HIR.out i (by rw [HN.out]; exact hlt)
      have q0 := (HB.out.cell (p := ⟨g, i, none⟩) hgl).trans hc
      have hin := HIN.out (PL[i]?.getD 0) (by rw [List.getElem?_eq_getElem (by rw [HN.out]; exact hlt)]; exact List.getElem_mem _)
      obtain ⟨p, hp⟩ : ∃ p : Nat, PL[i]?.getD 0 = (p : Int) := ⟨(PL[i]?.getD 0).toNat, by omega⟩
      have HPP : Hid ((PL[i]?.getD 0).toNat = p) := hide (by rw [hp]; rfl)
      rw [hp] at q0 hin
      have hpn : p < n := by omega
      have CR2 := hide (CR.out p wr hpn HBB.out)
      subst hga
      clear hc hp hin
      go_wp2_with fail
      refine CR2.out.mono ?_
      rintro e w5 ⟨hb5, hans⟩
      have HB5 := hide (HB.out.trans (hb5.mono HB.out.size))
      have HBB5 := hide (HBB.out.trans (hb5.mono HBB.out.size))
      have HTO5 := hide (gOwn_after HTO.out hb5)
      have HRR5 := hide (rrs_go HRR.out hb5)
      have HLT := hide (rrs_lt HRR.out)
      have e8 := P8.out w5 HBB5.out
      have hs5 := HBB5.out.size
      have hs52 : w2.heap.size ≤ w5.heap.size := HB5.out.size
      have hsw : wr.heap.size ≤ w5.heap.size := hb5.size
      clear hb5
      rcases hans with ⟨ra, rc, r, k, hor, hrk, rfl, hro⟩ | ⟨hor, rfl⟩
      · have HRO := hide hro
        have HRK := hide hrk
        by_cases hkf : k = fm
        · have hkb : ((k : Int) == (fm : Int)) = true := by rw [hkf, beq_iff_eq]
          have HTB2 := hide (tb_yes HTB.out HPP.out hor (by rw [hrk]; exact hkf))
          clear hor hro hrk hkf
          go_wp2_with (at_builtin; refine wpList_append_own _ rfl (.tmp 42) (.tmp 44) 30 rfl w2.heap.size 25 i0 (.slice none 0 0) 1 24 Tryz.underlying30 hi hz0 hz1 hz2 rfl (by decide) _ _ _ rfl (HTO5.out.alloc _) ⟨w5.heap.size, 0, none⟩ 1 1 [.slice ra k rc] rfl rfl (fun i u hu => ts_new w5 _ _ _ _ i u hu) (ts_one _ _ _) (by unfold maxLen; omega) (by omega) (by simp; omega) ?_; intro v2 w7 hown2 hgrow2 _; obtain ⟨ad2, c2', hv2⟩ := gOwn_shape hown2; rw [hv2] at hown2 ⊢; clear hv2; have HB7 := hide (rt_below HB5.out HTO5.out HB5.out.size hgrow2); have HRR7 := hide (rrs_grown (rrs_put (B2 := wr.heap.size) HRR5.out HRK.out (gOwn_lower HRO.out hsw2) (fun q hq => (HRO.out.lt q hq).1) HLT.out) HTO5.out (by decide) hgrow2); have HO7 := hide hown2; clear hown2 hgrow2)
          go_roundw
          case rel => exact ⟨i + 1, L + 1, c2', ad2, T ++ [r], cs ++ [.slice ra k rc], by omega, by go_num, rfl, by omega, hide (by rw [List.length_append, HTL.out]; rfl), HTB2, HO7, HRR7, HB7⟩
          case measure => simp [intOf]; omega
        · have hkb : ((k : Int) == (fm : Int)) = false := by rw [beq_eq_false_iff_ne]; omega
          have HTB2 := hide (tb_skip HTB.out HPP.out hor (by rw [hrk]; exact hkf))
          clear hor hro hrk hkf
          go_wp2
          go_roundw
          case rel => exact ⟨i + 1, L, c8, a8, T, cs, by omega, by go_num, rfl, by omega, HTL, HTB2, HTO5, HRR5, HB5⟩
          case measure => simp [intOf]; omega
      · have HNO := hide (tb_stop (tb_bad HTB.out HPP.out hor) (N - (i + 1)))
        clear hor
        go_wp2
        go_ret2
        exact ⟨HBB5.out, .inr ⟨by have h9 := HNO.out; rw [show i + 1 + (N - (i + 1)) = N by omega] at h9; exact h9, rfl⟩⟩
    · have hie : i = N := by omega
      subst hie
      go_wp2
      go_ret2
      exact ⟨HBB.out, .inl ⟨a8, c8, T, L, cs, HTB.out, HTL.out, rfl, gOwn_lower HTO.out HB2.out.size, rrs_low HRR.out HB2.out.size⟩⟩
/-- The table of a plan. -/
theorem i_tabP (D : Dc) (n b off cap x P o : Nat) (pl : Pl) (B0 : Nat) (w : World) (hD : D.n = n) (hdk : docokB D = true) (hx : x < n) (hP : PlC w P o pl) (hW : PlW B0 w pl) (hbs : b < w.heap.size) (hr : DcRow w b off D w.heap.size) :
    Calls Tryz.prog 26 #[.pointer (some ⟨P, o, none⟩), .slice (some ⟨b, off, none⟩) n cap, .int .i64 x] w (TabAns (tbK D x pl.k) w) := by
  obtain ⟨h1, h2, h3, F, h4, h5, h6, h7, h8⟩ := hW
  have h9 := i_tableV D n b off cap x P o pl (sg [] (restL pl.k.pa.data.toList)) F B0 pl.k.fl.length w hD hdk hx rfl h5 h1.2.2.2.2.1.2 (fun f hf => by
    obtain ⟨i, hi, e⟩ := List.mem_iff_getElem.1 hf
    have h8 := h6 i (by rw [← h5]; exact hi)
    have e2 : fqA F i = f := by unfold fqA; rw [List.getElem?_eq_getElem hi]; exact e
    rw [e2] at h8
    exact fld_few h8) (by rw [h3]; rfl) (by rw [h3]; exact route_few h1.2.2.2.1) hP h4 h7 h8 hbs hr
  have hc := tb_congr (D := D) (kd := pl.k.kd) (Q1 := fun j => (fqA F j).q) (Q2 := kyQ pl.k) (nf := pl.k.fl.length) (L := srtL (sel D (st D x n pl.d) (sg [] (restL pl.k.pa.data.toList)))) (fun j hj => by
    have h8 := h6 j hj
    unfold kyQ
    show (fqA F j).q = (fld (pl.k.fl[j]?.getD ⟨#[]⟩).data.toList).getD ([], [])
    rw [h8]
    rfl)
  rw [hc] at h9
  unfold tbK kyP
  rw [hD, ← h2]
  exact h9
end Go.Proofs.YtdepgkpfibmbgaaGreatDoor

/-
  Contract of the program: does a key hold at an element?
-/
namespace Go.Proofs.YtdepgkpfibmbgaaGreatDoor
open Go.RowKit Go.Joins Go.Maps
set_option linter.unusedVariables false
set_option linter.unusedSimpArgs false
section
variable {D : Dc} {L : List Ky} {x i q : Nat} {T : List (List ByteArray)}
theorem brk_none (h : tbK D x (kyA L i) = none) : brk D L x i := fun T hT => by rw [h] at hT; cases hT
theorem brk_dup (h : tbK D x (kyA L i) = some T) (h3 : (kyA L i).kd ≠ 3) : brk D L x i ↔ dupT T := by
  constructor
  · intro hb
    rcases hb T h with ⟨-, h9⟩ | ⟨h9, -⟩
    · exact h9
    · exact absurd h9 h3
  · intro hd T' hT'
    rw [h] at hT'
    cases hT'
    exact .inl ⟨h3, hd⟩
theorem brk_ref (hK : KeysP L) (hi : i < L.length) (h : tbK D x (kyA L i) = some T) (h3 : (kyA L i).kd = 3) (hq : q < i) (hn : (kyA L q).nm = (kyA L i).re) : brk D L x i ↔ ∃ r ∈ T, ∀ U, tbK D x (kyA L q) = some U → r ∉ U := by
  constructor
  · intro hb
    rcases hb T h with ⟨h9, -⟩ | ⟨-, j, hj, hjn, h9⟩
    · exact absurd h3 h9
    · have e := ref_one hK hi hj hjn hq hn
      rw [← e]
      exact h9
  · intro hd T' hT'
    rw [h] at hT'
    cases hT'
    exact .inr ⟨h3, q, hq, hn, hd⟩
theorem brk_nil (h : tbK D x (kyA L i) = some T) (h3 : (kyA L i).kd = 3) (h0 : T.length = 0) : ¬ brk D L x i := fun hb => by
  rcases hb T h with ⟨h9, -⟩ | ⟨-, j, hj, hjn, r, hr, -⟩
  · exact absurd h3 h9
  · rw [List.length_eq_zero_iff.1 h0] at hr; cases hr
theorem dup_iff {m : Nat} (hl : ∀ r ∈ T, r.length = m) (h4 : m ≤ 4) : (∀ a c, c < a → a < T.length → rkV (T[a]?.getD []) ≠ rkV (T[c]?.getD [])) ↔ ¬ dupT T := by
  have hat : ∀ a, a < T.length → (T[a]?.getD []).length = m := fun a ha => by rw [List.getElem?_eq_getElem ha]; exact hl _ (List.getElem_mem ha)
  constructor
  · rintro h ⟨a, c, h1, h2, h3⟩
    exact h a c h1 h2 (by rw [h3])
  · intro h a c h1 h2 h3
    exact h ⟨a, c, h1, h2, rk_inj (by rw [hat a h2, hat c (by omega)]) (by rw [hat a h2]; exact h4) h3⟩
theorem among_iff {U : List (List ByteArray)} {m : Nat} (hl : ∀ r ∈ T, r.length = m) (hu : ∀ r ∈ U, r.length = m) (h4 : m ≤ 4) : (∀ i, i < T.length → ∃ j, j < U.length ∧ rkV (U[j]?.getD []) = rkV (T[i]?.getD [])) ↔ ¬ ∃ r ∈ T, r ∉ U := by
  constructor
  · rintro h ⟨r, hr, hn⟩
    obtain ⟨i, hi, e⟩ := List.mem_iff_getElem.1 hr
    obtain ⟨j, hj, h9⟩ := h i hi
    rw [List.getElem?_eq_getElem hi, List.getElem?_eq_getElem hj] at h9
    simp only [Option.getD_some] at h9
    have h8 := rk_inj (by rw [hu _ (List.getElem_mem hj), hl _ (List.getElem_mem hi)]) (by rw [hu _ (List.getElem_mem hj)]; exact h4) h9
    rw [e] at h8
    exact hn (h8 ▸ List.getElem_mem hj)
  · intro h i hi
    have hm : T[i] ∈ U := Classical.byContradiction (fun hn => h ⟨_, List.getElem_mem hi, hn⟩)
    obtain ⟨j, hj, e⟩ := List.mem_iff_getElem.1 hm
    exact ⟨j, hj, by rw [List.getElem?_eq_getElem hi, List.getElem?_eq_getElem hj, e]⟩
end
theorem plC_row {B : Nat} {w : World} {ad : Option Addr} {m c : Nat} {Ps : List Pl} (h : PlO B w ad m c Ps) (j : Nat) (hj : j < m) : ∃ g, ad = some ⟨g, 0, none⟩ ∧ PlC w g (j * 10) (plA Ps j) := by
  obtain ⟨g, h1, h2, h3, h4⟩ := plO_cell h j hj
  exact ⟨g, h1, h3, h4⟩
theorem pls_at {B : Nat} {w : World} {Ps : List Pl} (h : PlsW B w Ps) {j : Nat} (hj : j < Ps.length) : PlW B w (plA Ps j) := by
  unfold plA
  rw [List.getElem?_eq_getElem hj]
  exact h _ (List.getElem_mem hj)
theorem plC_new (w : World) (p : Pl) (T : TypeId) : PlC (w.alloc (.cells (plV p).toArray T)) w.heap.size 0 p := ⟨by simp, fun i hi => by
  rw [Nat.zero_add, cellsAt_cell (cellsAt_new w (plV p).toArray T) i]
  simp⟩
theorem tk_ok {D : Dc} (hdk : docokB D = true) {x : Nat} (hx : x < D.n) {k : Ky} (hk : KeyOne k) {T : List (List ByteArray)} (h : tbK D x k = some T) : RwsOk T := by
  obtain ⟨h1, h2⟩ := tk_rows hdk hx h
  refine ⟨h1, fun r hr => ⟨?_, fun v hv => ?_⟩⟩
  · rw [(h2 r hr).1]; exact hk.2.2.2.2.1.2
  · have := (h2 r hr).2 v hv; unfold maxLen; omega
set_option maxRecDepth 100000 in
set_option maxHeartbeats 8000000 in
theorem i_holdsAt (D : Dc) (n b off cap : Nat) (L : List Ky) (np : Nat) (B : Nat) (pa : Option Addr) (pc : Nat) (Ps : List Pl) (i x : Nat) (w : World) (hD : D.n = n) (hdk : docokB D = true) (hx : x < n) (hK : KeysP L) (hL : L.length = np) (hi : i < np) (hPO : PlO B w pa np pc Ps) (hPK : PlK L Ps np) (hPW : PlsW B w Ps) (hRf : PlRf Ps np) (hbs : b < w.heap.size) (hr : DcRow w b off D w.heap.size) :
    Calls Tryz.prog 70 #[.slice (some ⟨b, off, none⟩) n cap, .slice pa np pc, .int .i64 i, .int .i64 x] w fun e w' => (∃ V : Bool, e = .returned (.bool V) ∧ (V = true ↔ ¬ brk D L x i)) ∧ Below w.heap.size w w' := by
  have hnp : np ≤ 10 := by rw [← hL]; exact hK.1
  have hPs : Ps.length = np := hPO.1
  have hxD : x < D.n := by omega
  have hii : (i : Int) < (np : Int) := by omega
  obtain ⟨g, hga, hPC⟩ := plC_row hPO i hi
  have hki := hPK i hi
  have hone : KeyOne (kyA L i) := (hK.2 i (by omega)).1
  have HRQ : Hid ((kyA L i).kd = 3 → ∃ q : Nat, (plA Ps i).r = q ∧ q < i ∧ (kyA L q).nm = (kyA L i).re) := hide (fun h3 => by
    obtain ⟨q, a, b, c⟩ := hRf i hi (by rw [hki]; exact h3)
    rw [hki, hPK q (by omega)] at c
    exact ⟨q, a, b, c⟩)
  have HT0 : Hid (∀ (P o : Nat) (w3 : World) (j : Nat), j < np → Below w.heap.size w w3 → PlC w3 P o (plA Ps j) → Calls Tryz.prog 26 #[.pointer (some ⟨P, o, none⟩), .slice (some ⟨b, off, none⟩) n cap, .int .i64 x] w3 (TabAns (tbK D x (kyA L j)) w3)) := hide (fun P o w3 j hj h3 hc => by
    have h9 := i_tabP D n b off cap x P o (plA Ps j) B w3 hD hdk hx hc (plw_go (pls_at hPW (by omega)) h3) (Nat.lt_of_lt_of_le hbs h3.size) (dcRow_up (dcRow_go hr hbs h3) h3.size)
    rw [hPK j hj] at h9
    exact h9)
  have HROW : Hid (∀ q, q < np → PlC w g (q * 10) (plA Ps q)) := hide (fun q hq => by
    obtain ⟨g2, e, h9⟩ := plC_row hPO q hq
    rw [hga] at e
    cases e
    exact h9)
  have HTK : Hid (∀ j T, j < np → tbK D x (kyA L j) = some T → RwsOk T ∧ ∀ r ∈ T, r.length = (kyA L j).fl.length) := hide (fun j T hj h => ⟨tk_ok hdk hxD (hK.2 j (by omega)).1 h, fun r hr => ((tk_rows hdk hxD h).2 r hr).1⟩)
  have HK := hide hK
  have HL := hide hL
  have HNEW := hide (plC_new w (plA Ps i))
  have hf4 : (kyA L i).fl.length ≤ 4 := hone.2.2.2.2.1.2
  obtain ⟨p, hp⟩ : ∃ p, plA Ps i = p := ⟨_, rfl⟩
  rw [hp] at hPC hki HRQ HNEW
  have HPI := hide hp
  obtain ⟨⟨nm, kd, on, pth, fl, re⟩, af, cf, d, a1, n1, c1, fa, fc, rr⟩ := p
  have hkd : (kyA L i).kd = kd := by rw [← hki]
  have HKD := hide hkd
  obtain ⟨fm, hfm⟩ : ∃ fm, fl.length = fm := ⟨_, rfl⟩
  have hc := hPC.2
  have hgl := hPC.1
  have q0 : w.cell? ⟨g, i * 10, none⟩ = some (.string nm) := hc 0 (by decide)
  have q1 : w.cell? ⟨g, i * 10 + 1, none⟩ = some (.int .i64 kd) := hc 1 (by decide)
  have q2 : w.cell? ⟨g, i * 10 + 2, none⟩ = some (.string on) := hc 2 (by decide)
  have q3 : w.cell? ⟨g, i * 10 + 3, none⟩ = some (.string pth) := hc 3 (by decide)
  have q4 : w.cell? ⟨g, i * 10 + 4, none⟩ = some (.slice af fl.length cf) := hc 4 (by decide)
  have q5 : w.cell? ⟨g, i * 10 + 5, none⟩ = some (.string re) := hc 5 (by decide)
  have q6 : w.cell? ⟨g, i * 10 + 6, none⟩ = some (.bool d) := hc 6 (by decide)
  have q7 : w.cell? ⟨g, i * 10 + 7, none⟩ = some (.slice a1 n1 c1) := hc 7 (by decide)
  have q8 : w.cell? ⟨g, i * 10 + 8, none⟩ = some (.slice fa fl.length fc) := hc 8 (by decide)
  have q9 : w.cell? ⟨g, i * 10 + 9, none⟩ = some (.int .i64 rr) := hc 9 (by decide)
  unfold plV at HNEW
  simp only at HNEW
  rw [hfm] at q4 q8 HNEW
  subst hga
  have HB1 : Hid (∀ o, Below w.heap.size w (w.alloc o)) := hide (fun o => (Below.refl _ _).alloc (Nat.le_refl _) o)
  have CT1 : Hid (∀ (T : TypeId), Calls Tryz.prog 26 #[.pointer (some ⟨w.heap.size, 0, none⟩), .slice (some ⟨b, off, none⟩) n cap, .int .i64 x] (w.alloc (.cells #[.string nm, .int .i64 kd, .string on, .string pth, .slice af fm cf, .string re, .bool d, .slice a1 n1 c1, .slice fa fm fc, .int .i64 rr] T)) (TabAns (tbK D x (kyA L i)) (w.alloc (.cells #[.string nm, .int .i64 kd, .string on, .string pth, .slice af fm cf, .string re, .bool d, .slice a1 n1 c1, .slice fa fm fc, .int .i64 rr] T)))) := hide (fun T => HT0.out w.heap.size 0 _ i hi (HB1.out _) (by rw [HPI.out]; exact HNEW.out T))
  clear hPO hPK hPW hRf hr hD hdk hxD hPC hki hone hc hp hkd hK hL hfm hPs hx
  go_enter Tryz.func70, Tryz.ntmps70
  go_wp2_with fail
  refine (CT1.out _).mono ?_
  rintro e w2 ⟨hb2, hans⟩
  have hcz : CellsAt w2 w.heap.size #[.string nm, .int .i64 kd, .string on, .string pth, .slice af fm cf, .string re, .bool d, .slice a1 n1 c1, .slice fa fm fc, .int .i64 rr] := cellsAt_go (cellsAt_new w _ _) hb2 (by simp)
  have z1 : w2.cell? ⟨w.heap.size, 1, none⟩ = some (.int .i64 kd) := cellsAt_cell hcz 1
  have z9 : w2.cell? ⟨w.heap.size, 9, none⟩ = some (.int .i64 rr) := cellsAt_cell hcz 9
  have HB2 := hide ((HB1.out _).trans (hb2.mono (HB1.out _).size))
  have hs2 : w.heap.size < w2.heap.size := cellsAt_lt hcz
  clear hb2 hcz q0 q1 q2 q3 q4 q5 q6 q7 q8 q9
  rcases hans with ⟨ta, tc, T, k, cs, ho, hk, rfl, hto, hrr⟩ | ⟨ho, rfl⟩
  · have HTA : Hid (TbAt _ w2 ta k tc T) := hide ⟨hk, cs, hto, hrr⟩
    obtain ⟨hok, hlen⟩ := HTK.out i T hi ho
    have HOK := hide hok
    have HLEN := hide hlen
    have HO := hide ho
    have HKL := hide hk
    have hk200 : k ≤ 200 := by have := hok.1; omega
    clear hto hrr hok hlen ho hk
    by_cases h3 : kd = 3
    · have h3b : (kd != 3) = false := by rw [h3]; rfl
      obtain ⟨q, hrq, hqi, hqn⟩ := HRQ.out (by rw [HKD.out]; exact h3)
      have hrq' : rr = (q : Int) := hrq
      subst hrq'
      have hqnp : q < np := by omega
      have hqn2 : (q : Int) < (np : Int) := by omega
      have HREF := hide (brk_ref HK.out (by rw [HL.out]; exact hi) HO.out (by rw [HKD.out]; exact h3) hqi hqn)
      by_cases hk0 : k = 0
      · have HNB := hide (brk_nil HO.out (by rw [HKD.out]; exact h3) (by rw [HKL.out]; exact hk0))
        have hk0b : ((k : Int) == 0) = true := by rw [hk0]; rfl
        clear h3 hrq hk0
        go_wp2
        go_ret
        exact ⟨⟨true, rfl, ⟨fun _ => HNB.out, fun _ => rfl⟩⟩, HB2.out⟩
      · have hk0b : ((k : Int) == 0) = false := by rw [beq_eq_false_iff_ne]; omega
        have CT2 := hide (HT0.out g (q * 10) w2 q hqnp HB2.out (plC_go (HROW.out q hqnp) HB2.out))
        have HFE : Hid ((kyA L q).fl.length = (kyA L i).fl.length) := hide (ref_at HK.out (by rw [HL.out]; exact hi) (by rw [HKD.out]; exact h3) hqi hqn)
        have hk00 : 0 < k := by omega
        clear h3 hrq hk0 hqn
        go_wp2_with fail
        refine CT2.out.mono ?_
        rintro e w3 ⟨hb3, hans⟩
        have HB3 := hide (HB2.out.trans (hb3.mono HB2.out.size))
        have HTA3 := hide (tbAt_go HTA.out hb3)
        clear hb3
        rcases hans with ⟨ua, uc, U, m, cs2, ho, hm, rfl, hto, hrr⟩ | ⟨ho, rfl⟩
        · have HUA : Hid (TbAt _ w3 ua m uc U) := hide ⟨hm, cs2, hto, hrr⟩
          obtain ⟨hok, hlen⟩ := HTK.out q U hqnp ho
          have hm200 : m ≤ 200 := by have := hok.1; omega
          have HOKU := hide hok
          have HFIN : Hid ((∀ i, i < k → ∃ j, j < m ∧ rkV (U[j]?.getD []) = rkV (T[i]?.getD [])) ↔ ¬ brk D L x i) := hide (by
            have h9 := among_iff HLEN.out (fun r hr => (hlen r hr).trans HFE.out) hf4
            rw [HKL.out, hm] at h9
            rw [h9, HREF.out]
            constructor
            · rintro h8 ⟨r, hr, hn⟩; exact h8 ⟨r, hr, hn U ho⟩
            · rintro h8 ⟨r, hr, hn⟩; exact h8 ⟨r, hr, fun U' hU' => by rw [ho] at hU'; cases hU'; exact hn⟩)
          clear hto hrr hok hlen ho hm
          have CRI := hide (i_rowsIn _ ua m uc U w3 HUA.out HOKU.out)
          go_wp2_with (first
            | (go_at_call 105; refine CRI.out.mono ?_; rintro e w4 ⟨rfl, hrs4, hb4⟩; have HB4 := hide (HB3.out.trans (hb4.mono HB3.out.size)); have CAL := hide (i_allAmong _ ta k tc T w3.heap.size m U w4 (tbAt_go HTA3.out hb4) HOK.out hrs4); clear hrs4 hb4)
            | (go_at_call 106; refine CAL.out.mono ?_; rintro e w5 ⟨⟨V, rfl, hV⟩, hb5⟩; have HB5 := hide (HB4.out.trans (hb5.mono HB4.out.size)); have HV := hide hV; clear hV hb5))
          go_ret
          exact ⟨⟨V, rfl, by rw [HV.out]; exact HFIN.out⟩, HB5.out⟩
        · have HBR : Hid (brk D L x i) := hide (HREF.out.2 (by
            have hT0 : T ≠ [] := fun e => by have := HKL.out; rw [e] at this; simp at this; omega
            obtain ⟨r, T', rfl⟩ := List.exists_cons_of_ne_nil hT0
            exact ⟨r, List.mem_cons_self .., fun U hU => by rw [ho] at hU; cases hU⟩))
          clear ho
          go_wp2
          go_ret
          exact ⟨⟨false, rfl, ⟨fun h => (by cases h), fun h => absurd HBR.out h⟩⟩, HB3.out⟩
    · have h3b : (kd != 3) = true := by rw [bne_iff_ne]; exact h3
      have HFIN : Hid ((∀ a c, c < a → a < k → rkV (T[a]?.getD []) ≠ rkV (T[c]?.getD [])) ↔ ¬ brk D L x i) := hide (by
        rw [brk_dup HO.out (by rw [HKD.out]; exact h3), ← dup_iff HLEN.out hf4, HKL.out])
      have CRI := hide (i_rowsIn _ ta k tc T w2 HTA.out HOK.out)
      clear h3
      go_wp2_with (go_at_call 105; refine CRI.out.mono ?_; rintro e w4 ⟨rfl, hrs4, hb4⟩; have HB4 := hide (HB2.out.trans (hb4.mono HB2.out.size)); obtain ⟨DD, h1, -, -, hsz, hdd⟩ := hrs4; have hlen := fun ty => h1.len Tryz.underlying132 ty; have HDD := hide hdd; obtain ⟨sz, hsz2⟩ : ∃ sz, Maps.size DD = sz := ⟨_, rfl⟩; rw [hsz2] at hlen HDD hsz; clear h1 hdd hsz2 hb4)
      go_ret
      exact ⟨⟨_, rfl, by rw [← HFIN.out, ← HDD.out]; simp; omega⟩, HB4.out⟩
  · have HBR := hide (brk_none ho)
    clear ho
    go_wp2
    go_ret
    exact ⟨⟨false, rfl, ⟨fun h => (by cases h), fun h => absurd HBR.out h⟩⟩, HB2.out⟩
end Go.Proofs.YtdepgkpfibmbgaaGreatDoor
