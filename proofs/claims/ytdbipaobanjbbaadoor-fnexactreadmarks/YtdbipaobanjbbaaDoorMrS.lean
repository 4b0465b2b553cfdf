/-
  Contract of the specification: ReadMarks.
-/
import Derived.Test.YtdbipaobanjbbaaDoorMrF
import Derived.Test.YtdbipaobanjbbaaDoorMkT
import Derived.Test.YtdbipaobanjbbaaDoorGen
namespace Go.Proofs.YtdbipaobanjbbaaDoor
open Go.RowKit Go.Joins
set_option linter.unusedVariables false
set_option linter.unusedSimpArgs false
theorem infoMr : (Tryd.prog.info? 29).map (fun i => (i.zero, i.size, i.bytes)) = some (some (.agg #[.bool false, .int .i64 0, .string ⟨#[]⟩, .bool false, .bool false]), 5, 40) := by kernel_rfl
theorem mr_new (w : World) (m : Mr) (t : TypeId) (j : Nat) (u : Value) (hj : (mrV m)[j]? = some u) : (w.alloc (.cells #[.bool m.g, .int .i64 m.dc, .string m.vl, .bool m.nl, .bool m.gv] t)).cell? ((⟨w.heap.size, 0, none⟩ : Addr).add j) = some u := by
  have hn := cellsAt_new w #[.bool m.g, .int .i64 m.dc, .string m.vl, .bool m.nl, .bool m.gv] t
  have h1 : (w.alloc (.cells #[.bool m.g, .int .i64 m.dc, .string m.vl, .bool m.nl, .bool m.gv] t)).cell? ⟨w.heap.size, j, none⟩ = (#[Value.bool m.g, .int .i64 m.dc, .string m.vl, .bool m.nl, .bool m.gv])[j]? := cellsAt_cell hn j
  have h2 : (#[Value.bool m.g, .int .i64 m.dc, .string m.vl, .bool m.nl, .bool m.gv])[j]? = (mrV m)[j]? := by simp [mrV]
  rw [show (⟨w.heap.size, 0, none⟩ : Addr).add j = ⟨w.heap.size, j, none⟩ by (simp [Addr.add]; try (intro h; exact h.symm)), h1, h2]
  exact hj
theorem mr_one (m : Mr) : ∀ u ∈ mrV m, u.oneCell' = true := by
  intro u hu
  simp [mrV] at hu
  rcases hu with rfl | rfl | rfl | rfl | rfl <;> rfl
theorem let_of {m : Mr} {C : ByteArray} (hm : bdR m = C.data.toList) (h : 6 ≤ C.size) : ((C[0].toNat : Int) == 103) = m.g ∧ ((C[1].toNat : Int) == 110) = m.nl ∧ ((C[2].toNat : Int) == 100) = m.gv := by
  rw [bd_eq] at hm
  have e0 := bget C 0 (by omega)
  have e1 := bget C 1 (by omega)
  have e2 := bget C 2 (by omega)
  rw [← hm] at e0 e1 e2
  simp at e0 e1 e2
  have F : ∀ (b : Bool) (c x : UInt8), c ≠ 45 → (if b = true then c else 45) = x → ((x.toNat : Int) == (c.toNat : Int)) = b := by
    intro b c x hc hx
    subst hx
    cases b
    · simp only [Bool.false_eq_true, if_false, beq_eq_false_iff_ne]
      intro e
      exact hc (UInt8.toNat_inj.1 (by omega))
    · simp
  exact ⟨F m.g 103 _ (by decide) e0, F m.nl 110 _ (by decide) e1, F m.gv 100 _ (by decide) e2⟩
theorem mr_tl (s : ByteArray) : s.toList = s.data.toList := by
  rw [ByteArray.toList_eq]
theorem mr_neL {a b : ByteArray} (h : a ≠ b) : ¬ a.toList = b.toList := fun e => by
  rw [mr_tl, mr_tl] at e
  obtain ⟨⟨a⟩⟩ := a
  obtain ⟨⟨b⟩⟩ := b
  simp at e
  exact h (by rw [e])
theorem mr_neB {a b : ByteArray} (h : a ≠ b) : (a.toList == b.toList) = false := beq_eq_false_iff_ne.2 (mr_neL h)
theorem mr_nilL {a : ByteArray} (h : a.data.toList = []) : a.toList = [] := (mr_tl a).trans h
theorem mr_nnL {a : ByteArray} (h : ¬ a.data.toList = []) : a.toList ≠ [] := fun e => h ((mr_tl a).symm.trans e)
set_option maxRecDepth 100000 in
set_option maxHeartbeats 8000000 in
theorem s_readMarks (s : ByteArray) (w : World) (hs : s.size ≤ 1048576) : Calls Tryd.prog 4 #[.string s] w (RmkAns s w) := by
  obtain ⟨i0, hi, hz0, hz1, hz2⟩ := info_parts infoMr
  go_enter Tryd.func4, Tryd.ntmps4
  go_wp2
  go_loopw [4, 5, 6] (fun v ln iv wr => ∃ (k n : Nat) (C : ByteArray) (ad : Option Addr) (c : Nat), k ≤ s.size ∧ iv = .int .i64 k ∧ ln = .string C ∧ v = .slice ad n c ∧ Hid (RmRel s w wr k C ad n c)) (fun _ _ iv _ => s.size - (intOf iv).toNat)
  case atStart => exact ⟨0, 0, ⟨#[]⟩, _, 0, Nat.zero_le _, rfl, rfl, rfl, hide (rr_start s w)⟩
  case round =>
    obtain ⟨k, n, C, ad, c, hk, rfl, rfl, rfl, HR⟩ := hrel
    obtain ⟨hCk, hn⟩ := rr_size HR.out
    have hsz : w.heap.size ≤ wr.heap.size := (rr_below HR.out).size
    by_cases hlt : k < s.size
    · have hk1 : (0 : Int) ≤ k := by omega
      have hk2 : (k : Int) < s.size := by omega
      have hk3 : (k : Int) ≤ s.size := by omega
      have hk4 : (k : Int) + 1 ≤ s.size := by omega
      have hk5 : (k : Int) ≤ k + 1 := by omega
      have hk6 : ((k : Int) + 1).toNat = k + 1 := by omega
      by_cases hc : s[k] = 10
      · have hcb : ((s[k].toNat : Int) != 10) = false := by rw [hc]; rfl
        have HC := hide hc
        clear hc
        by_cases h6 : C.size < 6
        · have h6i : (C.size : Int) < 6 := by omega
          have HNO := hide (rr_fail HR.out hlt HC.out (fun m h1 h2 _ => by have h3 := (bd_len h1).1; rw [h2, bl] at h3; omega))
          clear h6
          go_wp2
          go_ret2
          exact rmk_no (rr_below HR.out) HNO.out
        have h6i : ¬ (C.size : Int) < 6 := by omega
        by_cases h200 : 200 ≤ n
        · have h2i : (200 : Int) ≤ n := by omega
          have HNO := hide (rr_fail HR.out hlt HC.out (fun m h1 h2 h3 => by omega))
          clear h200
          go_wp2
          go_ret2
          exact rmk_no (rr_below HR.out) HNO.out
        have h2i : ¬ (200 : Int) ≤ n := by omega
        have h2n : n < 200 := by omega
        have h4i : (4 : Int) ≤ C.size := by omega
        have h0i : (0 : Int) < C.size := by omega
        have h1i : (1 : Int) < C.size := by omega
        have h22 : (2 : Int) < C.size := by omega
        have h0n : 0 < C.size := by omega
        have h1n : 1 < C.size := by omega
        have h2m : 2 < C.size := by omega
        have HLT := hide (fun m (h2 : bdR m = C.data.toList) => let_of h2 (by omega))
        obtain ⟨b0, hb0⟩ : ∃ b, ((C[0].toNat : Int) == 103) = b := ⟨_, rfl⟩
        obtain ⟨b1, hb1⟩ : ∃ b, ((C[1].toNat : Int) == 110) = b := ⟨_, rfl⟩
        obtain ⟨b2, hb2⟩ : ∃ b, ((C[2].toNat : Int) == 100) = b := ⟨_, rfl⟩
        rw [hb0, hb1, hb2] at HLT
        obtain ⟨T, ht⟩ : ∃ T, C.extract 4 C.size = T := ⟨_, rfl⟩
        have HTD : Hid (T.data.toList = C.data.toList.drop 4) := hide (by rw [← ht, Lib.extract_data]; exact List.take_of_length_le (by simp))
        have hts : T.size + 4 = C.size := by
          have h7 := congrArg List.length HTD.out
          rw [bl] at h7
          simp at h7
          omega
        have HTS := hide hts
        have hTm : T.size ≤ 1048576 := by omega
        clear hts
        go_wp2
        go_region
        go_wp2
        go_loop [9] (fun av => ∃ p : Nat, p ≤ T.size ∧ av = .int .i64 p ∧ Hid (∀ j, j < p → T.data.toList[j]? ≠ some 32)) (fun av => T.size - (intOf av).toNat)
        case atStart => exact ⟨0, Nat.zero_le _, rfl, hide (fun j hj => absurd hj (Nat.not_lt_zero j))⟩
        case round =>
          obtain ⟨p, hp, rfl, HP⟩ := hrel
          by_cases hpt : p < T.size
          · have hp1 : (0 : Int) ≤ p := by omega
            have hp2 : (p : Int) < T.size := by omega
            have hp3 : (p : Int) ≤ T.size := by omega
            by_cases hb : T[p] = 32
            · have hbb : ((T[p].toNat : Int) != 32) = false := by rw [hb]; rfl
              have hp4 : (p : Int) + 1 ≤ T.size := by omega
              have hp6 : ((p : Int) + 1).toNat = p + 1 := by omega
              have hpe : ((p : Int) == (T.size : Int)) = false := by rw [beq_eq_false_iff_ne]; omega
              obtain ⟨T1, ht1⟩ : ∃ T1, T.extract 0 p = T1 := ⟨_, rfl⟩
              obtain ⟨T2, ht2⟩ : ∃ T2, T.extract (p + 1) T.size = T2 := ⟨_, rfl⟩
              have hd1 : T1.data.toList = T.data.toList.take p := by rw [← ht1, Lib.extract_data]; simp
              have hd2 : T2.data.toList = T.data.toList.drop (p + 1) := by rw [← ht2, Lib.extract_data]; exact List.take_of_length_le (by simp)
              have hz1' : T1.size ≤ 1048576 := by have h7 := congrArg List.length hd1; rw [bl, List.length_take, bl] at h7; omega
              have hz2' : T2.size ≤ T.size := by have h7 := congrArg List.length hd2; rw [bl, List.length_drop, bl] at h7; omega
              have HQ : Hid (∀ m, okR m = true → bdR m = C.data.toList → T1.data.toList = Lib.itoa m.dc ∧ T2.data.toList = escL true m.vl.data.toList) := hide (fun m h1 h2 => by
                have h3 := bd_cut h1
                rw [h2, ← HTD.out, cut1_at 32 _ p HP.out (by rw [bget T p hpt, hb])] at h3
                simp only [Prod.mk.injEq, and_true] at h3
                rw [hd1, hd2]
                exact h3)
              have HZ2 : Hid (T2.size ≤ C.size) := hide (by have := HTS.out; omega)
              have CI := hide (fun W => s_int T1 W hz1')
              have CU := hide (fun W => s_unescape T2 W (by omega))
              clear hd1 hd2 hb
              go_wp2_with fail
              refine (CI.out _).mono ?_
              rintro e w9 ⟨v, b, rfl, h9, hI⟩
              rw [h9]
              have HI := hide hI
              clear h9 w9 hI
              go_wp2_with fail
              refine (CU.out _).mono ?_
              rintro e w5 ⟨rfl, hb50⟩
              have hb5 : Below (wr.alloc (.cells #[.bool b0, .int .i64 0, .string ⟨#[]⟩, .bool b1, .bool b2] 29)).heap.size (wr.alloc (.cells #[.bool b0, .int .i64 0, .string ⟨#[]⟩, .bool b1, .bool b2] 29)) w5 := ⟨hb50.os, hb50.tape, hb50.output, hb50.size, hb50.block⟩
              clear hb50
              have HC5 := hide (cellsAt_go (cellsAt_new wr #[.bool b0, .int .i64 0, .string ⟨#[]⟩, .bool b1, .bool b2] 29) hb5 (by simp))
              have sx := (Below.refl wr.heap.size wr).alloc (Nat.le_refl _) (.cells #[.bool b0, .int .i64 0, .string ⟨#[]⟩, .bool b1, .bool b2] 29)
              have HB5 := hide (sx.trans (hb5.mono sx.size))
              have HBW := hide ((rr_below HR.out).trans (HB5.out.mono hsz))
              clear sx
              cases b
              · have HNO := hide (rr_fail HR.out hlt HC.out (fun m h1 h2 _ => by
                  have h3 := (HI.out m.dc (okR_parts h1).1 (HQ.out m h1 h2).1).2
                  cases h3))
                clear hb5
                go_wp2
                go_ret2
                exact rmk_no HBW.out HNO.out
              · cases hu : unOk T2
                · have HNO := hide (rr_fail HR.out hlt HC.out (fun m h1 h2 _ => by
                    have h3 := (bd_un h1).1
                    have h4 : (⟨(escL true m.vl.data.toList).toArray⟩ : ByteArray) = T2 := by rw [← (HQ.out m h1 h2).2]
                    rw [h4, hu] at h3
                    cases h3))
                  clear hb5
                  go_wp2
                  go_ret2
                  exact rmk_no HBW.out HNO.out
                · obtain ⟨U, hU⟩ : ∃ U, unV T2 = U := ⟨_, rfl⟩
                  have HM : Hid (∀ m', okR m' = true → bdR m' = C.data.toList → (⟨b0, v, U, b1, b2⟩ : Mr) = m') := hide (fun m h1 h2 => by
                    have h3 := (HI.out m.dc (okR_parts h1).1 (HQ.out m h1 h2).1).1
                    have h4 : (⟨(escL true m.vl.data.toList).toArray⟩ : ByteArray) = T2 := by rw [← (HQ.out m h1 h2).2]
                    have h5 := (bd_un h1).2
                    rw [h4, hU] at h5
                    obtain ⟨e0, e1, e2⟩ := HLT.out m h2
                    rw [e0, e1, e2, h3, h5])
                  have HUL : Hid (U.size ≤ C.size) := hide (by have h7 := unV_len T2; rw [hU] at h7; exact Nat.le_trans h7 HZ2.out)
                  rw [hU]
                  have HO := hide (gOwn_after (rr_own HR.out) HB5.out)
                  have hw5 : wr.heap.size < w5.heap.size := cellsAt_lt HC5.out
                  have c0 := cellsAt_cell HC5.out 0
                  have c1 := cellsAt_cell HC5.out 1
                  have c2 := cellsAt_cell HC5.out 2
                  have c3 := cellsAt_cell HC5.out 3
                  have c4 := cellsAt_cell HC5.out 4
                  have hf := cellsAt_frozen HC5.out
                  simp at c0 c1 c2 c3 c4
                  have HOB : Hid ((Value.slice ad n c).ownBlock ≠ some wr.heap.size) := hide (fun e => by have := ((rr_own HR.out).lt _ e).2; omega)
                  clear hb5 hu hU
                  go_wp2_with (at_builtin; refine wpList_append_own _ rfl (.tmp 93) (.tmp 95) 22 rfl w.heap.size 29 i0 _ 5 40 Tryd.underlying22 hi hz0 hz1 hz2 rfl (by decide) _ _ _ rfl ((gOwn_set (gOwn_set HO.out ⟨wr.heap.size, 1, none⟩ (.int .i64 v) HOB.out) ⟨wr.heap.size, 2, none⟩ (.string U) HOB.out).alloc _) ⟨w5.heap.size, 0, none⟩ 1 1 (mrV ⟨b0, v, U, b1, b2⟩) rfl rfl (fun j u hj => by have h9 := mr_new ((w5.setCell ⟨wr.heap.size, 1, none⟩ (.int .i64 v)).setCell ⟨wr.heap.size, 2, none⟩ (.string U)) ⟨b0, v, U, b1, b2⟩ 29 j u hj; simpa using h9) (mr_one _) (by unfold maxLen; omega) (by omega) (by simp; omega) ?_; intro v2 w7 hown2 hgrow2 _; obtain ⟨ad2, c2', hv2⟩ := gOwn_shape hown2; rw [hv2] at hown2 ⊢; clear hv2; have HO2 := hide hown2; have HG2 := hide hgrow2; clear hown2 hgrow2)
                  go_roundw
                  case rel => exact ⟨k + 1, n + 1, ⟨#[]⟩, ad2, c2', by omega, by go_num, rfl, rfl, hide (rr_put HR.out hlt HC.out HM.out HUL.out h2n HO2.out (gBelow_one ((HBW.out.setCell (p := ⟨wr.heap.size, 1, none⟩) hsz _).setCell (p := ⟨wr.heap.size, 2, none⟩) hsz _) (gOwn_set (gOwn_set HO.out ⟨wr.heap.size, 1, none⟩ (.int .i64 v) HOB.out) ⟨wr.heap.size, 2, none⟩ (.string U) HOB.out) HG2.out))⟩
                  case measure => simp [intOf]; omega
            · have hbb : ((T[p].toNat : Int) != 32) = true := by
                have : T[p].toNat ≠ 32 := fun e => hb (UInt8.toNat_inj.1 e)
                simp; omega
              have HP2 : Hid (∀ j, j < p + 1 → T.data.toList[j]? ≠ some 32) := hide (fun j hj => by
                by_cases e : j = p
                · subst e
                  rw [bget T j hpt]
                  intro e2
                  exact hb (by simpa using e2)
                · exact HP.out j (by omega))
              clear hb
              go_wp2
              go_round
              case rel => exact ⟨p + 1, by omega, by go_num, HP2⟩
              case measure => simp [intOf]; omega
          · have hpe2 : p = T.size := by omega
            have hp2 : ¬ (p : Int) < T.size := by omega
            have hpe : ((p : Int) == (T.size : Int)) = true := by rw [hpe2, beq_iff_eq]
            have HNO := hide (rr_fail HR.out hlt HC.out (fun m h1 h2 _ => by
              have h3 := bd_cut h1
              rw [h2, ← HTD.out, cut1_none 32 _ (fun b hb e => by
                obtain ⟨j, e2⟩ := List.mem_iff_getElem?.1 hb
                subst e
                have hjl : j < T.data.toList.length := by
                  rcases Nat.lt_or_ge j T.data.toList.length with h | h
                  · exact h
                  · rw [List.getElem?_eq_none h] at e2; cases e2
                rw [bl] at hjl
                exact HP.out j (by omega) e2)] at h3
              simp at h3))
            have HBW := hide ((rr_below HR.out).alloc hsz (.cells #[.bool b0, .int .i64 0, .string ⟨#[]⟩, .bool b1, .bool b2] 29))
            clear hpe2
            go_wp2
            go_ret2
            exact rmk_no (HBW.out.trans ⟨rfl, rfl, rfl, Nat.le_refl _, fun _ _ => rfl⟩) HNO.out
      · have hcb : ((s[k].toNat : Int) != 10) = true := by
          have : s[k].toNat ≠ 10 := fun e => hc (UInt8.toNat_inj.1 e)
          simp; omega
        have HC := hide hc
        have hadd : ¬ 9223372036854775807 < C.size + 1 := by omega
        clear hc
        go_wp2
        go_roundw
        case rel => exact ⟨k + 1, n, _, ad, c, by omega, by go_num, rfl, rfl, hide (rr_more HR.out hlt HC.out)⟩
        case measure => simp [intOf]; omega
    · have hke : k = s.size := by omega
      have hk2 : ¬ (k : Int) < s.size := by omega
      have HKE := hide hke
      clear hke
      by_cases hC : C.data.toList = []
      · have hC2 : C.toList = [] := mr_nilL hC
        obtain ⟨L, hL, hzL, hy, hno⟩ := rr_end HR.out HKE.out hC
        have HL := hide hL
        have HY := hide hy
        have HNO := hide hno
        have CM := hide (s_marksText (mkOf L) n ad c wr hL.2 (by omega) (mrO_at hL))
        obtain ⟨V, hV⟩ : ∃ V, mkV (mkOf L) = V := ⟨_, rfl⟩
        rw [hV] at CM HY HNO
        clear hL hy hno hV
        by_cases hvs : V = s
        · subst hvs
          have HY2 := hide (HY.out rfl)
          clear HY HNO
          go_wp2_with (go_at_call 11; refine CM.out.mono ?_; rintro e w3 ⟨rfl, hb3⟩; have HB3 := hide hb3; clear hb3)
          go_ret2
          exact ⟨(rr_below HR.out).trans (HB3.out.mono hsz), .inl ⟨L, ad, n, c, HY2.out.1, HY2.out.2, rfl, mrO_go HL.out HB3.out⟩⟩
        · have hvb : (V.toList == s.toList) = false := mr_neB hvs
          have hvc : ¬ V.toList = s.toList := mr_neL hvs
          have HN2 := hide (HNO.out hvs)
          clear hvs
          go_wp2_with (go_at_call 11; refine CM.out.mono ?_; rintro e w3 ⟨rfl, hb3⟩; have HB3 := hide hb3; clear hb3)
          go_ret2
          exact rmk_no ((rr_below HR.out).trans (HB3.out.mono hsz)) HN2.out
      · have hC2 : C.toList ≠ [] := mr_nnL hC
        have HNO := hide (rr_open HR.out HKE.out hC)
        clear hC
        go_wp2
        go_ret2
        exact rmk_no (rr_below HR.out) HNO.out
end Go.Proofs.YtdbipaobanjbbaaDoor
