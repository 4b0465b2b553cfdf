/-
  Contract: the names of an item's attributes, by the program.
-/
import Derived.Test.YtogeicckbdfldaaDoorQnI
namespace Go.Proofs.YtogeicckbdfldaaDoor
open Go.RowKit Go.Joins Go.Maps
set_option linter.unusedVariables false
set_option linter.unusedSimpArgs false
/-- While the names are told: the block G holds the document and the maps. -/
def QjRel (D : Dc) (x : Int) (n b off cap : Nat) (sa : Option Addr) (c : Nat) (ms : List Nat) (w wr : World) (i : Nat) (L : QL) (ad : Option Addr) (c' : Nat) : Prop :=
  qn D x (D.AN x.toNat) i = some L ∧ OwnQ (w.heap.size + 1) wr ad L.length c' (qA L) (qB L) ∧ Below (w.heap.size + 1) (w.alloc (.cells #[.slice (some ⟨b, off, none⟩) n cap, .slice sa n c] 62)) wr ∧ ScAt wr D n b off cap sa c ms
section
variable {D : Dc} {x : Int} {n b off cap : Nat} {sa : Option Addr} {c : Nat} {ms : List Nat} {w wr w2 : World} {i : Nat} {L : QL} {ad : Option Addr} {c' : Nat}
theorem qj_size (h : QjRel D x n b off cap sa c ms w wr i L ad c') : w.heap.size + 1 ≤ wr.heap.size := by have := h.2.2.1.size; simpa using this
theorem qj_go (h : QjRel D x n b off cap sa c ms w wr i L ad c') (hb : Below wr.heap.size wr w2) : QjRel D x n b off cap sa c ms w w2 i L ad c' :=
  ⟨h.1, ownQ_go h.2.1 hb, h.2.2.1.trans (hb.mono (qj_size h)), scAt_go h.2.2.2 hb⟩
theorem qj_below (h : QjRel D x n b off cap sa c ms w wr i L ad c') : Below w.heap.size w wr := ((Below.refl w.heap.size w).alloc (Nat.le_refl _) _).trans (h.2.2.1.mono (Nat.le_succ _))
theorem qj_box (h : QjRel D x n b off cap sa c ms w wr i L ad c') : CellsAt wr w.heap.size #[.slice (some ⟨b, off, none⟩) n cap, .slice sa n c] := cellsAt_go (cellsAt_new w _ _) h.2.2.1 (Nat.lt_succ_self _)
end
theorem gBelow_oneB {B : Nat} {a wr w2 : World} {o : Obj} {e : TypeId} {z : Nat} {ad : Option Addr} {n c : Nat} {xs : List Value} (hb : Below B a wr) (hB : B ≤ wr.heap.size) (hown : wr.ownsRow B e z (.slice ad n c) n xs)
    (hg : (wr.alloc o).grownBy w2 (Value.slice ad n c).ownBlock) : Below B a w2 := by
  have h2 : Below B a (wr.alloc o) := hb.alloc hB o
  refine h2.grown hg (by simp; omega) fun j hj => ?_
  rcases hown.2 with ⟨hv, h0⟩ | ⟨g, cap, cur, hv, hB, rest⟩
  · rw [hv] at hj
    simp [Value.ownBlock] at hj
  · rw [hv] at hj
    simp [Value.ownBlock] at hj
    omega
set_option maxRecDepth 100000 in
set_option maxHeartbeats 8000000 in
theorem i_attrNames (D : Dc) (n b off cap : Nat) (sa : Option Addr) (c : Nat) (ms : List Nat) (w : World) (x : Nat) (hF : DcFacts D n) (hx : x < n) (hS : ScAt w D n b off cap sa c ms) :
    Calls Tryd.prog 39 #[.agg #[.slice (some ⟨b, off, none⟩) n cap, .slice sa n c], .int .i64 x] w (QAns (qn D x (D.AN x) (D.AC x)) w) := by
  obtain ⟨i0, hi, hz0, hz1, hz2⟩ := info_parts infoQ
  have hxn : (x : Int) < (n : Int) := by omega
  have hac := hF.2.2.2.2 x hx
  have HSZ := hide hac.2
  have hacx := hac.1
  have HOK := hide (hF.2.2.2.1 x hx).1
  have HXN : Hid ((x : Int).toNat = x) := hide (by omega)
  have HFF := hide hF
  have HS := hide hS
  have hbs := hS.1
  obtain ⟨adx, cpx, hcx, hatx, hlx⟩ := hS.2.1 x (by rw [hF.1]; exact hx)
  have HCX := hide hcx
  have HAX := hide hatx
  obtain ⟨m, hm⟩ : ∃ m, D.AC x = m := ⟨_, rfl⟩
  have HMM := hide hm
  rw [hm] at hacx HSZ HOK HAX hlx ⊢
  obtain ⟨c0, c1, c2, c3⟩ := hcx
  rw [hm] at c3
  have HC3 := hide c3
  clear hS hF hac hatx hm
  go_enter Tryd.func39, Tryd.ntmps39
  go_wp2
  go_loopw [6, 20] (fun v iv wr => ∃ (i : Nat) (L : QL) (ad : Option Addr) (c' : Nat), i ≤ m ∧ iv = .int .i64 i ∧ v = .slice ad L.length c' ∧ QjRel D x n b off cap sa c ms w wr i L ad c') (fun _ iv _ => m - (intOf iv).toNat)
  case atStart =>
    refine ⟨0, [], none, 0, Nat.zero_le _, rfl, rfl, rfl, ownQ_none _ _ _ _, Below.refl _ _, scAt_go HS.out ((Below.refl _ _).alloc (Nat.le_refl _) _)⟩
  case round =>
    obtain ⟨i, L, ad, c', hi9, rfl, rfl, hrel⟩ := hrel
    have HRL := hide hrel
    have hLi := qn_len i L hrel.1
    have hsz := qj_size hrel
    have HBw := hide (qj_below hrel)
    clear hrel
    by_cases hlt : i < m
    · obtain ⟨ba, oa, rfl, hba, hca⟩ := HAX.out (by omega)
      have a0 : wr.cell? ⟨ba, oa + i * 2, none⟩ = some (.string (D.AN x i)) := (HBw.out.cell hba).trans (hca i hlt).1
      have a1 : wr.cell? ⟨ba, oa + i * 2 + 1, none⟩ = some (.string (D.AV x i)) := (HBw.out.cell hba).trans (hca i hlt).2
      have hiI : (i : Int) < (m : Int) := by omega
      have hi00 : (0 : Int) ≤ (i : Int) := by omega
      have hnz := HSZ.out i hlt
      have HQ9 := hide (HOK.out i hlt)
      obtain ⟨N, hN⟩ : ∃ N, D.AN x i = N := ⟨_, rfl⟩
      obtain ⟨AV, hAV⟩ : ∃ AV, D.AV x i = AV := ⟨_, rfl⟩
      rw [hN] at a0 hnz HQ9
      rw [hAV] at a1
      have HN : Hid (D.AN (x : Int).toNat i = N) := hide (by rw [HXN.out]; exact hN)
      have CB := hide (fun w9 => i_bindsB N w9 hnz)
      have CA := hide (fun w9 h => i_attrName D n b off cap sa c ms w9 x N HFF.out hx hnz HQ9.out h)
      obtain ⟨V, hV⟩ : ∃ V, qsp D x N = V := ⟨_, rfl⟩
      obtain ⟨Lo, hLo⟩ : ∃ Lo, (spl N).2.1 = Lo := ⟨_, rfl⟩
      obtain ⟨K, hK⟩ : ∃ K, qok D x N = K := ⟨_, rfl⟩
      have HV := hide hV
      have HLo := hide hLo
      have HK := hide hK
      rw [hV, hLo, hK] at CA
      clear hca hN hAV hnz hV hLo hK
      go_wp2_with fail
      refine (CB.out _).mono ?_
      rintro e w2 ⟨pp, rfl, hb2⟩
      have HRL2 := hide (qj_go HRL.out (gBox_below hb2))
      have KA := hide (cellsAt_go (cellsAt_new wr #[.string N, .string AV] _) hb2 (by simp))
      clear hb2
      cases hsk : qsk N
      · have HSK : Hid (qsk (D.AN (x : Int).toNat i) = false) := hide (by rw [HN.out]; exact hsk)
        have k0 : w2.cell? ⟨wr.heap.size, 0, none⟩ = some (.string N) := cellsAt_cell KA.out 0
        have g0 : w2.cell? ⟨w.heap.size, 0, none⟩ = some (.slice (some ⟨b, off, none⟩) n cap) := cellsAt_cell (qj_box HRL2.out) 0
        have g1 : w2.cell? ⟨w.heap.size, 1, none⟩ = some (.slice sa n c) := cellsAt_cell (qj_box HRL2.out) 1
        go_wp2_with fail
        refine (CA.out _ HRL2.out.2.2.2).mono ?_
        rintro e w3 ⟨rfl, hb3⟩
        have HRL3 := hide (qj_go HRL2.out hb3)
        clear hb3 k0 g0 g1
        have HRL4 := hide (qj_go HRL3.out ((Below.refl w3.heap.size w3).alloc (Nat.le_refl _) (.cells #[.string V, .string Lo] 41)))
        have K4 := hide (cellsAt_new w3 #[.string V, .string Lo] 41)
        cases K
        · go_wp2
          go_ret2
          refine ⟨qj_below HRL4.out, .inl ⟨?_, rfl⟩⟩
          have h := qn_none (qn_bad HRL3.out.1 HSK.out (by rw [HN.out]; exact HK.out)) m (by omega)
          rw [HXN.out] at h
          exact h
        · have CH := hide (i_hasQ ad L.length c' (qA L) (qB L) V Lo (w3.alloc (.cells #[.string V, .string Lo] 41)) (by omega) (ownQ_at HRL4.out.2.1))
          obtain ⟨dp, hdp⟩ : ∃ dp, anyQ L.length (qA L) (qB L) V Lo = dp := ⟨_, rfl⟩
          rw [hdp] at CH
          have HDP : Hid (qdup L (qsp D x (D.AN (x : Int).toNat i)) (spl (D.AN (x : Int).toNat i)).2.1 = dp) := hide (by rw [HN.out, HV.out, HLo.out]; exact hdp)
          clear hdp
          go_wp2_with fail
          refine CH.out.mono ?_
          rintro e w5 ⟨rfl, hb5⟩
          have HRL5 := hide (qj_go HRL4.out hb5)
          have K5 := hide (cellsAt_go K4.out hb5 (by simp))
          have hsz5 := qj_size HRL5.out
          clear hb5
          cases dp
          · have k0 : w5.cell? ⟨w3.heap.size, 0, none⟩ = some (.string V) := cellsAt_cell K5.out 0
            have k1 : w5.cell? ⟨w3.heap.size, 1, none⟩ = some (.string Lo) := cellsAt_cell K5.out 1
            obtain ⟨xs, hox, hpx⟩ := HRL5.out.2.1
            have HOX := hide hox
            have HPX := hide hpx
            have HNE := hide (qn_put HRL5.out.1 HSK.out (by rw [HN.out]; exact HK.out) HDP.out)
            clear hox hpx
            go_wp2_with (first | (at_builtin; refine wpList_append_own _ rfl (.tmp 46) (.tmp 48) 37 rfl (w.heap.size + 1) 41 i0 (.agg #[.string ⟨#[]⟩, .string ⟨#[]⟩]) 2 32 Tryd.underlying37 hi hz0 hz1 hz2 rfl (by decide) _ _ _ rfl (HOX.out.alloc _) ⟨w5.heap.size, 0, none⟩ 1 1 [.string V, .string Lo] rfl rfl (fun j u hj => gTwo_new w5 _ _ _ j u hj) (gStr_two _ _) (by unfold maxLen; omega) (by omega) (by simp; omega) ?_; intro v2 w6 hown2 hgrow2 _; obtain ⟨ad2, c2', hv2⟩ := gOwn_shape hown2; rw [hv2] at hown2 ⊢; clear hv2; have HB6 := hide (gBelow_oneB HRL5.out.2.2.1 (qj_size HRL5.out) HOX.out hgrow2); have HG6 := hide hgrow2; have HO6 := hide hown2; clear hown2 hgrow2))
            go_roundw
            case rel =>
              refine ⟨i + 1, L ++ [(V, Lo)], ad2, c2', by omega, by go_num, by simp, ?_, ?_, HB6.out, ?_⟩
              · rw [HNE.out, HN.out, HV.out, HLo.out]
              · have h := own_put HPX.out HOX.out.1 rfl (V, Lo) HO6.out
                simpa using h
              · exact scAt_go HS.out (((Below.refl w.heap.size w).alloc (Nat.le_refl _) _).trans (HB6.out.mono (Nat.le_succ _)))
            case measure => simp [intOf]; omega
          · go_wp2
            go_ret2
            refine ⟨qj_below HRL5.out, .inl ⟨?_, rfl⟩⟩
            have h := qn_none (qn_dup HRL5.out.1 HSK.out (by rw [HN.out]; exact HK.out) HDP.out) m (by omega)
            rw [HXN.out] at h
            exact h
      · have HSK : Hid (qsk (D.AN (x : Int).toNat i) = true) := hide (by rw [HN.out]; exact hsk)
        go_wp2
        go_roundw
        case rel => exact ⟨i + 1, L, ad, c', by omega, by go_num, rfl, qn_skip HRL2.out.1 HSK.out, HRL2.out.2⟩
        case measure => simp [intOf]; omega
    · have him : i = m := by omega
      subst him
      go_wp2
      go_ret2
      refine ⟨HBw.out, .inr ⟨L, ad, c', ?_, rfl, ownQ_lower HRL.out.2.1 (Nat.le_succ _)⟩⟩
      have := HRL.out.1
      rw [HXN.out] at this
      exact this
end Go.Proofs.YtogeicckbdfldaaDoor
