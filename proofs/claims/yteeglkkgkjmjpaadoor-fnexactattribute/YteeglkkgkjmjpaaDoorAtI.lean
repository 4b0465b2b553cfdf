/-
  Contracts: which positions take the names, by the program.
-/
import Derived.Test.YteeglkkgkjmjpaaDoorAtM
import Derived.Test.YteeglkkgkjmjpaaDoorClI
import Derived.Test.YteeglkkgkjmjpaaDoorEdS
namespace Go.Proofs.YteeglkkgkjmjpaaDoor
open Go.RowKit Go.Joins
set_option linter.unusedVariables false
set_option linter.unusedSimpArgs false
/-- What either answers. -/
def AtAns (D : Pn) (W : List ByteArray) (w : World) (r : Ending) (w' : World) : Prop := ∃ ad c, r = .returned (.tuple #[.slice ad ((arA D W).getD []).length c, .bool (arA D W).isSome]) ∧ IntR w.heap.size w' ad c ((arA D W).getD []) ∧ Below w.heap.size w w'
theorem at_none {D : Pn} {W : List ByteArray} {w w' : World} (h : arA D W = none) (hb : Below w.heap.size w w') : AtAns D W w (.returned (.tuple #[.slice none 0 0, .bool false])) w' := by
  unfold AtAns
  rw [h]
  exact ⟨none, 0, rfl, intR_nil _ _, hb⟩
theorem at_some {D : Pn} {W : List ByteArray} {w w' : World} {L : List Int} {ad : Option Addr} {c : Nat} (h : arA D W = some L) (ho : IntR w.heap.size w' ad c L) (hb : Below w.heap.size w w') : AtAns D W w (.returned (.tuple #[.slice ad L.length c, .bool true])) w' := by
  unfold AtAns
  rw [h]
  exact ⟨ad, c, rfl, ho, hb⟩
theorem ar_not {D : Pn} {W : List ByteArray} (h : clB D = false) : arA D W = none := by unfold arA; rw [if_neg (by rw [h]; simp)]
theorem ar_long {D : Pn} {W : List ByteArray} (h : 200 < W.length) : arA D W = none := by unfold arA; rw [if_neg (by omega)]
set_option maxRecDepth 100000 in
set_option maxHeartbeats 8000000 in
theorem i_attr (D : Pn) (n : Nat) (a : Option Addr) (cap : Nat) (W : List ByteArray) (m : Nat) (b : Option Addr) (cq : Nat) (w : World) (hD : D.n = n) (hz : pnTot D ≤ 1048576) (hr : PnAt w a D w.heap.size) (hW : W.length = m) (hm : m ≤ 1048576) (hq : TxAt w b W w.heap.size) (hT : TzT w) :
    Calls Tryd.prog 33 #[.slice a n cap, .slice b m cq] w (AtAns D W w) := by
  obtain ⟨i0, hi0, hz0, hz1, hz2⟩ := info_parts info64
  have hzz := tk_zero
  have hne := tkN_ne
  have CN := hide (fun (W : World) => i_only 40 W (by omega))
  have CT := hide (i_tracks2 D n a cap w hD hz hr hT)
  have HT := hide hT
  have HW := hide hW
  have HQ := hide hq
  cases hpk : pkB D
  · have HE := hide (ar_not (W := W) (clB_wrong hpk))
    rw [hpk] at CT
    clear hr hD hz hT hpk hW hq
    go_enter Tryd.func33, Tryd.ntmps33
    go_wp2_with (first
      | (go_at_call 39; refine CT.out.mono ?_; rintro r w1 ⟨b9, m9, c9, F, e, rfl, hA, hb1⟩; have HB1 := hide hb1; obtain ⟨hsz, hzs⟩ := tk_fit b9 m9 c9 F e; have hall := tkC_one b9 m9 c9 F e; obtain ⟨CS, hCS⟩ : ∃ CS, tkC (.slice b9 m9 c9) F e = CS := ⟨_, rfl⟩; rw [hCS] at hsz hzs hall ⊢; clear hA hb1 hCS)
      | (refine wpList_store_row rfl 54 _ _ rfl w1.heap.size CS rfl rfl 54 _ (heap_alloc_last w1 _) hsz hzs hall ?_; rw [World.setRow_alloc_new]))
    go_ret2
    exact at_none HE.out (HB1.out.alloc HB1.out.size _)
  have hn1 : 1 ≤ n ∧ n ≤ 40 := by rw [← hD]; exact (pk_facts hpk).1
  have HRN := hide (rn_of hD hpk hz)
  have HD := hide hD
  have HPK := hide hpk
  obtain ⟨b0, off, rfl, hb0, hrow⟩ := hr (by rw [hD]; omega)
  have HROW := hide hrow
  rw [hpk] at CT
  cases hcl : clB D
  · have HE := hide (ar_not (W := W) hcl)
    have HCL := hide hcl
    clear hr hD hz hT hpk hrow hW hq hcl
    go_enter Tryd.func33, Tryd.ntmps33
    go_wp2_with (first
      | (go_at_call 39; refine CT.out.mono ?_; rintro r w1 ⟨b9, m9, c9, F, e, rfl, hA, hb1⟩; obtain ⟨rfl, rfl, rfl, hTK⟩ := hA.1 HPK.out; have HTK := hide hTK; have HB1 := hide hb1; have HEL := hide (tk_null hA).2; obtain ⟨hsz, hzs⟩ := tk_fit (some ⟨b0, off, none⟩) m9 c9 F e; have hall := tkC_one (some ⟨b0, off, none⟩) m9 c9 F e; have HC := hide (cellsAt_new w1 (tkC (.slice (some ⟨b0, off, none⟩) m9 c9) F e) 54); obtain ⟨CS, hCS⟩ : ∃ CS, tkC (.slice (some ⟨b0, off, none⟩) m9 c9) F e = CS := ⟨_, rfl⟩; have HCS := hide hCS; rw [hCS] at hsz hzs hall HC ⊢; have HB1a := hide (HB1.out.alloc HB1.out.size (.cells CS 54)); clear hA hb1 hCS hTK)
      | (refine wpList_store_row rfl 54 _ _ rfl w1.heap.size CS rfl rfl 54 _ (heap_alloc_last w1 _) hsz hzs hall ?_; rw [World.setRow_alloc_new])
      | (go_at_call 51; refine (i_clearAll D _ b0 off _ w1.heap.size F e _ HD.out HPK.out HRN.out HTK.out (tzT_go HT.out HB1a.out (Nat.le_refl _)) (Nat.lt_of_lt_of_le hb0 HB1a.out.size) (pnRow_up (pnRow_go HROW.out hb0 HB1a.out) HB1a.out.size) (by rw [HCS.out]; exact HC.out)).mono ?_; rintro r w2 ⟨rfl, hb2⟩; rw [HCL.out]; have HC2 := hide (cellsAt_go HC.out hb2 (cellsAt_lt HC.out)); have HB2 := hide (HB1a.out.trans (hb2.mono HB1a.out.size)); clear hb2))
    go_ret2
    exact at_none HE.out HB2.out
  have HCL := hide hcl
  by_cases h200 : 200 < m
  · have HE := hide (ar_long (D := D) (W := W) (by omega))
    have h2i : (200 : Int) < (m : Int) := by omega
    clear hr hD hz hT hpk hrow hW hq hcl
    go_enter Tryd.func33, Tryd.ntmps33
    go_wp2_with (first
      | (go_at_call 39; refine CT.out.mono ?_; rintro r w1 ⟨b9, m9, c9, F, e, rfl, hA, hb1⟩; obtain ⟨rfl, rfl, rfl, hTK⟩ := hA.1 HPK.out; have HTK := hide hTK; have HB1 := hide hb1; have HEL := hide (tk_null hA).2; obtain ⟨hsz, hzs⟩ := tk_fit (some ⟨b0, off, none⟩) m9 c9 F e; have hall := tkC_one (some ⟨b0, off, none⟩) m9 c9 F e; have HC := hide (cellsAt_new w1 (tkC (.slice (some ⟨b0, off, none⟩) m9 c9) F e) 54); obtain ⟨CS, hCS⟩ : ∃ CS, tkC (.slice (some ⟨b0, off, none⟩) m9 c9) F e = CS := ⟨_, rfl⟩; have HCS := hide hCS; rw [hCS] at hsz hzs hall HC ⊢; have HB1a := hide (HB1.out.alloc HB1.out.size (.cells CS 54)); clear hA hb1 hCS hTK)
      | (refine wpList_store_row rfl 54 _ _ rfl w1.heap.size CS rfl rfl 54 _ (heap_alloc_last w1 _) hsz hzs hall ?_; rw [World.setRow_alloc_new])
      | (go_at_call 51; refine (i_clearAll D _ b0 off _ w1.heap.size F e _ HD.out HPK.out HRN.out HTK.out (tzT_go HT.out HB1a.out (Nat.le_refl _)) (Nat.lt_of_lt_of_le hb0 HB1a.out.size) (pnRow_up (pnRow_go HROW.out hb0 HB1a.out) HB1a.out.size) (by rw [HCS.out]; exact HC.out)).mono ?_; rintro r w2 ⟨rfl, hb2⟩; rw [HCL.out]; have HC2 := hide (cellsAt_go HC.out hb2 (cellsAt_lt HC.out)); have HB2 := hide (HB1a.out.trans (hb2.mono HB1a.out.size)); clear hb2))
    go_ret2
    exact at_none HE.out HB2.out
  have h2i : (m : Int) ≤ 200 := by omega
  have HN40 : Hid (D.n ≤ 40) := hide (by omega)
  clear hr hD hz hT hpk hrow hW hq hcl
  go_enter Tryd.func33, Tryd.ntmps33
  go_wp2_with (first
      | (go_at_call 39; refine CT.out.mono ?_; rintro r w1 ⟨b9, m9, c9, F, e, rfl, hA, hb1⟩; obtain ⟨rfl, rfl, rfl, hTK⟩ := hA.1 HPK.out; have HTK := hide hTK; have HB1 := hide hb1; have HEL := hide (tk_null hA).2; obtain ⟨hsz, hzs⟩ := tk_fit (some ⟨b0, off, none⟩) m9 c9 F e; have hall := tkC_one (some ⟨b0, off, none⟩) m9 c9 F e; have HC := hide (cellsAt_new w1 (tkC (.slice (some ⟨b0, off, none⟩) m9 c9) F e) 54); obtain ⟨CS, hCS⟩ : ∃ CS, tkC (.slice (some ⟨b0, off, none⟩) m9 c9) F e = CS := ⟨_, rfl⟩; have HCS := hide hCS; rw [hCS] at hsz hzs hall HC ⊢; have HB1a := hide (HB1.out.alloc HB1.out.size (.cells CS 54)); clear hA hb1 hCS hTK)
      | (refine wpList_store_row rfl 54 _ _ rfl w1.heap.size CS rfl rfl 54 _ (heap_alloc_last w1 _) hsz hzs hall ?_; rw [World.setRow_alloc_new])
      | (go_at_call 51; refine (i_clearAll D _ b0 off _ w1.heap.size F e _ HD.out HPK.out HRN.out HTK.out (tzT_go HT.out HB1a.out (Nat.le_refl _)) (Nat.lt_of_lt_of_le hb0 HB1a.out.size) (pnRow_up (pnRow_go HROW.out hb0 HB1a.out) HB1a.out.size) (by rw [HCS.out]; exact HC.out)).mono ?_; rintro r w2 ⟨rfl, hb2⟩; rw [HCL.out]; have HC2 := hide (cellsAt_go HC.out hb2 (cellsAt_lt HC.out)); have HB2 := hide (HB1a.out.trans (hb2.mono HB1a.out.size)); clear hb2)
      | (go_at_call 41; refine (CN.out _).mono ?_; rintro r9 w9 ⟨rfl, h9⟩; rw [h9]; clear h9 w9))
  rw [← HCS.out] at HC2
  clear hsz hall hzz hne hzs
  go_loopw [8, 9, 31] (fun lv hv mv wr => ∃ (t x : Nat) (L : List Int) (sa : Option Addr) (sc : Nat), t ≤ m ∧ mv = .int .i64 t ∧ hv = .int .u64 (x : Int) ∧ lv = .slice sa L.length sc ∧ Hid (IntR w2.heap.size wr sa sc L) ∧ Hid (InA D W t x L) ∧ Hid (Below w2.heap.size w2 wr)) (fun _ _ mv _ => m - (intOf mv).toNat)
  case atStart => exact ⟨0, 1099511627776, [], none, 0, Nat.zero_le _, rfl, rfl, rfl, hide (intR_nil _ _), hide (inA_zero D W), hide (Below.refl _ _)⟩
  case round =>
    obtain ⟨t, x, L, sa, sc, ht, rfl, rfl, rfl, HO, HH, HB⟩ := hrel
    have HBw := hide (HB2.out.trans (HB.out.mono HB2.out.size))
    have hx := inA_lt HN40.out HH.out
    have hLl := inA_len HH.out
    by_cases hlt : t < m
    · have htL : t < W.length := by rw [HW.out]; exact hlt
      obtain ⟨b9, off9, rfl, hb9, hc9⟩ := tx_cell (tx_go HQ.out HBw.out) t htL
      have k0 := hc9 t htL
      have hti : (t : Int) < (m : Int) := by omega
      have ht0 : (0 : Int) ≤ (t : Int) := by omega
      have CA := hide (i_after D _ b0 off _ w1.heap.size x F e (W[t]?.getD ⟨#[]⟩) wr HRN.out (Nat.lt_of_lt_of_le hb0 HBw.out.size) (pnRow_up (pnRow_go HROW.out hb0 HBw.out) HBw.out.size) (cellsAt_go HC2.out HB.out (cellsAt_lt HC2.out)) (tzT_go HT.out HBw.out (Nat.le_refl _)) hx (tkOf_lt HTK.out))
      have HNX := hide (fun y hb => inA_next HCL.out HTK.out HH.out (y := y) hb)
      obtain ⟨s, hs⟩ : ∃ s, W[t]?.getD ⟨#[]⟩ = s := ⟨_, rfl⟩
      rw [hs] at k0 CA HNX
      clear hc9 hs htL
      go_wp2_with (first
        | (go_at_call 53; refine CA.out.mono ?_; rintro r w3 ⟨y, rfl, hy, hyb, hb3⟩; have HN2 := hide (HNX.out y hyb); have HO3 := hide (gOwn_after HO.out hb3); have HB3 := hide (HB.out.trans (hb3.mono HB.out.size)); clear hyb hb3)
        | (go_at_call 45; refine (i_list y w3 (by omega) (tzT_go HT.out (HB2.out.trans (HB3.out.mono HB2.out.size)) (Nat.le_refl _))).mono ?_; rintro r w4 ⟨ad4, c4, rfl, ho4, hb4⟩; have hbl := bts_len (x := y) (by omega); obtain ⟨P, hP⟩ : ∃ P, bts y = P := ⟨_, rfl⟩; rw [hP] at HN2 hbl ho4 ⊢; have HP4 := hide ho4; have HO4 := hide (gOwn_after HO3.out hb4); have HB4 := hide (HB3.out.trans (hb4.mono HB3.out.size)); clear hP ho4 hb4)
        | (at_builtin; refine wpList_append_src (by rfl) (.tmp 38) (.tmp 40) 29 (by rfl) w2.heap.size 2 i0 (.int .i64 0) 1 8 Tryd.underlying29 hi0 hz0 hz1 hz2 rfl (by decide) (.slice sa L.length sc) L.length (L.map (Value.int .i64)) (by rfl) HO4.out ad4 P.length c4 (P.map (Value.int .i64)) (by rfl) (by rw [List.length_map, Nat.mul_one]) (fun hp => intR_src HP4.out hp) (ints_one _) (by unfold maxLen; omega) (by omega) HB4.out.size ?_; intro a5 c5 w5 hown5 hgr5; have HO5 := hide (intR_join hown5); have HB5 := hide (HB4.out.grown hgr5 HB4.out.size (fun k hk => (HO4.out.lt k hk).1)); clear hown5 hgr5))
      go_roundw
      case rel => exact ⟨t + 1, y, L ++ P, a5, c5, by omega, by go_num, rfl, by rw [List.length_append], HO5, HN2, HB5⟩
      case measure => simp [intOf]; omega
    · have htm : t = m := by omega
      subst htm
      have CM := hide (i_mayEnd w1.heap.size x _ F e wr (by omega) HEL.out (cellsAt_go HC2.out HB.out (cellsAt_lt HC2.out)))
      have HE := hide (inA_end (x := x) HCL.out (by rw [HW.out]; omega) HTK.out (by rw [HW.out]; exact HH.out))
      obtain ⟨V, hV⟩ : ∃ V, decide (x &&& e ≠ 0) = V := ⟨_, rfl⟩
      rw [hV] at CM HE
      clear hV
      cases V
      · go_wp2_with (first | (go_at_call 40; refine CM.out.mono ?_; rintro r9 w9 ⟨rfl, h9⟩; rw [h9]; clear h9 w9))
        go_ret2
        exact at_none (HE.out.2 (by first | trivial | rfl)) HBw.out
      · go_wp2_with (first | (go_at_call 40; refine CM.out.mono ?_; rintro r9 w9 ⟨rfl, h9⟩; rw [h9]; clear h9 w9))
        go_ret2
        exact at_some (HE.out.1 (by first | trivial | rfl)) (gOwn_lower HO.out HB2.out.size) HBw.out
end Go.Proofs.YteeglkkgkjmjpaaDoor
