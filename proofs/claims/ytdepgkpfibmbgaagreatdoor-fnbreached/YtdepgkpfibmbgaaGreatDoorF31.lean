/-
  Contract: what a path selects, the specification's.
-/
import Derived.Test.YtdepgkpfibmbgaaGreatDoorF26
import Derived.Test.YtdepgkpfibmbgaaGreatDoorF18
import Derived.Test.YtdepgkpfibmbgaaGreatDoorF23
namespace Go.Proofs.YtdepgkpfibmbgaaGreatDoor
open Go.RowKit
set_option linter.unusedVariables false
set_option linter.unusedSimpArgs false
/-- A row that lies in blocks between two marks. -/
def KidAt (w : World) (ad : Option Addr) (K : List Int) (lo hi : Nat) : Prop := K ≠ [] → ∃ b, ad = some ⟨b, 0, none⟩ ∧ lo ≤ b ∧ b < hi ∧ ∀ j, j < K.length → w.cell? ⟨b, j, none⟩ = some (.int .i64 (K[j]?.getD 0))
theorem kid_of {w : World} {lo : Nat} {ad : Option Addr} {c : Nat} {K : List Int} (h : IntR lo w ad c K) : KidAt w ad K lo w.heap.size := by
  intro hne
  rcases h.2 with ⟨hv, h0⟩ | ⟨g, cap, cur, hv, hB, hg, rest⟩
  · exact absurd (List.length_eq_zero_iff.1 h0) hne
  · simp only [Value.slice.injEq] at hv
    obtain ⟨rfl, -, rfl⟩ := hv
    exact ⟨g, rfl, hB, (World.ownsRow.lt h g rfl).2, intR_cells h⟩
theorem kid_grown {w w' : World} {ad : Option Addr} {K : List Int} {lo hi g : Nat} (h : KidAt w ad K lo hi) (hg : w.grownBy w' (some g)) (hh : hi ≤ w.heap.size) (hx : g < lo ∨ hi ≤ g) : KidAt w' ad K lo hi := by
  intro hne
  obtain ⟨b, rfl, h1, h2, h3⟩ := h hne
  refine ⟨b, rfl, h1, h2, fun j hj => ?_⟩
  rw [← h3 j hj]
  exact World.cell?_of_block (hg.block b (by omega) (fun e => by cases e; omega))
theorem kid_alloc {w : World} {ad : Option Addr} {K : List Int} {lo hi : Nat} (h : KidAt w ad K lo hi) (hh : hi ≤ w.heap.size) (o : Obj) : KidAt (w.alloc o) ad K lo hi := by
  intro hne
  obtain ⟨b, rfl, h1, h2, h3⟩ := h hne
  refine ⟨b, rfl, h1, h2, fun j hj => ?_⟩
  rw [← h3 j hj]
  exact World.cell?_of_block (((Below.refl w.heap.size w).alloc (Nat.le_refl _) o).block b (by omega))
theorem kid_drew {w : World} {ad : Option Addr} {K : List Int} {lo hi : Nat} (h : KidAt w ad K lo hi) (q : Nat) : KidAt (w.drewN q) ad K lo hi := h
theorem rc_low {D : Dc} {n x : Nat} {a : Int} (hg : Good D n) (ha : a < n) (h : a < x) : rc D.U x a = false := by
  cases hr : rc D.U (x : Int) a
  · rfl
  · have hd := good_dec n hg
    obtain ⟨p, q, -⟩ := rc_mem D.U (x : Int) (fun j hj => (hd j (by omega)).2) hr
    omega
def flt (D : Dc) (nm : List UInt8) (L : List Int) : List Int := L.filter fun i => (D.NM i.toNat).data.toList == nm
theorem flt_take (D : Dc) (L : List Int) (nm : List UInt8) (j : Nat) (h : j < L.length) : flt D nm (L.take (j + 1)) = flt D nm (L.take j) ++ (if ((D.NM (L[j]?.getD 0).toNat).data.toList == nm) = true then [L[j]?.getD 0] else []) := kn_take D L nm j h
theorem flt_all (D : Dc) (n : Nat) (hD : D.n = n) (x : Int) (nm : List UInt8) : flt D nm (kd D x n) = kn D x nm := by unfold flt kn; rw [hD]
theorem flt_len (D : Dc) (nm : List UInt8) (L : List Int) (l : Nat) : (flt D nm (L.take l)).length ≤ l := Nat.le_trans (List.length_filter_le _ _) (by rw [List.length_take]; omega)
theorem intR_put2 {B : Nat} {w2 : World} {g c : Nat} {L : List Int} {z : Int} (h : w2.ownsRow B 2 1 (.slice (some ⟨g, 0, none⟩) (L.length + 1) c) (L.length + 1) (L.map (Value.int .i64) ++ [.int .i64 z])) : IntR B w2 (some ⟨g, 0, none⟩) c (L ++ [z]) := intR_put h
set_option maxRecDepth 100000 in
set_option maxHeartbeats 8000000 in
theorem s_l11select (D : Dc) (n b off cap : Nat) (w00 : World) (x : Nat) (s : ByteArray) (hD : D.n = n) (hn : n ≤ 200) (hx : x < n) (hbs0 : b < w00.heap.size) (hr0 : DcRow w00 b off D w00.heap.size) (hg : Good D n) (hs : s.size ≤ 1048576) (hrt : routeB s = true) :
    Calls Tryz.prog 53 #[.slice (some ⟨b, off, none⟩) n cap, .int .i64 x, .string s] w00 fun e w' => ∃ ad2 c2, e = .returned (.slice ad2 (srtL (sel D (st D x n (deepL s.data.toList)) (sg [] (restL s.data.toList)))).length c2) ∧ IntR w00.heap.size w' ad2 c2 (srtL (sel D (st D x n (deepL s.data.toList)) (sg [] (restL s.data.toList)))) ∧ Below w00.heap.size w00 w' := by
  obtain ⟨i0, hi, hz0, hz1, hz2⟩ := info_parts info64
  have hal : allN (restL s.data.toList) = true ∧ cntN (restL s.data.toList) ≤ 6 := by
    have := hrt
    unfold routeB at this
    simp only [Bool.and_eq_true, decide_eq_true_eq] at this
    exact ⟨this.2.2, this.2.1⟩
  obtain ⟨hrs, hds⟩ := (rest_same s).2 hal.1
  have C := hide (s_steps s w00 hs)
  unfold StepsAns at C
  rw [hrs, hds] at C
  have HOK := hide (st_ok (deepL s.data.toList) hD hx)
  obtain ⟨dp, hdp⟩ : ∃ dp, deepL s.data.toList = dp := ⟨_, rfl⟩
  obtain ⟨ps, hps⟩ : ∃ ps, sg [] (restL s.data.toList) = ps := ⟨_, rfl⟩
  obtain ⟨m, hm⟩ : ∃ m, cntN (restL s.data.toList) = m := ⟨_, rfl⟩
  have HPS : Hid (ps.length = m) := hide (by rw [← hps]; exact hm)
  have hm6 : m ≤ 6 := by rw [← hm]; exact hal.2
  have HAL := hide hal.1
  rw [hdp, hps, hm] at C
  rw [hdp] at HOK
  rw [hdp, hps]
  have HD := hide hD
  have HR0 := hide hr0
  have HG := hide hg
  have hxi : (x : Int) < (n : Int) := by omega
  clear hr0 hD hg hal hrs hds hdp hps hm hrt
  cases dp
  · go_enter Tryz.func53, Tryz.ntmps53
    go_wp2_with fail
    refine C.out.mono ?_
    rintro e w ⟨hb2, ⟨-, ad, c, rfl, ho2⟩ | ⟨h, -⟩⟩
    rotate_left
    · exact absurd (HAL.out.symm.trans h) (by decide)
    have HB00 := hide hb2
    have hs00 : w00.heap.size ≤ w.heap.size := hb2.size
    have hbs : b < w.heap.size := Nat.lt_of_lt_of_le hbs0 hb2.size
    have HR := hide (dcRow_up (dcRow_go HR0.out hbs0 hb2) hb2.size)
    have HN := hide (names_at HPS.out ho2)
    obtain ⟨wb, hwb⟩ : ∃ wb, w.alloc (.cells #[.int .i64 (x : Int)] 2) = wb := ⟨_, rfl⟩
    have HBB : Hid (Below w.heap.size w wb) := hide (by rw [← hwb]; exact (Below.refl _ _).alloc (Nat.le_refl _) _)
    have HRB : Hid (IntR w.heap.size wb (some ⟨w.heap.size, 0, none⟩) 1 [(x : Int)]) := hide (by
      rw [← hwb]
      exact ⟨rfl, .inr ⟨w.heap.size, 1, #[.int .i64 (x : Int)], rfl, Nat.le_refl _, heap_alloc_new w _, Nat.le_refl _, by unfold maxLen; omega, rfl, rfl⟩⟩)
    clear hb2 ho2 C
    have HRA := hide (show IntR w.heap.size wb (some ⟨w.heap.size, 0, none⟩) 1 (sel D (st D x n false) []) from HRB.out)
    have HBA := HBB
    have HST := hide (show Value.slice (some ⟨w.heap.size, 0, none⟩) 1 1 = .slice (some ⟨w.heap.size, 0, none⟩) (sel D (st D x n false) []).length 1 from rfl)
    obtain ⟨L0, hL0⟩ : ∃ L0, st D x n false = L0 := ⟨_, rfl⟩
    rw [hL0] at HOK HRA HST
    have HL0 := hide hL0
    clear hL0
    go_wp2
    go_loopw [10, 13] (fun hv iv wr => ∃ (k : Nat) (ad1 : Option Addr) (c1 : Nat), k ≤ m ∧ iv = .int .i64 k ∧ hv = .slice ad1 (sel D L0 (ps.take k)).length c1 ∧ IntR w.heap.size wr ad1 c1 (sel D L0 (ps.take k)) ∧ Below w.heap.size w wr) (fun _ iv _ => m - (intOf iv).toNat)
    case atStart => exact ⟨0, _, _, Nat.zero_le _, rfl, by rw [List.take_zero]; exact HST.out, by rw [List.take_zero]; exact HRA.out, HBA.out⟩
    case round =>
      obtain ⟨k, ad1, c1, hk, rfl, rfl, ho, hb⟩ := hrel
      have HO1 := hide ho
      have HB1 := hide hb
      have hsz : w.heap.size ≤ wr.heap.size := hb.size
      have hsel := sel_ok (ps.take k) L0 HOK.out.1 HOK.out.2
      have hsl : (sel D L0 (ps.take k)).length ≤ n := by have := nodup_len hsel.1 hsel.2; rw [HD.out] at this; exact this
      by_cases hlt : k < m
      · obtain ⟨g, rfl, hgl, hcn⟩ := HN.out k hlt
        obtain ⟨wo, hwo⟩ : ∃ wo, wo = wr := ⟨_, rfl⟩
        subst hwo
        have n0 := (hb.cell (p := ⟨g, k, none⟩) hgl).trans hcn
        have HSK := hide (sel_take (D := D) (L := L0) (ps := ps) (k := k) (by rw [HPS.out]; exact hlt))
        have HSE := hide hsel
        have HRW := hide (own_rowAt' rfl ho)
        obtain ⟨L, hL⟩ : ∃ L, sel D L0 (ps.take k) = L := ⟨_, rfl⟩
        rw [hL] at HSE HRW HO1 hsl HSK ⊢
        obtain ⟨nm, hnm⟩ : ∃ nm, ps[k]?.getD [] = nm := ⟨_, rfl⟩
        rw [hnm] at HSK n0
        have hki : (k : Int) < (m : Int) := by omega
        have hk00 : (0 : Int) ≤ (k : Int) := by omega
        have hgo : g < wo.heap.size := Nat.lt_of_lt_of_le hgl hsz
        clear hL hnm hcn ho hb hsel
        go_wp2
        go_loopw [14, 15] (fun tv jv wq => ∃ (j g2 c2 : Nat), j ≤ L.length ∧ jv = .int .i64 j ∧ tv = .slice (some ⟨g2, 0, none⟩) (stepS D (L.take j) nm).length c2 ∧ IntR wo.heap.size wq (some ⟨g2, 0, none⟩) c2 (stepS D (L.take j) nm) ∧ Below wo.heap.size wo wq) (fun _ jv _ => L.length - (intOf jv).toNat)
        case atStart => exact ⟨0, wo.heap.size, 0, Nat.zero_le _, rfl, rfl, World.ownsRow_made (base := wo.heap.size) (e := 2) (size := 1) wo #[] 0 (Nat.le_refl _) (Nat.zero_le _) rfl, (Below.refl _ _).alloc (Nat.le_refl _) _⟩
        case round =>
          obtain ⟨j, g2, c2, hj, rfl, rfl, ho, hb⟩ := hrel
          obtain ⟨wi, hwi⟩ : ∃ wi, wi = wr := ⟨_, rfl⟩
          subst hwi
          have HO := hide ho
          have HB := hide hb
          have hsz2 : wo.heap.size ≤ wi.heap.size := hb.size
          by_cases hjl : j < L.length
          · obtain ⟨b9, off9, rfl, hb9, hc9⟩ := HRW.out (fun h => by rw [h] at hjl; exact absurd hjl (Nat.not_lt_zero _))
            have k0 := (hb.cell (p := ⟨b9, off9 + j, none⟩) hb9).trans (hc9 j hjl)
            have HKT := hide (step_take (D := D) (L := L) (nm := nm) hjl)
            have hTn := nodup_len (step_nodup (D := D) (nm := nm) (nodup_take HSE.out.1 j)) step_in
            have hvm := HSE.out.2 (L[j]?.getD 0) (by rw [List.getElem?_eq_getElem hjl]; exact List.getElem_mem hjl)
            obtain ⟨y, hy⟩ : ∃ y : Nat, L[j]?.getD 0 = (y : Int) := ⟨(L[j]?.getD 0).toNat, by omega⟩
            rw [hy] at k0 HKT hvm
            rw [HD.out] at hvm hTn
            have hyn : y < n := by omega
            have hwb2 : Below w.heap.size w wi := low_trans HB1.out hb hsz
            have CK := hide (s_kids D n b off cap wi y HD.out hn hyn (Nat.lt_of_lt_of_le hbs hwb2.size) (dcRow_up (dcRow_go HR.out hbs hwb2) hwb2.size) (fun j hj => (good_dec n HG.out j hj).2))
            rw [← flt_all D n HD.out] at HKT
            have hkm := kd_mem (D := D) (x := (y : Int)) n
            have hkl9 := kd_len D (y : Int) n
            obtain ⟨T, hT⟩ : ∃ T, stepS D (L.take j) nm = T := ⟨_, rfl⟩
            obtain ⟨K, hK⟩ : ∃ K, kd D (y : Int) n = K := ⟨_, rfl⟩
            rw [hT] at HO HKT hTn ⊢
            rw [hK] at HKT CK hkm hkl9
            have HKM := hide hkm
            have hji : (j : Int) < (L.length : Int) := by omega
            have hj00 : (0 : Int) ≤ (j : Int) := by omega
            clear hc9 hy hvm hT hK ho hb hkm
            go_wp2_with fail
            refine CK.out.mono ?_
            rintro e w4 ⟨ad4, c4, rfl, ho4, hb4⟩
            have HKI := hide (kid_of (show IntR wi.heap.size w4 ad4 c4 K from ho4))
            have HT4 := hide (show IntR wo.heap.size w4 (some ⟨g2, 0, none⟩) c2 T from gOwn_after HO.out hb4)
            have HB4 := hide (low_trans HB.out hb4 hsz2)
            have hs4 : wi.heap.size ≤ w4.heap.size := hb4.size
            have hg2 : g2 < wi.heap.size := intR_lt HO.out
            clear ho4 hb4 CK HO k0
            go_wp2
            go_loopw [14, 17] (fun tv lv wz => ∃ (l g5 c5 : Nat), l ≤ K.length ∧ lv = .int .i64 l ∧ tv = .slice (some ⟨g5, 0, none⟩) (T ++ flt D nm (K.take l)).length c5 ∧ Hid (IntR wo.heap.size wz (some ⟨g5, 0, none⟩) c5 (T ++ flt D nm (K.take l))) ∧ Hid (Below wo.heap.size wo wz) ∧ Hid (KidAt wz ad4 K wi.heap.size w4.heap.size) ∧ (g5 < wi.heap.size ∨ w4.heap.size ≤ g5) ∧ w4.heap.size ≤ wz.heap.size) (fun _ lv _ => K.length - (intOf lv).toNat)
            case atStart => exact ⟨0, g2, c2, Nat.zero_le _, rfl, by simp [flt], hide (by simpa [flt] using HT4.out), HB4, HKI, .inl hg2, Nat.le_refl _⟩
            case round =>
              clear HKI HT4
              obtain ⟨l, g5, c5, hl, rfl, rfl, HO5, HB5, HKI, hg5, hs5⟩ := hrel
              have hfl := flt_len D nm K l
              by_cases hll : l < K.length
              · obtain ⟨b8, rfl, hb8, hb8', hc8⟩ := HKI.out (fun h => by rw [h] at hll; exact absurd hll (Nat.not_lt_zero _))
                have q0 := hc8 l hll
                have HFT := hide (flt_take D K nm l hll)
                obtain ⟨v, hv⟩ : ∃ v, K[l]?.getD 0 = v := ⟨_, rfl⟩
                have hvm := HKM.out v (by rw [← hv, List.getElem?_eq_getElem hll]; exact List.getElem_mem hll)
                rw [hv] at q0 HFT
                have hwz : Below w.heap.size w wr := low_trans HB1.out HB5.out hsz
                obtain ⟨ad7, cp7, hc7, -⟩ := HR.out v.toNat (by rw [HD.out]; omega)
                obtain ⟨d0, d1, d2, d3⟩ := dcCells_go hc7 hbs hwz
                have n1 := (HB5.out.cell (p := ⟨g, k, none⟩) hgo).trans n0
                have hli : (l : Int) < (K.length : Int) := by omega
                have hl00 : (0 : Int) ≤ (l : Int) := by omega
                have hvn : v < (n : Int) := by omega
                have hv0 : 0 ≤ v := by omega
                obtain ⟨F, hF⟩ : ∃ F, T ++ flt D nm (K.take l) = F := ⟨_, rfl⟩
                have hFl : F.length ≤ 400 := by rw [← hF, List.length_append]; omega
                have hFT2 : T ++ flt D nm (K.take (l + 1)) = F ++ (if ((D.NM v.toNat).data.toList == nm) = true then [v] else []) := by rw [HFT.out, ← List.append_assoc, hF]
                have HF2 := hide hFT2
                rw [hF] at HO5 ⊢
                obtain ⟨NV, hNV⟩ : ∃ NV, D.NM v.toNat = NV := ⟨_, rfl⟩
                rw [hNV] at HF2 d1
                obtain ⟨nmB, hnB⟩ : ∃ nmB : ByteArray, ⟨nm.toArray⟩ = nmB := ⟨_, rfl⟩
                have hnl : nm = nmB.data.toList := by rw [← hnB]
                rw [hnB] at n1
                have HNL := hide hnl
                have hg5l : g5 < wr.heap.size := intR_lt HO5.out
                have hsw : wo.heap.size ≤ wr.heap.size := HB5.out.size
                clear hc8 hv hc7 hF hNV hwz hFT2 hnB hnl n0
                cases hq : (NV.toList == nmB.toList)
                · have HE : Hid (T ++ flt D nm (K.take (l + 1)) = F) := hide (by
                    rw [HF2.out, if_neg (by rw [HNL.out]; rw [ByteArray.toList_eq, ByteArray.toList_eq] at hq; rw [hq]; decide), List.append_nil])
                  go_wp2
                  go_quiet (fail)
                  go_wp2
                  go_roundw
                  case rel => exact ⟨l + 1, g5, c5, by omega, by go_num, by rw [HE.out], hide (by rw [HE.out]; exact intR_drew HO5.out nq), hide (below_drewS HB5.out nq), hide (kid_drew HKI.out nq), hg5, hs5⟩
                  case measure => simp [intOf]; omega
                · have HE : Hid (T ++ flt D nm (K.take (l + 1)) = F ++ [v]) := hide (by
                    rw [HF2.out, if_pos (by rw [HNL.out]; rw [ByteArray.toList_eq, ByteArray.toList_eq] at hq; exact hq)])
                  go_wp2
                  go_quiet (fail)
                  obtain ⟨wq, hwq⟩ : ∃ wq, wr.drewN nq = wq := ⟨_, rfl⟩
                  have HO6 : Hid (IntR wo.heap.size wq (some ⟨g5, 0, none⟩) c5 F) := hide (by rw [← hwq]; exact intR_drew HO5.out nq)
                  have HB6 : Hid (Below wo.heap.size wo wq) := hide (by rw [← hwq]; exact below_drewS HB5.out nq)
                  have HK6 : Hid (KidAt wq (some ⟨b8, 0, none⟩) K wi.heap.size w4.heap.size) := hide (by rw [← hwq]; exact kid_drew HKI.out nq)
                  have q1 : wq.cell? ⟨b8, l, none⟩ = some (.int .i64 v) := by rw [← hwq]; exact q0
                  have hs6 : w4.heap.size ≤ wq.heap.size := by rw [← hwq]; exact hs5
                  have hsq : wo.heap.size ≤ wq.heap.size := HB6.out.size
                  rw [hwq]
                  clear hwq HO5 HB5 HKI hs5 q0 d0 d1 d2 d3 n1
                  go_wp2_with (at_builtin; refine wpList_append_lies _ (by rfl) (.tmp 97) (.tmp 102) 33 (by rfl) wo.heap.size 2 i0 (.int .i64 0) 1 8 Tryz.underlying33 hi hz0 hz1 hz2 rfl (by decide) (.slice (some ⟨g5, 0, none⟩) F.length c5) F.length (F.map (Value.int .i64)) (by rfl) (HO6.out.alloc _) ⟨wq.heap.size, 0, none⟩ 1 1 [.int .i64 v] (by rfl) rfl (fun j u hj => gOne_new wq _ _ j u hj) (gOne_list _ _) (by decide) (by unfold maxLen; omega) (by omega) (by simp; omega) _ rfl ?_; intro g9 c9 w9 hown9 hgr9 hor9 hlt9)
                  have HO9 := hide hown9
                  have HB9 := hide ((HB6.out.alloc hsq (.cells #[.int .i64 v] 2)).grown hgr9 (by simp; omega) (fun k hk => (HO6.out.lt k hk).1))
                  have HK9 := hide (kid_grown (kid_alloc HK6.out hs6 _) hgr9 (by simp; omega) hg5)
                  have hs9 : w4.heap.size ≤ w9.heap.size := Nat.le_trans (Nat.le_trans hs6 (by simp)) hgr9.size
                  have hg9 : g9 < wi.heap.size ∨ w4.heap.size ≤ g9 := by
                    rcases hor9 with h | h
                    · cases h; exact hg5
                    · right; rw [h]; simp; omega
                  clear hown9 hgr9 hor9
                  go_wp2
                  go_roundw
                  case rel => exact ⟨l + 1, g9, c9, by omega, by go_num, by rw [HE.out, List.length_append, List.length_singleton], hide (by rw [HE.out]; exact intR_put2 HO9.out), HB9, HK9, hg9, hs9⟩
                  case measure => simp [intOf]; omega
              · have hln : l = K.length := by omega
                subst hln
                have e : K.take K.length = K := List.take_length
                rw [e] at HO5 ⊢
                clear e
                go_wp2
                go_roundw
                case rel => exact ⟨j + 1, g5, c5, by omega, by go_num, by rw [HKT.out], by rw [HKT.out]; exact HO5.out, HB5.out⟩
                case measure => simp [intOf]; omega
          · have hjn : j = L.length := by omega
            subst hjn
            have e : L.take L.length = L := List.take_length
            rw [e] at HO ⊢
            clear ho hb e
            go_wp2
            go_roundw
            case rel => exact ⟨k + 1, some ⟨g2, 0, none⟩, c2, by omega, by go_num, by rw [HSK.out], by rw [HSK.out]; exact intR_low HO.out hsz, low_trans HB1.out HB.out hsz⟩
            case measure => simp [intOf]; omega
      · have hkm : k = m := by omega
        subst hkm
        have e : ps.take k = ps := by rw [← HPS.out]; exact List.take_length
        rw [e] at ho hsl ⊢
        obtain ⟨L, hL⟩ : ∃ L, sel D L0 ps = L := ⟨_, rfl⟩
        rw [hL] at ho hsl ⊢
        have CS := hide (s_sorted ad1 L.length c1 L wr rfl (by omega) (own_rowAt' rfl ho))
        have HL := hide hL
        clear ho hb hsel e hL
        go_wp2_with fail
        refine CS.out.mono ?_
        rintro e w9 ⟨ad9, c9, rfl, ho9, hb9⟩
        have HO9 := hide (intR_low (intR_low ho9 hsz) hs00)
        have HB9 := hide (low_trans HB00.out (low_trans HB1.out hb9 hsz) hs00)
        clear ho9 hb9
        go_wp2
        go_ret
        exact ⟨ad9, c9, by rw [HL0.out, HL.out]; rfl, by rw [HL0.out, HL.out]; exact HO9.out, HB9.out⟩
  · go_enter Tryz.func53, Tryz.ntmps53
    go_wp2_with fail
    refine C.out.mono ?_
    rintro e w ⟨hb2, ⟨-, ad, c, rfl, ho2⟩ | ⟨h, -⟩⟩
    rotate_left
    · exact absurd (HAL.out.symm.trans h) (by decide)
    have HB00 := hide hb2
    have hs00 : w00.heap.size ≤ w.heap.size := hb2.size
    have hbs : b < w.heap.size := Nat.lt_of_lt_of_le hbs0 hb2.size
    have HR := hide (dcRow_up (dcRow_go HR0.out hbs0 hb2) hb2.size)
    have HN := hide (names_at HPS.out ho2)
    obtain ⟨wb, hwb⟩ : ∃ wb, w.alloc (.cells #[.int .i64 (x : Int)] 2) = wb := ⟨_, rfl⟩
    have HBB : Hid (Below w.heap.size w wb) := hide (by rw [← hwb]; exact (Below.refl _ _).alloc (Nat.le_refl _) _)
    have HRB : Hid (IntR w.heap.size wb (some ⟨w.heap.size, 0, none⟩) 1 [(x : Int)]) := hide (by
      rw [← hwb]
      exact ⟨rfl, .inr ⟨w.heap.size, 1, #[.int .i64 (x : Int)], rfl, Nat.le_refl _, heap_alloc_new w _, Nat.le_refl _, by unfold maxLen; omega, rfl, rfl⟩⟩)
    clear hb2 ho2 C
    go_wp2
    go_loopw [10, 11] (fun v iv wr => ∃ (i : Nat) (ad1 : Option Addr) (c1 : Nat), x + 1 ≤ i ∧ i ≤ n ∧ iv = .int .i64 i ∧ v = .slice ad1 ((x : Int) :: el D x i).length c1 ∧ IntR w.heap.size wr ad1 c1 ((x : Int) :: el D x i) ∧ Below w.heap.size w wr) (fun _ iv _ => n - (intOf iv).toNat)
    case atStart =>
      have e : el D x (x + 1) = [] := el_start (x + 1) (Nat.le_refl _)
      exact ⟨x + 1, some ⟨w.heap.size, 0, none⟩, 1, Nat.le_refl _, by omega, by go_num, by rw [e]; rfl, by rw [e]; exact HRB.out, HBB.out⟩
    case round =>
      obtain ⟨i, ad1, c1, hi1, hi2, rfl, rfl, ho, hb⟩ := hrel
      have HO := hide ho
      have HB := hide hb
      have hkl := el_len D x i
      have hsz : w.heap.size ≤ wr.heap.size := hb.size
      by_cases hlt : i < n
      · obtain ⟨ad9, cp9, hc9, -⟩ := HR.out i (by rw [HD.out]; omega)
        obtain ⟨c0, c1', c2, c3⟩ := dcCells_go hc9 hbs hb
        have hin : (i : Int) < (n : Int) := by omega
        have hi00 : (0 : Int) ≤ (i : Int) := by omega
        have HDEC := hide (good_dec n HG.out)
        clear hc9 ho
        obtain ⟨R, hR⟩ : ∃ R, rc D.U (x : Int) (i : Int) = R := ⟨_, rfl⟩
        have HRR := hide hR
        clear hR
        go_wp2
        go_loop [12] (fun v => ∃ a : Int, v = .int .i64 a ∧ -1 ≤ a ∧ a ≤ (i : Int) ∧ Hid (rc D.U (x : Int) a = R)) (fun v => (intOf v + 1).toNat)
        case atStart => exact ⟨(i : Int), rfl, by omega, Int.le_refl _, HRR⟩
        case round =>
          obtain ⟨a, rfl, ha1, ha2, HA⟩ := hrel
          by_cases hgt : (x : Int) < a
          · have hst9 : rc D.U (x : Int) a = rc D.U (x : Int) (D.U a.toNat) := rc_step D.U (x : Int) (by omega) (by omega) (fun j hj => (HDEC.out j (by omega)).2)
            have HA2 : Hid (rc D.U (x : Int) (D.U a.toNat) = R) := hide (by rw [← hst9]; exact HA.out)
            obtain ⟨ad8, cp8, hc8, -⟩ := HR.out a.toNat (by rw [HD.out]; omega)
            obtain ⟨k0, k1, k2, k3⟩ := dcCells_go hc8 hbs HB.out
            have hdn := HDEC.out a.toNat (by omega)
            have han : a < (n : Int) := by omega
            have ha0 : 0 ≤ a := by omega
            clear hc8 hst9
            go_wp2
            go_round
            case rel => exact ⟨D.U a.toNat, rfl, hdn.1, by omega, HA2⟩
            case measure => simp [intOf]; omega
          · cases R
            · have hne : a ≠ (x : Int) := fun e => by
                have := rc_hit D.U (t := (x : Int)) (a := a) (by omega) e
                rw [HA.out] at this
                cases this
              have hnb : (a == (x : Int)) = false := by rw [beq_eq_false_iff_ne]; exact hne
              have HE := hide (el_no (D := D) (x := x) (m := i) (by rw [HRR.out]; simp))
              clear hne
              go_wp2
              go_roundw
              case rel => exact ⟨i + 1, ad1, c1, by omega, by omega, by go_num, by rw [HE.out], by rw [HE.out]; exact HO.out, HB.out⟩
              case measure => simp [intOf]; omega
            · have heq : a = (x : Int) := by
                rcases Int.lt_or_eq_of_le (show a ≤ (x : Int) by omega) with h | h
                · have := rc_low (D := D) (n := n) (x := x) (a := a) HG.out (by omega) h
                  rw [HA.out] at this
                  cases this
                · exact h
              subst heq
              cases hE : (D.NM i).toList.isEmpty
              · have HE := hide (el_yes (D := D) ⟨(by omega : x < i), HRR.out, hE⟩)
                obtain ⟨L, hL⟩ : ∃ L, el D x i = L := ⟨_, rfl⟩
                rw [hL] at HE HO hkl ⊢
                clear hL
                obtain ⟨M, hM⟩ : ∃ M, (x : Int) :: L = M := ⟨_, rfl⟩
                have hMl : M.length ≤ 201 := by rw [← hM, List.length_cons]; omega
                rw [hM] at HO ⊢
                have HM := hide hM
                clear hM
                go_wp2_with (at_builtin; refine wpList_append_own _ rfl (.tmp 55) (.tmp 57) 33 rfl w.heap.size 2 i0 (.int .i64 0) 1 8 Tryz.underlying33 hi hz0 hz1 hz2 rfl (by decide) _ _ _ rfl (HO.out.alloc _) ⟨wr.heap.size, 0, none⟩ 1 1 [.int .i64 (i : Int)] rfl rfl (fun j u hj => gOne_new wr _ _ j u hj) (gOne_list _ _) (by unfold maxLen; omega) (by omega) (by simp; omega) ?_; intro v2 w2 hown2 hgrow2 _; obtain ⟨ad2, c2', hv2⟩ := gOwn_shape hown2; rw [hv2] at hown2 ⊢; clear hv2; have HB3 := hide (gBelow_one HB.out HO.out hgrow2); have HO2 := hide hown2; clear hown2 hgrow2)
                go_roundw
                case rel =>
                  have e : (x : Int) :: el D x (i + 1) = M ++ [(i : Int)] := by rw [HE.out, ← HM.out]; rfl
                  refine ⟨i + 1, ad2, c2', by omega, by omega, by go_num, ?_, ?_, HB3.out⟩
                  · rw [e, List.length_append, List.length_singleton]
                  · rw [e]; exact intR_put HO2.out
                case measure => simp [intOf]; omega
              · have HE := hide (el_no (D := D) (x := x) (m := i) (by rw [hE]; simp))
                go_wp2
                go_roundw
                case rel => exact ⟨i + 1, ad1, c1, by omega, by omega, by go_num, by rw [HE.out], by rw [HE.out]; exact HO.out, HB.out⟩
                case measure => simp [intOf]; omega
      · have hin : i = n := by omega
        subst hin
        obtain ⟨wa, hwa⟩ : ∃ wa, wa = wr := ⟨_, rfl⟩
        subst hwa
        have HRA := hide (show IntR w.heap.size wa ad1 c1 (sel D (st D x i true) []) from ho)
        have HBA := hide hb
        have HST := hide (show Value.slice ad1 ((x : Int) :: el D x i).length c1 = .slice ad1 (sel D (st D x i true) []).length c1 from rfl)
        obtain ⟨L0, hL0⟩ : ∃ L0, st D x i true = L0 := ⟨_, rfl⟩
        rw [hL0] at HOK HRA HST
        have HL0 := hide hL0
        clear ho hb HO HB hL0
        go_wp2
        go_loopw [10, 13] (fun hv iv wr => ∃ (k : Nat) (ad1 : Option Addr) (c1 : Nat), k ≤ m ∧ iv = .int .i64 k ∧ hv = .slice ad1 (sel D L0 (ps.take k)).length c1 ∧ IntR w.heap.size wr ad1 c1 (sel D L0 (ps.take k)) ∧ Below w.heap.size w wr) (fun _ iv _ => m - (intOf iv).toNat)
        case atStart => exact ⟨0, _, _, Nat.zero_le _, rfl, by rw [List.take_zero]; exact HST.out, by rw [List.take_zero]; exact HRA.out, HBA.out⟩
        case round =>
          obtain ⟨k, ad1, c1, hk, rfl, rfl, ho, hb⟩ := hrel
          have HO1 := hide ho
          have HB1 := hide hb
          have hsz : w.heap.size ≤ wr.heap.size := hb.size
          have hsel := sel_ok (ps.take k) L0 HOK.out.1 HOK.out.2
          have hsl : (sel D L0 (ps.take k)).length ≤ i := by have := nodup_len hsel.1 hsel.2; rw [HD.out] at this; exact this
          by_cases hlt : k < m
          · obtain ⟨g, rfl, hgl, hcn⟩ := HN.out k hlt
            obtain ⟨wo, hwo⟩ : ∃ wo, wo = wr := ⟨_, rfl⟩
            subst hwo
            have n0 := (hb.cell (p := ⟨g, k, none⟩) hgl).trans hcn
            have HSK := hide (sel_take (D := D) (L := L0) (ps := ps) (k := k) (by rw [HPS.out]; exact hlt))
            have HSE := hide hsel
            have HRW := hide (own_rowAt' rfl ho)
            obtain ⟨L, hL⟩ : ∃ L, sel D L0 (ps.take k) = L := ⟨_, rfl⟩
            rw [hL] at HSE HRW HO1 hsl HSK ⊢
            obtain ⟨nm, hnm⟩ : ∃ nm, ps[k]?.getD [] = nm := ⟨_, rfl⟩
            rw [hnm] at HSK n0
            have hki : (k : Int) < (m : Int) := by omega
            have hk00 : (0 : Int) ≤ (k : Int) := by omega
            have hgo : g < wo.heap.size := Nat.lt_of_lt_of_le hgl hsz
            clear hL hnm hcn ho hb hsel
            go_wp2
            go_loopw [14, 15] (fun tv jv wq => ∃ (j g2 c2 : Nat), j ≤ L.length ∧ jv = .int .i64 j ∧ tv = .slice (some ⟨g2, 0, none⟩) (stepS D (L.take j) nm).length c2 ∧ IntR wo.heap.size wq (some ⟨g2, 0, none⟩) c2 (stepS D (L.take j) nm) ∧ Below wo.heap.size wo wq) (fun _ jv _ => L.length - (intOf jv).toNat)
            case atStart => exact ⟨0, wo.heap.size, 0, Nat.zero_le _, rfl, rfl, World.ownsRow_made (base := wo.heap.size) (e := 2) (size := 1) wo #[] 0 (Nat.le_refl _) (Nat.zero_le _) rfl, (Below.refl _ _).alloc (Nat.le_refl _) _⟩
            case round =>
              obtain ⟨j, g2, c2, hj, rfl, rfl, ho, hb⟩ := hrel
              obtain ⟨wi, hwi⟩ : ∃ wi, wi = wr := ⟨_, rfl⟩
              subst hwi
              have HO := hide ho
              have HB := hide hb
              have hsz2 : wo.heap.size ≤ wi.heap.size := hb.size
              by_cases hjl : j < L.length
              · obtain ⟨b9, off9, rfl, hb9, hc9⟩ := HRW.out (fun h => by rw [h] at hjl; exact absurd hjl (Nat.not_lt_zero _))
                have k0 := (hb.cell (p := ⟨b9, off9 + j, none⟩) hb9).trans (hc9 j hjl)
                have HKT := hide (step_take (D := D) (L := L) (nm := nm) hjl)
                have hTn := nodup_len (step_nodup (D := D) (nm := nm) (nodup_take HSE.out.1 j)) step_in
                have hvm := HSE.out.2 (L[j]?.getD 0) (by rw [List.getElem?_eq_getElem hjl]; exact List.getElem_mem hjl)
                obtain ⟨y, hy⟩ : ∃ y : Nat, L[j]?.getD 0 = (y : Int) := ⟨(L[j]?.getD 0).toNat, by omega⟩
                rw [hy] at k0 HKT hvm
                rw [HD.out] at hvm hTn
                have hyn : y < i := by omega
                have hwb2 : Below w.heap.size w wi := low_trans HB1.out hb hsz
                have CK := hide (s_kids D i b off cap wi y HD.out hn hyn (Nat.lt_of_lt_of_le hbs hwb2.size) (dcRow_up (dcRow_go HR.out hbs hwb2) hwb2.size) (fun j hj => (good_dec i HG.out j hj).2))
                rw [← flt_all D i HD.out] at HKT
                have hkm := kd_mem (D := D) (x := (y : Int)) i
                have hkl9 := kd_len D (y : Int) i
                obtain ⟨T, hT⟩ : ∃ T, stepS D (L.take j) nm = T := ⟨_, rfl⟩
                obtain ⟨K, hK⟩ : ∃ K, kd D (y : Int) i = K := ⟨_, rfl⟩
                rw [hT] at HO HKT hTn ⊢
                rw [hK] at HKT CK hkm hkl9
                have HKM := hide hkm
                have hji : (j : Int) < (L.length : Int) := by omega
                have hj00 : (0 : Int) ≤ (j : Int) := by omega
                clear hc9 hy hvm hT hK ho hb hkm
                go_wp2_with fail
                refine CK.out.mono ?_
                rintro e w4 ⟨ad4, c4, rfl, ho4, hb4⟩
                have HKI := hide (kid_of (show IntR wi.heap.size w4 ad4 c4 K from ho4))
                have HT4 := hide (show IntR wo.heap.size w4 (some ⟨g2, 0, none⟩) c2 T from gOwn_after HO.out hb4)
                have HB4 := hide (low_trans HB.out hb4 hsz2)
                have hs4 : wi.heap.size ≤ w4.heap.size := hb4.size
                have hg2 : g2 < wi.heap.size := intR_lt HO.out
                clear ho4 hb4 CK HO k0
                go_wp2
                go_loopw [14, 17] (fun tv lv wz => ∃ (l g5 c5 : Nat), l ≤ K.length ∧ lv = .int .i64 l ∧ tv = .slice (some ⟨g5, 0, none⟩) (T ++ flt D nm (K.take l)).length c5 ∧ Hid (IntR wo.heap.size wz (some ⟨g5, 0, none⟩) c5 (T ++ flt D nm (K.take l))) ∧ Hid (Below wo.heap.size wo wz) ∧ Hid (KidAt wz ad4 K wi.heap.size w4.heap.size) ∧ (g5 < wi.heap.size ∨ w4.heap.size ≤ g5) ∧ w4.heap.size ≤ wz.heap.size) (fun _ lv _ => K.length - (intOf lv).toNat)
                case atStart => exact ⟨0, g2, c2, Nat.zero_le _, rfl, by simp [flt], hide (by simpa [flt] using HT4.out), HB4, HKI, .inl hg2, Nat.le_refl _⟩
                case round =>
                  clear HKI HT4
                  obtain ⟨l, g5, c5, hl, rfl, rfl, HO5, HB5, HKI, hg5, hs5⟩ := hrel
                  have hfl := flt_len D nm K l
                  by_cases hll : l < K.length
                  · obtain ⟨b8, rfl, hb8, hb8', hc8⟩ := HKI.out (fun h => by rw [h] at hll; exact absurd hll (Nat.not_lt_zero _))
                    have q0 := hc8 l hll
                    have HFT := hide (flt_take D K nm l hll)
                    obtain ⟨v, hv⟩ : ∃ v, K[l]?.getD 0 = v := ⟨_, rfl⟩
                    have hvm := HKM.out v (by rw [← hv, List.getElem?_eq_getElem hll]; exact List.getElem_mem hll)
                    rw [hv] at q0 HFT
                    have hwz : Below w.heap.size w wr := low_trans HB1.out HB5.out hsz
                    obtain ⟨ad7, cp7, hc7, -⟩ := HR.out v.toNat (by rw [HD.out]; omega)
                    obtain ⟨d0, d1, d2, d3⟩ := dcCells_go hc7 hbs hwz
                    have n1 := (HB5.out.cell (p := ⟨g, k, none⟩) hgo).trans n0
                    have hli : (l : Int) < (K.length : Int) := by omega
                    have hl00 : (0 : Int) ≤ (l : Int) := by omega
                    have hvn : v < (i : Int) := by omega
                    have hv0 : 0 ≤ v := by omega
                    obtain ⟨F, hF⟩ : ∃ F, T ++ flt D nm (K.take l) = F := ⟨_, rfl⟩
                    have hFl : F.length ≤ 400 := by rw [← hF, List.length_append]; omega
                    have hFT2 : T ++ flt D nm (K.take (l + 1)) = F ++ (if ((D.NM v.toNat).data.toList == nm) = true then [v] else []) := by rw [HFT.out, ← List.append_assoc, hF]
                    have HF2 := hide hFT2
                    rw [hF] at HO5 ⊢
                    obtain ⟨NV, hNV⟩ : ∃ NV, D.NM v.toNat = NV := ⟨_, rfl⟩
                    rw [hNV] at HF2 d1
                    obtain ⟨nmB, hnB⟩ : ∃ nmB : ByteArray, ⟨nm.toArray⟩ = nmB := ⟨_, rfl⟩
                    have hnl : nm = nmB.data.toList := by rw [← hnB]
                    rw [hnB] at n1
                    have HNL := hide hnl
                    have hg5l : g5 < wr.heap.size := intR_lt HO5.out
                    have hsw : wo.heap.size ≤ wr.heap.size := HB5.out.size
                    clear hc8 hv hc7 hF hNV hwz hFT2 hnB hnl n0
                    cases hq : (NV.toList == nmB.toList)
                    · have HE : Hid (T ++ flt D nm (K.take (l + 1)) = F) := hide (by
                        rw [HF2.out, if_neg (by rw [HNL.out]; rw [ByteArray.toList_eq, ByteArray.toList_eq] at hq; rw [hq]; decide), List.append_nil])
                      go_wp2
                      go_quiet (fail)
                      go_wp2
                      go_roundw
                      case rel => exact ⟨l + 1, g5, c5, by omega, by go_num, by rw [HE.out], hide (by rw [HE.out]; exact intR_drew HO5.out nq), hide (below_drewS HB5.out nq), hide (kid_drew HKI.out nq), hg5, hs5⟩
                      case measure => simp [intOf]; omega
                    · have HE : Hid (T ++ flt D nm (K.take (l + 1)) = F ++ [v]) := hide (by
                        rw [HF2.out, if_pos (by rw [HNL.out]; rw [ByteArray.toList_eq, ByteArray.toList_eq] at hq; exact hq)])
                      go_wp2
                      go_quiet (fail)
                      obtain ⟨wq, hwq⟩ : ∃ wq, wr.drewN nq = wq := ⟨_, rfl⟩
                      have HO6 : Hid (IntR wo.heap.size wq (some ⟨g5, 0, none⟩) c5 F) := hide (by rw [← hwq]; exact intR_drew HO5.out nq)
                      have HB6 : Hid (Below wo.heap.size wo wq) := hide (by rw [← hwq]; exact below_drewS HB5.out nq)
                      have HK6 : Hid (KidAt wq (some ⟨b8, 0, none⟩) K wi.heap.size w4.heap.size) := hide (by rw [← hwq]; exact kid_drew HKI.out nq)
                      have q1 : wq.cell? ⟨b8, l, none⟩ = some (.int .i64 v) := by rw [← hwq]; exact q0
                      have hs6 : w4.heap.size ≤ wq.heap.size := by rw [← hwq]; exact hs5
                      have hsq : wo.heap.size ≤ wq.heap.size := HB6.out.size
                      rw [hwq]
                      clear hwq HO5 HB5 HKI hs5 q0 d0 d1 d2 d3 n1
                      go_wp2_with (at_builtin; refine wpList_append_lies _ (by rfl) (.tmp 97) (.tmp 102) 33 (by rfl) wo.heap.size 2 i0 (.int .i64 0) 1 8 Tryz.underlying33 hi hz0 hz1 hz2 rfl (by decide) (.slice (some ⟨g5, 0, none⟩) F.length c5) F.length (F.map (Value.int .i64)) (by rfl) (HO6.out.alloc _) ⟨wq.heap.size, 0, none⟩ 1 1 [.int .i64 v] (by rfl) rfl (fun j u hj => gOne_new wq _ _ j u hj) (gOne_list _ _) (by decide) (by unfold maxLen; omega) (by omega) (by simp; omega) _ rfl ?_; intro g9 c9 w9 hown9 hgr9 hor9 hlt9)
                      have HO9 := hide hown9
                      have HB9 := hide ((HB6.out.alloc hsq (.cells #[.int .i64 v] 2)).grown hgr9 (by simp; omega) (fun k hk => (HO6.out.lt k hk).1))
                      have HK9 := hide (kid_grown (kid_alloc HK6.out hs6 _) hgr9 (by simp; omega) hg5)
                      have hs9 : w4.heap.size ≤ w9.heap.size := Nat.le_trans (Nat.le_trans hs6 (by simp)) hgr9.size
                      have hg9 : g9 < wi.heap.size ∨ w4.heap.size ≤ g9 := by
                        rcases hor9 with h | h
                        · cases h; exact hg5
                        · right; rw [h]; simp; omega
                      clear hown9 hgr9 hor9
                      go_wp2
                      go_roundw
                      case rel => exact ⟨l + 1, g9, c9, by omega, by go_num, by rw [HE.out, List.length_append, List.length_singleton], hide (by rw [HE.out]; exact intR_put2 HO9.out), HB9, HK9, hg9, hs9⟩
                      case measure => simp [intOf]; omega
                  · have hln : l = K.length := by omega
                    subst hln
                    have e : K.take K.length = K := List.take_length
                    rw [e] at HO5 ⊢
                    clear e
                    go_wp2
                    go_roundw
                    case rel => exact ⟨j + 1, g5, c5, by omega, by go_num, by rw [HKT.out], by rw [HKT.out]; exact HO5.out, HB5.out⟩
                    case measure => simp [intOf]; omega
              · have hjn : j = L.length := by omega
                subst hjn
                have e : L.take L.length = L := List.take_length
                rw [e] at HO ⊢
                clear ho hb e
                go_wp2
                go_roundw
                case rel => exact ⟨k + 1, some ⟨g2, 0, none⟩, c2, by omega, by go_num, by rw [HSK.out], by rw [HSK.out]; exact intR_low HO.out hsz, low_trans HB1.out HB.out hsz⟩
                case measure => simp [intOf]; omega
          · have hkm : k = m := by omega
            subst hkm
            have e : ps.take k = ps := by rw [← HPS.out]; exact List.take_length
            rw [e] at ho hsl ⊢
            obtain ⟨L, hL⟩ : ∃ L, sel D L0 ps = L := ⟨_, rfl⟩
            rw [hL] at ho hsl ⊢
            have CS := hide (s_sorted ad1 L.length c1 L wr rfl (by omega) (own_rowAt' rfl ho))
            have HL := hide hL
            clear ho hb hsel e hL
            go_wp2_with fail
            refine CS.out.mono ?_
            rintro e w9 ⟨ad9, c9, rfl, ho9, hb9⟩
            have HO9 := hide (intR_low (intR_low ho9 hsz) hs00)
            have HB9 := hide (low_trans HB00.out (low_trans HB1.out hb9 hsz) hs00)
            clear ho9 hb9
            go_wp2
            go_ret
            exact ⟨ad9, c9, by rw [HL0.out, HL.out]; rfl, by rw [HL0.out, HL.out]; exact HO9.out, HB9.out⟩
end Go.Proofs.YtdepgkpfibmbgaaGreatDoor
