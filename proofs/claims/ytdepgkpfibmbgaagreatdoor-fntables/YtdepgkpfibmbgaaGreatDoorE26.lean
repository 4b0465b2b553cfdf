/-
  Texts put together: SelF, SelW1.
-/
import Derived.Test.YtdepgkpfibmbgaaGreatDoorE25
import Derived.Test.YtdepgkpfibmbgaaGreatDoorE5
/-
  Contracts: what a path selects, the program's.
-/
namespace Go.Proofs.YtdepgkpfibmbgaaGreatDoor
open Go.RowKit
set_option linter.unusedVariables false
set_option linter.unusedSimpArgs false
/-- Where a path begins: at the element, or at it and all below it. -/
def st (D : Dc) (x n : Nat) (dp : Bool) : List Int := if dp = true then (x : Int) :: el D x n else [(x : Int)]
theorem st_ok {D : Dc} {x n : Nat} (dp : Bool) (hD : D.n = n) (hx : x < n) : (st D x n dp).Nodup ∧ InR D (st D x n dp) := by
  unfold st
  split
  · refine ⟨List.nodup_cons.2 ⟨fun h => ?_, el_nodup n⟩, fun j hj => ?_⟩
    · have := el_mem n _ h; omega
    · rcases List.mem_cons.1 hj with rfl | hj
      · rw [hD]; omega
      · have := el_mem n j hj; rw [hD]; omega
  · refine ⟨by simp, fun j hj => ?_⟩
    simp at hj
    rw [hD]
    omega
theorem nodup_take {L : List Int} (h : L.Nodup) (k : Nat) : (L.take k).Nodup := h.sublist (List.take_sublist k L)
theorem step_take {D : Dc} {L : List Int} {nm : List UInt8} {j : Nat} (h : j < L.length) : stepS D (L.take (j + 1)) nm = stepS D (L.take j) nm ++ kn D (L[j]?.getD 0) nm := by
  unfold stepS
  rw [List.take_succ_eq_append_getElem h, List.flatMap_append, List.getElem?_eq_getElem h]
  simp
theorem names_at {w : World} {B : Nat} {ad : Option Addr} {m c : Nat} {ps : List (List UInt8)} (hps : ps.length = m) (h : w.ownsRow B 9 1 (.slice ad m c) m (strV ps)) : ∀ k, k < m → ∃ g, ad = some ⟨g, 0, none⟩ ∧ g < w.heap.size ∧ w.cell? ⟨g, k, none⟩ = some (.string ⟨(ps[k]?.getD []).toArray⟩) := by
  intro k hk
  obtain ⟨g, cap, e, hB, hl⟩ := h.form (by omega)
  simp only [Value.slice.injEq] at e
  obtain ⟨rfl, -, rfl⟩ := e
  exact ⟨g, rfl, (h.lt g rfl).2, by rw [h.cellAt k (by omega)]; exact strV_get _ _ (by omega)⟩
/-- While a path is gone: what stands in the row. -/
theorem low_trans {B : Nat} {w wr w2 : World} (h : Below B w wr) (h2 : Below wr.heap.size wr w2) (hB : B ≤ wr.heap.size) : Below B w w2 := h.trans (h2.mono hB)
set_option maxRecDepth 100000 in
set_option maxHeartbeats 4000000 in
theorem i_from (D : Dc) (n b off cap : Nat) (w : World) (x : Nat) (dp : Bool) (ad : Option Addr) (m c : Nat) (ps : List (List UInt8)) (B0 : Nat) (hD : D.n = n) (hn : n ≤ 200) (hx : x < n) (hbs : b < w.heap.size) (hr : DcRow w b off D w.heap.size) (hg : Good D n) (hps : ps.length = m) (hm : m ≤ 1000) (hN : w.ownsRow B0 9 1 (.slice ad m c) m (strV ps)) :
    Calls Tryz.prog 30 #[.agg #[.bool dp, .slice ad m c], .slice (some ⟨b, off, none⟩) n cap, .int .i64 x] w fun e w' => ∃ ad2 c2, e = .returned (.slice ad2 (srtL (sel D (st D x n dp) ps)).length c2) ∧ IntR w.heap.size w' ad2 c2 (srtL (sel D (st D x n dp) ps)) ∧ Below w.heap.size w w' := by
  obtain ⟨i0, hi, hz0, hz1, hz2⟩ := info_parts info64
  have HOK := hide (st_ok dp hD hx)
  have HN := hide (names_at hps hN)
  have HPS := hide hps
  have HD := hide hD
  have HR := hide hr
  have HG := hide hg
  obtain ⟨bx, hbx⟩ : ∃ bx, w.alloc (.cells #[.bool dp, .slice ad m c] 56) = bx := ⟨_, rfl⟩
  obtain ⟨wb, hwb⟩ : ∃ wb, bx.alloc (.cells #[.int .i64 (x : Int)] 2) = wb := ⟨_, rfl⟩
  have hbb : Below w.heap.size w wb := by rw [← hwb, ← hbx]; exact ((Below.refl _ _).alloc (Nat.le_refl _) _).alloc (by simp) _
  have hkb : CellsAt wb w.heap.size #[.bool dp, .slice ad m c] := by
    rw [← hwb]
    refine cellsAt_go (B := bx.heap.size) (by rw [← hbx]; exact cellsAt_new w _ _) ((Below.refl _ _).alloc (Nat.le_refl _) _) (by rw [← hbx]; simp)
  have hrb : IntR w.heap.size wb (some ⟨bx.heap.size, 0, none⟩) 1 [(x : Int)] := by
    rw [← hwb]
    exact ⟨rfl, .inr ⟨bx.heap.size, 1, #[.int .i64 (x : Int)], rfl, by rw [← hbx]; simp, heap_alloc_new bx _, Nat.le_refl _, by unfold maxLen; omega, rfl, rfl⟩⟩
  have HBB := hide hbb
  have HKB := hide hkb
  have HRB := hide hrb
  have hbl : b < wb.heap.size := Nat.lt_of_lt_of_le hbs hbb.size
  have CE := hide (i_elementsFrom D n b off cap wb x hD hn hx hbl (dcRow_up (dcRow_go hr hbs hbb) hbb.size) hg)
  have a0 := cellsAt_cell hkb 0
  have a1 := cellsAt_cell hkb 1
  clear hr hD hg hps hN hbb hkb hrb
  cases dp
  · have hst : st D x n false = [(x : Int)] := rfl
    have HRA := hide (show IntR w.heap.size wb (some ⟨bx.heap.size, 0, none⟩) 1 (sel D (st D x n false) []) from HRB.out)
    have HBA := HBB
    have HST := hide (show Value.slice (some ⟨bx.heap.size, 0, none⟩) 1 1 = .slice (some ⟨bx.heap.size, 0, none⟩) (sel D (st D x n false) []).length 1 from rfl)
    obtain ⟨L0, hL0⟩ : ∃ L0, st D x n false = L0 := ⟨_, rfl⟩
    rw [hL0] at HOK HRA HST ⊢
    clear hst hL0 CE HRB
    go_enter Tryz.func30, Tryz.ntmps30
    go_wp2
    go_loopw [7, 23] (fun hv iv wr => ∃ (k : Nat) (ad1 : Option Addr) (c1 : Nat), k ≤ m ∧ iv = .int .i64 k ∧ hv = .slice ad1 (sel D L0 (ps.take k)).length c1 ∧ IntR w.heap.size wr ad1 c1 (sel D L0 (ps.take k)) ∧ Below w.heap.size w wr) (fun _ iv _ => m - (intOf iv).toNat)
    case atStart => exact ⟨0, _, _, Nat.zero_le _, rfl, by rw [List.take_zero]; exact HST.out, by rw [List.take_zero]; exact HRA.out, HBA.out⟩
    case round =>
      obtain ⟨k, ad1, c1, hk, rfl, rfl, ho, hb⟩ := hrel
      have HO1 := hide ho
      have HB1 := hide hb
      have hsz : w.heap.size ≤ wr.heap.size := hb.size
      have hsel := sel_ok (ps.take k) L0 HOK.out.1 HOK.out.2
      have hsl : (sel D L0 (ps.take k)).length ≤ n := by have := nodup_len hsel.1 hsel.2; rw [HD.out] at this; exact this
      by_cases hlt : k < m
      · obtain ⟨g, rfl, hgl, hcn⟩ := HN.out k hlt
        obtain ⟨wo, hwo⟩ : ∃ wo, wo = wr := ⟨_, rfl⟩
        subst hwo
        have n0 := (hb.cell (p := ⟨g, k, none⟩) hgl).trans hcn
        have HSK := hide (sel_take (D := D) (L := L0) (ps := ps) (k := k) (by rw [HPS.out]; exact hlt))
        have HSE := hide hsel
        have HRW := hide (own_rowAt' rfl ho)
        obtain ⟨L, hL⟩ : ∃ L, sel D L0 (ps.take k) = L := ⟨_, rfl⟩
        rw [hL] at HSE HRW HO1 hsl HSK ⊢
        obtain ⟨nm, hnm⟩ : ∃ nm, ps[k]?.getD [] = nm := ⟨_, rfl⟩
        rw [hnm] at HSK n0
        have hki : (k : Int) < (m : Int) := by omega
        clear hL hnm hcn ho hb hsel
        go_wp2
        go_loopw [10, 29] (fun tv jv wq => ∃ (j : Nat) (ad2 : Option Addr) (c2 : Nat), j ≤ L.length ∧ jv = .int .i64 j ∧ tv = .slice ad2 (stepS D (L.take j) nm).length c2 ∧ IntR wo.heap.size wq ad2 c2 (stepS D (L.take j) nm) ∧ Below wo.heap.size wo wq) (fun _ jv _ => L.length - (intOf jv).toNat)
        case atStart => exact ⟨0, none, 0, Nat.zero_le _, rfl, rfl, intR_nil _ _, Below.refl _ _⟩
        case round =>
          obtain ⟨j, ad2, c2, hj, rfl, rfl, ho, hb⟩ := hrel
          have HO := hide ho
          have HB := hide hb
          have hsz2 : wo.heap.size ≤ wr.heap.size := hb.size
          by_cases hjl : j < L.length
          · obtain ⟨b9, off9, rfl, hb9, hc9⟩ := HRW.out (fun h => by rw [h] at hjl; exact absurd hjl (Nat.not_lt_zero _))
            have k0 := (hb.cell (p := ⟨b9, off9 + j, none⟩) hb9).trans (hc9 j hjl)
            have HKT := hide (step_take (D := D) (L := L) (nm := nm) hjl)
            have hTn := nodup_len (step_nodup (D := D) (nm := nm) (nodup_take HSE.out.1 j)) step_in
            have hTn2 := nodup_len (step_nodup (D := D) (nm := nm) (nodup_take HSE.out.1 (j + 1))) step_in
            have hvm := HSE.out.2 (L[j]?.getD 0) (by rw [List.getElem?_eq_getElem hjl]; exact List.getElem_mem hjl)
            obtain ⟨y, hy⟩ : ∃ y : Nat, L[j]?.getD 0 = (y : Int) := ⟨(L[j]?.getD 0).toNat, by omega⟩
            rw [hy] at k0 HKT hvm
            rw [HD.out] at hvm hTn hTn2
            have hyn : y < n := by omega
            have hwb2 : Below w.heap.size w wr := low_trans HB1.out hb hsz
            have CK := hide (i_kidsNamed D n b off cap wr y ⟨nm.toArray⟩ HD.out hn hyn (Nat.lt_of_lt_of_le hbs hwb2.size) (dcRow_up (dcRow_go HR.out hbs hwb2) hwb2.size) HG.out)
            have enm : (⟨nm.toArray⟩ : ByteArray).data.toList = nm := by simp
            rw [enm] at CK
            rw [HKT.out] at hTn2
            obtain ⟨T, hT⟩ : ∃ T, stepS D (L.take j) nm = T := ⟨_, rfl⟩
            obtain ⟨KN, hKN⟩ : ∃ KN, kn D (y : Int) nm = KN := ⟨_, rfl⟩
            rw [hT, hKN, List.length_append] at hTn2
            rw [hT] at HO HKT hTn ⊢
            rw [hKN] at HKT CK
            have hji : (j : Int) < (L.length : Int) := by omega
            clear hc9 hy hvm hT hKN ho hb hwb2 enm
            go_wp2_with (first
              | (go_at_call 58; refine CK.out.mono ?_; rintro e w4 ⟨ad4, c4, rfl, ho4, hb4⟩; have HO4 := hide ho4; have HB4 := hide hb4; have hs4 : wr.heap.size ≤ w4.heap.size := hb4.size; have HT4 := hide (gOwn_after HO.out hb4); clear ho4 hb4)
              | (at_builtin; refine wpList_append_src (by rfl) (.tmp 33) (.tmp 37) 33 (by rfl) wo.heap.size 2 i0 (.int .i64 0) 1 8 Tryz.underlying33 hi hz0 hz1 hz2 rfl (by decide) (.slice ad2 T.length c2) T.length (T.map (Value.int .i64)) (by rfl) HT4.out ad4 KN.length c4 (KN.map (Value.int .i64)) (by rfl) (by rw [List.length_map, Nat.mul_one]) (fun hp => by obtain ⟨b8, o8, e8, -, h8⟩ := own_rowAt' rfl HO4.out (fun h => by rw [h] at hp; exact absurd hp (Nat.lt_irrefl _)); exact ⟨_, e8, row_src h8⟩) (ints_one _) (by unfold maxLen; omega) (by omega) (by omega) ?_; intro a9 c9 w9 hown9 hgr9; have HB9 := hide ((low_trans HB.out HB4.out hsz2).grown hgr9 (Nat.le_trans hsz2 hs4) (fun k hk => (HT4.out.lt k hk).1)); have HO9 := hide hown9; clear hown9 hgr9)
              | fail)
            go_roundw
            case rel =>
              refine ⟨j + 1, a9, c9, by omega, by go_num, by rw [HKT.out, List.length_append], ?_, HB9.out⟩
              rw [HKT.out]
              unfold IntR
              rw [List.length_append, List.map_append]
              exact HO9.out
            case measure => simp [intOf]; omega
          · have hjn : j = L.length := by omega
            subst hjn
            have e : L.take L.length = L := List.take_length
            rw [e] at HO ⊢
            clear ho hb e
            go_wp2
            go_roundw
            case rel => exact ⟨k + 1, ad2, c2, by omega, by go_num, by rw [HSK.out], by rw [HSK.out]; exact intR_low HO.out hsz, low_trans HB1.out HB.out hsz⟩
            case measure => simp [intOf]; omega
      · have hkm : k = m := by omega
        subst hkm
        have e : ps.take k = ps := by rw [← HPS.out]; exact List.take_length
        rw [e] at ho hsel hsl ⊢
        have CS := hide (i_sort w.heap.size ad1 c1 _ wr ho (by omega) hsel.1)
        obtain ⟨L, hL⟩ : ∃ L, sel D L0 ps = L := ⟨_, rfl⟩
        rw [hL] at CS ⊢
        have HL := hide hL
        clear ho hb hsel e hL
        go_wp2_with fail
        refine CS.out.mono ?_
        rintro e w9 ⟨rfl, m9, hm9, hm9', ho9, hb9⟩
        have hm9e : L.length = (srtL L).length := by omega
        go_wp2
        go_ret
        exact ⟨ad1, c1, by rw [HL.out]; rfl, by rw [HL.out]; exact ho9, hb9 _ HB1.out⟩
  · have hst : st D x n true = (x : Int) :: el D x n := rfl
    rw [← hst] at CE
    obtain ⟨L0, hL0⟩ : ∃ L0, st D x n true = L0 := ⟨_, rfl⟩
    rw [hL0] at HOK CE ⊢
    clear hst hL0 HRB
    go_enter Tryz.func30, Tryz.ntmps30
    go_wp2_with fail
    refine CE.out.mono ?_
    rintro e w3 ⟨ad3, c3, rfl, ho3, hb3⟩
    have b1 := (hb3.cell (p := ⟨w.heap.size, 1, none⟩) (cellsAt_lt HKB.out)).trans a1
    have HRA := hide (show IntR w.heap.size w3 ad3 c3 (sel D L0 []) from intR_low ho3 HBB.out.size)
    have HBA := hide (low_trans HBB.out hb3 HBB.out.size)
    have HST := hide (show Value.slice ad3 L0.length c3 = .slice ad3 (sel D L0 []).length c3 from rfl)
    clear ho3 hb3 CE
    go_wp2
    go_loopw [7, 23] (fun hv iv wr => ∃ (k : Nat) (ad1 : Option Addr) (c1 : Nat), k ≤ m ∧ iv = .int .i64 k ∧ hv = .slice ad1 (sel D L0 (ps.take k)).length c1 ∧ IntR w.heap.size wr ad1 c1 (sel D L0 (ps.take k)) ∧ Below w.heap.size w wr) (fun _ iv _ => m - (intOf iv).toNat)
    case atStart => exact ⟨0, _, _, Nat.zero_le _, rfl, by rw [List.take_zero]; exact HST.out, by rw [List.take_zero]; exact HRA.out, HBA.out⟩
    case round =>
      obtain ⟨k, ad1, c1, hk, rfl, rfl, ho, hb⟩ := hrel
      have HO1 := hide ho
      have HB1 := hide hb
      have hsz : w.heap.size ≤ wr.heap.size := hb.size
      have hsel := sel_ok (ps.take k) L0 HOK.out.1 HOK.out.2
      have hsl : (sel D L0 (ps.take k)).length ≤ n := by have := nodup_len hsel.1 hsel.2; rw [HD.out] at this; exact this
      by_cases hlt : k < m
      · obtain ⟨g, rfl, hgl, hcn⟩ := HN.out k hlt
        obtain ⟨wo, hwo⟩ : ∃ wo, wo = wr := ⟨_, rfl⟩
        subst hwo
        have n0 := (hb.cell (p := ⟨g, k, none⟩) hgl).trans hcn
        have HSK := hide (sel_take (D := D) (L := L0) (ps := ps) (k := k) (by rw [HPS.out]; exact hlt))
        have HSE := hide hsel
        have HRW := hide (own_rowAt' rfl ho)
        obtain ⟨L, hL⟩ : ∃ L, sel D L0 (ps.take k) = L := ⟨_, rfl⟩
        rw [hL] at HSE HRW HO1 hsl HSK ⊢
        obtain ⟨nm, hnm⟩ : ∃ nm, ps[k]?.getD [] = nm := ⟨_, rfl⟩
        rw [hnm] at HSK n0
        have hki : (k : Int) < (m : Int) := by omega
        clear hL hnm hcn ho hb hsel
        go_wp2
        go_loopw [10, 29] (fun tv jv wq => ∃ (j : Nat) (ad2 : Option Addr) (c2 : Nat), j ≤ L.length ∧ jv = .int .i64 j ∧ tv = .slice ad2 (stepS D (L.take j) nm).length c2 ∧ IntR wo.heap.size wq ad2 c2 (stepS D (L.take j) nm) ∧ Below wo.heap.size wo wq) (fun _ jv _ => L.length - (intOf jv).toNat)
        case atStart => exact ⟨0, none, 0, Nat.zero_le _, rfl, rfl, intR_nil _ _, Below.refl _ _⟩
        case round =>
          obtain ⟨j, ad2, c2, hj, rfl, rfl, ho, hb⟩ := hrel
          have HO := hide ho
          have HB := hide hb
          have hsz2 : wo.heap.size ≤ wr.heap.size := hb.size
          by_cases hjl : j < L.length
          · obtain ⟨b9, off9, rfl, hb9, hc9⟩ := HRW.out (fun h => by rw [h] at hjl; exact absurd hjl (Nat.not_lt_zero _))
            have k0 := (hb.cell (p := ⟨b9, off9 + j, none⟩) hb9).trans (hc9 j hjl)
            have HKT := hide (step_take (D := D) (L := L) (nm := nm) hjl)
            have hTn := nodup_len (step_nodup (D := D) (nm := nm) (nodup_take HSE.out.1 j)) step_in
            have hTn2 := nodup_len (step_nodup (D := D) (nm := nm) (nodup_take HSE.out.1 (j + 1))) step_in
            have hvm := HSE.out.2 (L[j]?.getD 0) (by rw [List.getElem?_eq_getElem hjl]; exact List.getElem_mem hjl)
            obtain ⟨y, hy⟩ : ∃ y : Nat, L[j]?.getD 0 = (y : Int) := ⟨(L[j]?.getD 0).toNat, by omega⟩
            rw [hy] at k0 HKT hvm
            rw [HD.out] at hvm hTn hTn2
            have hyn : y < n := by omega
            have hwb2 : Below w.heap.size w wr := low_trans HB1.out hb hsz
            have CK := hide (i_kidsNamed D n b off cap wr y ⟨nm.toArray⟩ HD.out hn hyn (Nat.lt_of_lt_of_le hbs hwb2.size) (dcRow_up (dcRow_go HR.out hbs hwb2) hwb2.size) HG.out)
            have enm : (⟨nm.toArray⟩ : ByteArray).data.toList = nm := by simp
            rw [enm] at CK
            rw [HKT.out] at hTn2
            obtain ⟨T, hT⟩ : ∃ T, stepS D (L.take j) nm = T := ⟨_, rfl⟩
            obtain ⟨KN, hKN⟩ : ∃ KN, kn D (y : Int) nm = KN := ⟨_, rfl⟩
            rw [hT, hKN, List.length_append] at hTn2
            rw [hT] at HO HKT hTn ⊢
            rw [hKN] at HKT CK
            have hji : (j : Int) < (L.length : Int) := by omega
            clear hc9 hy hvm hT hKN ho hb hwb2 enm
            go_wp2_with (first
              | (go_at_call 58; refine CK.out.mono ?_; rintro e w4 ⟨ad4, c4, rfl, ho4, hb4⟩; have HO4 := hide ho4; have HB4 := hide hb4; have hs4 : wr.heap.size ≤ w4.heap.size := hb4.size; have HT4 := hide (gOwn_after HO.out hb4); clear ho4 hb4)
              | (at_builtin; refine wpList_append_src (by rfl) (.tmp 33) (.tmp 37) 33 (by rfl) wo.heap.size 2 i0 (.int .i64 0) 1 8 Tryz.underlying33 hi hz0 hz1 hz2 rfl (by decide) (.slice ad2 T.length c2) T.length (T.map (Value.int .i64)) (by rfl) HT4.out ad4 KN.length c4 (KN.map (Value.int .i64)) (by rfl) (by rw [List.length_map, Nat.mul_one]) (fun hp => by obtain ⟨b8, o8, e8, -, h8⟩ := own_rowAt' rfl HO4.out (fun h => by rw [h] at hp; exact absurd hp (Nat.lt_irrefl _)); exact ⟨_, e8, row_src h8⟩) (ints_one _) (by unfold maxLen; omega) (by omega) (by omega) ?_; intro a9 c9 w9 hown9 hgr9; have HB9 := hide ((low_trans HB.out HB4.out hsz2).grown hgr9 (Nat.le_trans hsz2 hs4) (fun k hk => (HT4.out.lt k hk).1)); have HO9 := hide hown9; clear hown9 hgr9)
              | fail)
            go_roundw
            case rel =>
              refine ⟨j + 1, a9, c9, by omega, by go_num, by rw [HKT.out, List.length_append], ?_, HB9.out⟩
              rw [HKT.out]
              unfold IntR
              rw [List.length_append, List.map_append]
              exact HO9.out
            case measure => simp [intOf]; omega
          · have hjn : j = L.length := by omega
            subst hjn
            have e : L.take L.length = L := List.take_length
            rw [e] at HO ⊢
            clear ho hb e
            go_wp2
            go_roundw
            case rel => exact ⟨k + 1, ad2, c2, by omega, by go_num, by rw [HSK.out], by rw [HSK.out]; exact intR_low HO.out hsz, low_trans HB1.out HB.out hsz⟩
            case measure => simp [intOf]; omega
      · have hkm : k = m := by omega
        subst hkm
        have e : ps.take k = ps := by rw [← HPS.out]; exact List.take_length
        rw [e] at ho hsel hsl ⊢
        have CS := hide (i_sort w.heap.size ad1 c1 _ wr ho (by omega) hsel.1)
        obtain ⟨L, hL⟩ : ∃ L, sel D L0 ps = L := ⟨_, rfl⟩
        rw [hL] at CS ⊢
        have HL := hide hL
        clear ho hb hsel e hL
        go_wp2_with fail
        refine CS.out.mono ?_
        rintro e w9 ⟨rfl, m9, hm9, hm9', ho9, hb9⟩
        have hm9e : L.length = (srtL L).length := by omega
        go_wp2
        go_ret
        exact ⟨ad1, c1, by rw [HL.out]; rfl, by rw [HL.out]; exact ho9, hb9 _ HB1.out⟩
end Go.Proofs.YtdepgkpfibmbgaaGreatDoor

/-
  Contract: what a path selects, the program's answer.
-/
namespace Go.Proofs.YtdepgkpfibmbgaaGreatDoor
open Go.RowKit
set_option linter.unusedVariables false
set_option linter.unusedSimpArgs false
def selV (D : Dc) (x : Int) (s : ByteArray) : List Int := if (routeB s && txOk D x) = true then srtL (sel D (st D x.toNat D.n (deepL s.data.toList)) (sg [] (restL s.data.toList))) else []
theorem selV_no {D : Dc} {x : Int} {s : ByteArray} (h : routeB s = false ∨ txOk D x = false) : selV D x s = [] := by
  unfold selV
  rw [if_neg]
  rcases h with h | h <;> rw [h] <;> simp
theorem selV_yes {D : Dc} {x : Int} {s : ByteArray} (h1 : routeB s = true) (h2 : txOk D x = true) : selV D x s = srtL (sel D (st D x.toNat D.n (deepL s.data.toList)) (sg [] (restL s.data.toList))) := by
  unfold selV
  rw [if_pos (by rw [h1, h2]; rfl)]
theorem tx_facts {D : Dc} {x : Int} (h : txOk D x = true) : docokB D = true ∧ D.n ≤ 200 ∧ Good D D.n ∧ 0 ≤ x ∧ x < D.n := by
  have h2 := h
  unfold txOk at h2
  simp only [Bool.and_eq_true, decide_eq_true_eq] at h2
  obtain ⟨hd, ⟨h0, h1⟩, -⟩ := h2
  obtain ⟨⟨g1, g2⟩, -, hsum⟩ := docok_facts hd
  exact ⟨hd, g2, docok_good hd, h0, by omega⟩
theorem selV_len {D : Dc} {x : Int} {s : ByteArray} : (selV D x s).length ≤ 200 := by
  cases h1 : routeB s
  · rw [selV_no (.inl h1)]; exact Nat.zero_le _
  · cases h2 : txOk D x
    · rw [selV_no (.inr h2)]; exact Nat.zero_le _
    · obtain ⟨-, hn, -, h0, hx⟩ := tx_facts h2
      have hs := st_ok (D := D) (x := x.toNat) (n := D.n) (deepL s.data.toList) rfl (by omega)
      have hs2 := sel_ok (sg [] (restL s.data.toList)) _ hs.1 hs.2
      rw [selV_yes h1 h2, srt_len hs2.1]
      have := nodup_len hs2.1 hs2.2
      omega
def SelAns (D : Dc) (x : Int) (s : ByteArray) (w : World) (e : Ending) (w' : World) : Prop := ∃ ad c, e = .returned (.slice ad (selV D x s).length c) ∧ IntR w.heap.size w' ad c (selV D x s) ∧ Below w.heap.size w w'
set_option maxRecDepth 100000 in
set_option maxHeartbeats 4000000 in
theorem i_select (D : Dc) (n : Nat) (a : Option Addr) (cap : Nat) (x : Int) (s : ByteArray) (w : World) (hD : D.n = n) (hz : dcTot D ≤ 1048576) (hs : s.size ≤ 1048576) (hr : DcAt w a D w.heap.size) (hT : Tabs w) (hM : MaxL w) :
    Calls Tryz.prog 9 #[.slice a n cap, .int .i64 x, .string s] w (SelAns D x s w) := by
  have HD := hide hD
  have HR := hide hr
  have C := hide (i_route s w hs hM)
  have CH := hide (fun (W : World) (hb : Below w.heap.size w W) => i_hasElement D n a cap x W hD hz (dcAt_up (dcAt_go hr hb) hb.size) (tabs_below hT hb))
  clear hr hD hz hT hM
  cases hrt : routeB s
  · have HV := hide (selV_no (D := D) (x := x) (.inl hrt))
    have HRT := hide hrt
    clear hrt
    go_enter Tryz.func9, Tryz.ntmps9
    go_wp2_with fail
    refine C.out.mono ?_
    rintro e w2 ⟨hb, ⟨h, -⟩ | ⟨-, rfl⟩⟩
    · exact absurd (HRT.out.symm.trans h) (by decide)
    have HB := hide hb
    clear hb
    go_wp2
    go_ret
    refine ⟨none, 0, ?_, ?_, HB.out.alloc HB.out.size _⟩
    · rw [HV.out]; rfl
    · rw [HV.out]; exact intR_nil _ _
  · have HRT := hide hrt
    clear hrt
    go_enter Tryz.func9, Tryz.ntmps9
    go_wp2_with fail
    refine C.out.mono ?_
    rintro e w2 ⟨hb, ⟨-, ad, c, rfl, ho⟩ | ⟨h, -⟩⟩
    rotate_left
    · exact absurd (HRT.out.symm.trans h) (by decide)
    obtain ⟨d, hd⟩ : ∃ d, deepL s.data.toList = d := ⟨_, rfl⟩
    obtain ⟨ps, hps⟩ : ∃ ps, sg [] (restL s.data.toList) = ps := ⟨_, rfl⟩
    obtain ⟨m, hm⟩ : ∃ m, cntN (restL s.data.toList) = m := ⟨_, rfl⟩
    rw [hd, hm]
    rw [hm, hps] at ho
    have HB := hide hb
    have HK := hide (cellsAt_new w2 #[.bool d, .slice ad m c] 56)
    have HO := hide (World.ownsRow.alloc ho (.cells #[.bool d, .slice ad m c] 56))
    have HBA := hide (hb.alloc hb.size (.cells #[.bool d, .slice ad m c] 56))
    have hgl : w2.heap.size < (w2.alloc (.cells #[.bool d, .slice ad m c] 56)).heap.size := by simp
    obtain ⟨w3, hw3⟩ : ∃ w3, w2.alloc (.cells #[.bool d, .slice ad m c] 56) = w3 := ⟨_, rfl⟩
    rw [hw3] at HK HO HBA hgl
    have HDD := hide hd
    have HPP := hide hps
    have HPL : Hid (ps.length = m) := hide (by rw [← hps]; exact hm)
    have hm6 : m ≤ 6 := by
      have := HRT.out
      unfold routeB at this
      simp only [Bool.and_eq_true, decide_eq_true_eq] at this
      omega
    clear hb ho hd hps hm
    go_wp2_with fail
    refine (CH.out _ HBA.out).mono ?_
    rintro e w4 ⟨rfl, hb4⟩
    have HB4 := hide hb4
    have HK4 := hide (cellsAt_go HK.out hb4 hgl)
    have HO4 := hide (gOwn_after HO.out hb4)
    have HBB := hide (low_trans HBA.out hb4 HBA.out.size)
    clear hb4
    cases hh : txOk D x
    · have HV := hide (selV_no (D := D) (x := x) (s := s) (.inr hh))
      clear hh
      go_wp2
      go_ret
      refine ⟨none, 0, ?_, ?_, HBB.out⟩
      · rw [HV.out]; rfl
      · rw [HV.out]; exact intR_nil _ _
    · obtain ⟨-, g2, hG, h0, h1⟩ := tx_facts hh
      have HV := hide (selV_yes HRT.out hh)
      rw [HD.out] at g2 hG h1 HV
      rw [HDD.out, HPP.out] at HV
      obtain ⟨b, off, rfl, hbs, hrow⟩ := HR.out (by rw [HD.out]; omega)
      have hx' : x = (x.toNat : Int) := by omega
      have CF : Hid (Calls Tryz.prog 30 #[.agg #[.bool d, .slice ad m c], .slice (some ⟨b, off, none⟩) n cap, .int .i64 x] w4 fun e w' => ∃ ad2 c2, e = .returned (.slice ad2 (srtL (sel D (st D x.toNat n d) ps)).length c2) ∧ IntR w4.heap.size w' ad2 c2 (srtL (sel D (st D x.toNat n d) ps)) ∧ Below w4.heap.size w4 w') := hide (by
        have h := i_from D n b off cap w4 x.toNat d ad m c ps w.heap.size HD.out g2 (by omega) (Nat.lt_of_lt_of_le hbs HBB.out.size) (dcRow_up (dcRow_go hrow hbs HBB.out) HBB.out.size) hG HPL.out (by omega) HO4.out
        rw [← hx'] at h
        exact h)
      rw [← HV.out] at CF
      have a0 := cellsAt_cell HK4.out 0
      have a1 := cellsAt_cell HK4.out 1
      clear hrow hh hx' hG HV
      go_wp2_with fail
      refine CF.out.mono ?_
      rintro e w5 ⟨ad5, c5, rfl, ho5, hb5⟩
      have HO5 := hide (intR_low ho5 HBB.out.size)
      have HB5 := hide (low_trans HBB.out hb5 HBB.out.size)
      clear ho5 hb5
      go_wp2
      go_ret
      exact ⟨ad5, c5, rfl, HO5.out, HB5.out⟩
end Go.Proofs.YtdepgkpfibmbgaaGreatDoor
