/-
  Texts put together: SelF, WhM, WhR.
-/
import Derived.Test.YtdepgkpfibmbgaaGreatDoorF25
import Derived.Test.YtdepgkpfibmbgaaGreatDoorF6
import Derived.Test.YtdepgkpfibmbgaaGreatDoorF1
import Derived.Lib.FieldsP
import Derived.Lib.SpaceUEq
import Derived.Lib.Join
import Derived.Test.YtdepgkpfibmbgaaGreatDoorChecked
import Derived.WalkKit
import Derived.WalkLawsBesides
import Derived.Below
import Derived.OwnWalk
import Derived.Laws.OwnMore
import Derived.Deep.AppendLies
import Derived.Deep.QuietTactic
import Derived.Deep.Draws
import Derived.KernelRfl
/-
  Contracts: what a path selects, the program's.
-/
namespace Go.Proofs.YtdepgkpfibmbgaaGreatDoor
open Go.RowKit
set_option linter.unusedVariables false
set_option linter.unusedSimpArgs false
/-- Where a path begins: at the element, or at it and all below it. -/
def st (D : Dc) (x n : Nat) (dp : Bool) : List Int := if dp = true then (x : Int) :: el D x n else [(x : Int)]
theorem st_ok {D : Dc} {x n : Nat} (dp : Bool) (hD : D.n = n) (hx : x < n) : (st D x n dp).Nodup ∧ InR D (st D x n dp) := by
  unfold st
  split
  · refine ⟨List.nodup_cons.2 ⟨fun h => ?_, el_nodup n⟩, fun j hj => ?_⟩
    · have := el_mem n _ h; omega
    · rcases List.mem_cons.1 hj with rfl | hj
      · rw [hD]; omega
      · have := el_mem n j hj; rw [hD]; omega
  · refine ⟨by simp, fun j hj => ?_⟩
    simp at hj
    rw [hD]
    omega
theorem nodup_take {L : List Int} (h : L.Nodup) (k : Nat) : (L.take k).Nodup := h.sublist (List.take_sublist k L)
theorem step_take {D : Dc} {L : List Int} {nm : List UInt8} {j : Nat} (h : j < L.length) : stepS D (L.take (j + 1)) nm = stepS D (L.take j) nm ++ kn D (L[j]?.getD 0) nm := by
  unfold stepS
  rw [List.take_succ_eq_append_getElem h, List.flatMap_append, List.getElem?_eq_getElem h]
  simp
theorem names_at {w : World} {B : Nat} {ad : Option Addr} {m c : Nat} {ps : List (List UInt8)} (hps : ps.length = m) (h : w.ownsRow B 9 1 (.slice ad m c) m (strV ps)) : ∀ k, k < m → ∃ g, ad = some ⟨g, 0, none⟩ ∧ g < w.heap.size ∧ w.cell? ⟨g, k, none⟩ = some (.string ⟨(ps[k]?.getD []).toArray⟩) := by
  intro k hk
  obtain ⟨g, cap, e, hB, hl⟩ := h.form (by omega)
  simp only [Value.slice.injEq] at e
  obtain ⟨rfl, -, rfl⟩ := e
  exact ⟨g, rfl, (h.lt g rfl).2, by rw [h.cellAt k (by omega)]; exact strV_get _ _ (by omega)⟩
/-- While a path is gone: what stands in the row. -/
theorem low_trans {B : Nat} {w wr w2 : World} (h : Below B w wr) (h2 : Below wr.heap.size wr w2) (hB : B ≤ wr.heap.size) : Below B w w2 := h.trans (h2.mono hB)
set_option maxRecDepth 100000 in
set_option maxHeartbeats 4000000 in
theorem i_from (D : Dc) (n b off cap : Nat) (w : World) (x : Nat) (dp : Bool) (ad : Option Addr) (m c : Nat) (ps : List (List UInt8)) (B0 : Nat) (hD : D.n = n) (hn : n ≤ 200) (hx : x < n) (hbs : b < w.heap.size) (hr : DcRow w b off D w.heap.size) (hg : Good D n) (hps : ps.length = m) (hm : m ≤ 1000) (hN : w.ownsRow B0 9 1 (.slice ad m c) m (strV ps)) :
    Calls Tryz.prog 30 #[.agg #[.bool dp, .slice ad m c], .slice (some ⟨b, off, none⟩) n cap, .int .i64 x] w fun e w' => ∃ ad2 c2, e = .returned (.slice ad2 (srtL (sel D (st D x n dp) ps)).length c2) ∧ IntR w.heap.size w' ad2 c2 (srtL (sel D (st D x n dp) ps)) ∧ Below w.heap.size w w' := by
  obtain ⟨i0, hi, hz0, hz1, hz2⟩ := info_parts info64
  have HOK := hide (st_ok dp hD hx)
  have HN := hide (names_at hps hN)
  have HPS := hide hps
  have HD := hide hD
  have HR := hide hr
  have HG := hide hg
  obtain ⟨bx, hbx⟩ : ∃ bx, w.alloc (.cells #[.bool dp, .slice ad m c] 56) = bx := ⟨_, rfl⟩
  obtain ⟨wb, hwb⟩ : ∃ wb, bx.alloc (.cells #[.int .i64 (x : Int)] 2) = wb := ⟨_, rfl⟩
  have hbb : Below w.heap.size w wb := by rw [← hwb, ← hbx]; exact ((Below.refl _ _).alloc (Nat.le_refl _) _).alloc (by simp) _
  have hkb : CellsAt wb w.heap.size #[.bool dp, .slice ad m c] := by
    rw [← hwb]
    refine cellsAt_go (B := bx.heap.size) (by rw [← hbx]; exact cellsAt_new w _ _) ((Below.refl _ _).alloc (Nat.le_refl _) _) (by rw [← hbx]; simp)
  have hrb : IntR w.heap.size wb (some ⟨bx.heap.size, 0, none⟩) 1 [(x : Int)] := by
    rw [← hwb]
    exact ⟨rfl, .inr ⟨bx.heap.size, 1, #[.int .i64 (x : Int)], rfl, by rw [← hbx]; simp, heap_alloc_new bx _, Nat.le_refl _, by unfold maxLen; omega, rfl, rfl⟩⟩
  have HBB := hide hbb
  have HKB := hide hkb
  have HRB := hide hrb
  have hbl : b < wb.heap.size := Nat.lt_of_lt_of_le hbs hbb.size
  have CE := hide (i_elementsFrom D n b off cap wb x hD hn hx hbl (dcRow_up (dcRow_go hr hbs hbb) hbb.size) hg)
  have a0 := cellsAt_cell hkb 0
  have a1 := cellsAt_cell hkb 1
  clear hr hD hg hps hN hbb hkb hrb
  cases dp
  · have hst : st D x n false = [(x : Int)] := rfl
    have HRA := hide (show IntR w.heap.size wb (some ⟨bx.heap.size, 0, none⟩) 1 (sel D (st D x n false) []) from HRB.out)
    have HBA := HBB
    have HST := hide (show Value.slice (some ⟨bx.heap.size, 0, none⟩) 1 1 = .slice (some ⟨bx.heap.size, 0, none⟩) (sel D (st D x n false) []).length 1 from rfl)
    obtain ⟨L0, hL0⟩ : ∃ L0, st D x n false = L0 := ⟨_, rfl⟩
    rw [hL0] at HOK HRA HST ⊢
    clear hst hL0 CE HRB
    go_enter Tryz.func30, Tryz.ntmps30
    go_wp2
    go_loopw [7, 23] (fun hv iv wr => ∃ (k : Nat) (ad1 : Option Addr) (c1 : Nat), k ≤ m ∧ iv = .int .i64 k ∧ hv = .slice ad1 (sel D L0 (ps.take k)).length c1 ∧ IntR w.heap.size wr ad1 c1 (sel D L0 (ps.take k)) ∧ Below w.heap.size w wr) (fun _ iv _ => m - (intOf iv).toNat)
    case atStart => exact ⟨0, _, _, Nat.zero_le _, rfl, by rw [List.take_zero]; exact HST.out, by rw [List.take_zero]; exact HRA.out, HBA.out⟩
    case round =>
      obtain ⟨k, ad1, c1, hk, rfl, rfl, ho, hb⟩ := hrel
      have HO1 := hide ho
      have HB1 := hide hb
      have hsz : w.heap.size ≤ wr.heap.size := hb.size
      have hsel := sel_ok (ps.take k) L0 HOK.out.1 HOK.out.2
      have hsl : (sel D L0 (ps.take k)).length ≤ n := by have := nodup_len hsel.1 hsel.2; rw [HD.out] at this; exact this
      by_cases hlt : k < m
      · obtain ⟨g, rfl, hgl, hcn⟩ := HN.out k hlt
        obtain ⟨wo, hwo⟩ : ∃ wo, wo = wr := ⟨_, rfl⟩
        subst hwo
        have n0 := (hb.cell (p := ⟨g, k, none⟩) hgl).trans hcn
        have HSK := hide (sel_take (D := D) (L := L0) (ps := ps) (k := k) (by rw [HPS.out]; exact hlt))
        have HSE := hide hsel
        have HRW := hide (own_rowAt' rfl ho)
        obtain ⟨L, hL⟩ : ∃ L, sel D L0 (ps.take k) = L := ⟨_, rfl⟩
        rw [hL] at HSE HRW HO1 hsl HSK ⊢
        obtain ⟨nm, hnm⟩ : ∃ nm, ps[k]?.getD [] = nm := ⟨_, rfl⟩
        rw [hnm] at HSK n0
        have hki : (k : Int) < (m : Int) := by omega
        clear hL hnm hcn ho hb hsel
        go_wp2
        go_loopw [10, 29] (fun tv jv wq => ∃ (j : Nat) (ad2 : Option Addr) (c2 : Nat), j ≤ L.length ∧ jv = .int .i64 j ∧ tv = .slice ad2 (stepS D (L.take j) nm).length c2 ∧ IntR wo.heap.size wq ad2 c2 (stepS D (L.take j) nm) ∧ Below wo.heap.size wo wq) (fun _ jv _ => L.length - (intOf jv).toNat)
        case atStart => exact ⟨0, none, 0, Nat.zero_le _, rfl, rfl, intR_nil _ _, Below.refl _ _⟩
        case round =>
          obtain ⟨j, ad2, c2, hj, rfl, rfl, ho, hb⟩ := hrel
          have HO := hide ho
          have HB := hide hb
          have hsz2 : wo.heap.size ≤ wr.heap.size := hb.size
          by_cases hjl : j < L.length
          · obtain ⟨b9, off9, rfl, hb9, hc9⟩ := HRW.out (fun h => by rw [h] at hjl; exact absurd hjl (Nat.not_lt_zero _))
            have k0 := (hb.cell (p := ⟨b9, off9 + j, none⟩) hb9).trans (hc9 j hjl)
            have HKT := hide (step_take (D := D) (L := L) (nm := nm) hjl)
            have hTn := nodup_len (step_nodup (D := D) (nm := nm) (nodup_take HSE.out.1 j)) step_in
            have hTn2 := nodup_len (step_nodup (D := D) (nm := nm) (nodup_take HSE.out.1 (j + 1))) step_in
            have hvm := HSE.out.2 (L[j]?.getD 0) (by rw [List.getElem?_eq_getElem hjl]; exact List.getElem_mem hjl)
            obtain ⟨y, hy⟩ : ∃ y : Nat, L[j]?.getD 0 = (y : Int) := ⟨(L[j]?.getD 0).toNat, by omega⟩
            rw [hy] at k0 HKT hvm
            rw [HD.out] at hvm hTn hTn2
            have hyn : y < n := by omega
            have hwb2 : Below w.heap.size w wr := low_trans HB1.out hb hsz
            have CK := hide (i_kidsNamed D n b off cap wr y ⟨nm.toArray⟩ HD.out hn hyn (Nat.lt_of_lt_of_le hbs hwb2.size) (dcRow_up (dcRow_go HR.out hbs hwb2) hwb2.size) HG.out)
            have enm : (⟨nm.toArray⟩ : ByteArray).data.toList = nm := by simp
            rw [enm] at CK
            rw [HKT.out] at hTn2
            obtain ⟨T, hT⟩ : ∃ T, stepS D (L.take j) nm = T := ⟨_, rfl⟩
            obtain ⟨KN, hKN⟩ : ∃ KN, kn D (y : Int) nm = KN := ⟨_, rfl⟩
            rw [hT, hKN, List.length_append] at hTn2
            rw [hT] at HO HKT hTn ⊢
            rw [hKN] at HKT CK
            have hji : (j : Int) < (L.length : Int) := by omega
            clear hc9 hy hvm hT hKN ho hb hwb2 enm
            go_wp2_with (first
              | (go_at_call 58; refine CK.out.mono ?_; rintro e w4 ⟨ad4, c4, rfl, ho4, hb4⟩; have HO4 := hide ho4; have HB4 := hide hb4; have hs4 : wr.heap.size ≤ w4.heap.size := hb4.size; have HT4 := hide (gOwn_after HO.out hb4); clear ho4 hb4)
              | (at_builtin; refine wpList_append_src (by rfl) (.tmp 33) (.tmp 37) 33 (by rfl) wo.heap.size 2 i0 (.int .i64 0) 1 8 Tryz.underlying33 hi hz0 hz1 hz2 rfl (by decide) (.slice ad2 T.length c2) T.length (T.map (Value.int .i64)) (by rfl) HT4.out ad4 KN.length c4 (KN.map (Value.int .i64)) (by rfl) (by rw [List.length_map, Nat.mul_one]) (fun hp => by obtain ⟨b8, o8, e8, -, h8⟩ := own_rowAt' rfl HO4.out (fun h => by rw [h] at hp; exact absurd hp (Nat.lt_irrefl _)); exact ⟨_, e8, row_src h8⟩) (ints_one _) (by unfold maxLen; omega) (by omega) (by omega) ?_; intro a9 c9 w9 hown9 hgr9; have HB9 := hide ((low_trans HB.out HB4.out hsz2).grown hgr9 (Nat.le_trans hsz2 hs4) (fun k hk => (HT4.out.lt k hk).1)); have HO9 := hide hown9; clear hown9 hgr9)
              | fail)
            go_roundw
            case rel =>
              refine ⟨j + 1, a9, c9, by omega, by go_num, by rw [HKT.out, List.length_append], ?_, HB9.out⟩
              rw [HKT.out]
              unfold IntR
              rw [List.length_append, List.map_append]
              exact HO9.out
            case measure => simp [intOf]; omega
          · have hjn : j = L.length := by omega
            subst hjn
            have e : L.take L.length = L := List.take_length
            rw [e] at HO ⊢
            clear ho hb e
            go_wp2
            go_roundw
            case rel => exact ⟨k + 1, ad2, c2, by omega, by go_num, by rw [HSK.out], by rw [HSK.out]; exact intR_low HO.out hsz, low_trans HB1.out HB.out hsz⟩
            case measure => simp [intOf]; omega
      · have hkm : k = m := by omega
        subst hkm
        have e : ps.take k = ps := by rw [← HPS.out]; exact List.take_length
        rw [e] at ho hsel hsl ⊢
        have CS := hide (i_sort w.heap.size ad1 c1 _ wr ho (by omega) hsel.1)
        obtain ⟨L, hL⟩ : ∃ L, sel D L0 ps = L := ⟨_, rfl⟩
        rw [hL] at CS ⊢
        have HL := hide hL
        clear ho hb hsel e hL
        go_wp2_with fail
        refine CS.out.mono ?_
        rintro e w9 ⟨rfl, m9, hm9, hm9', ho9, hb9⟩
        have hm9e : L.length = (srtL L).length := by omega
        go_wp2
        go_ret
        exact ⟨ad1, c1, by rw [HL.out]; rfl, by rw [HL.out]; exact ho9, hb9 _ HB1.out⟩
  · have hst : st D x n true = (x : Int) :: el D x n := rfl
    rw [← hst] at CE
    obtain ⟨L0, hL0⟩ : ∃ L0, st D x n true = L0 := ⟨_, rfl⟩
    rw [hL0] at HOK CE ⊢
    clear hst hL0 HRB
    go_enter Tryz.func30, Tryz.ntmps30
    go_wp2_with fail
    refine CE.out.mono ?_
    rintro e w3 ⟨ad3, c3, rfl, ho3, hb3⟩
    have b1 := (hb3.cell (p := ⟨w.heap.size, 1, none⟩) (cellsAt_lt HKB.out)).trans a1
    have HRA := hide (show IntR w.heap.size w3 ad3 c3 (sel D L0 []) from intR_low ho3 HBB.out.size)
    have HBA := hide (low_trans HBB.out hb3 HBB.out.size)
    have HST := hide (show Value.slice ad3 L0.length c3 = .slice ad3 (sel D L0 []).length c3 from rfl)
    clear ho3 hb3 CE
    go_wp2
    go_loopw [7, 23] (fun hv iv wr => ∃ (k : Nat) (ad1 : Option Addr) (c1 : Nat), k ≤ m ∧ iv = .int .i64 k ∧ hv = .slice ad1 (sel D L0 (ps.take k)).length c1 ∧ IntR w.heap.size wr ad1 c1 (sel D L0 (ps.take k)) ∧ Below w.heap.size w wr) (fun _ iv _ => m - (intOf iv).toNat)
    case atStart => exact ⟨0, _, _, Nat.zero_le _, rfl, by rw [List.take_zero]; exact HST.out, by rw [List.take_zero]; exact HRA.out, HBA.out⟩
    case round =>
      obtain ⟨k, ad1, c1, hk, rfl, rfl, ho, hb⟩ := hrel
      have HO1 := hide ho
      have HB1 := hide hb
      have hsz : w.heap.size ≤ wr.heap.size := hb.size
      have hsel := sel_ok (ps.take k) L0 HOK.out.1 HOK.out.2
      have hsl : (sel D L0 (ps.take k)).length ≤ n := by have := nodup_len hsel.1 hsel.2; rw [HD.out] at this; exact this
      by_cases hlt : k < m
      · obtain ⟨g, rfl, hgl, hcn⟩ := HN.out k hlt
        obtain ⟨wo, hwo⟩ : ∃ wo, wo = wr := ⟨_, rfl⟩
        subst hwo
        have n0 := (hb.cell (p := ⟨g, k, none⟩) hgl).trans hcn
        have HSK := hide (sel_take (D := D) (L := L0) (ps := ps) (k := k) (by rw [HPS.out]; exact hlt))
        have HSE := hide hsel
        have HRW := hide (own_rowAt' rfl ho)
        obtain ⟨L, hL⟩ : ∃ L, sel D L0 (ps.take k) = L := ⟨_, rfl⟩
        rw [hL] at HSE HRW HO1 hsl HSK ⊢
        obtain ⟨nm, hnm⟩ : ∃ nm, ps[k]?.getD [] = nm := ⟨_, rfl⟩
        rw [hnm] at HSK n0
        have hki : (k : Int) < (m : Int) := by omega
        clear hL hnm hcn ho hb hsel
        go_wp2
        go_loopw [10, 29] (fun tv jv wq => ∃ (j : Nat) (ad2 : Option Addr) (c2 : Nat), j ≤ L.length ∧ jv = .int .i64 j ∧ tv = .slice ad2 (stepS D (L.take j) nm).length c2 ∧ IntR wo.heap.size wq ad2 c2 (stepS D (L.take j) nm) ∧ Below wo.heap.size wo wq) (fun _ jv _ => L.length - (intOf jv).toNat)
        case atStart => exact ⟨0, none, 0, Nat.zero_le _, rfl, rfl, intR_nil _ _, Below.refl _ _⟩
        case round =>
          obtain ⟨j, ad2, c2, hj, rfl, rfl, ho, hb⟩ := hrel
          have HO := hide ho
          have HB := hide hb
          have hsz2 : wo.heap.size ≤ wr.heap.size := hb.size
          by_cases hjl : j < L.length
          · obtain ⟨b9, off9, rfl, hb9, hc9⟩ := HRW.out (fun h => by rw [h] at hjl; exact absurd hjl (Nat.not_lt_zero _))
            have k0 := (hb.cell (p := ⟨b9, off9 + j, none⟩) hb9).trans (hc9 j hjl)
            have HKT := hide (step_take (D := D) (L := L) (nm := nm) hjl)
            have hTn := nodup_len (step_nodup (D := D) (nm := nm) (nodup_take HSE.out.1 j)) step_in
            have hTn2 := nodup_len (step_nodup (D := D) (nm := nm) (nodup_take HSE.out.1 (j + 1))) step_in
            have hvm := HSE.out.2 (L[j]?.getD 0) (by rw [List.getElem?_eq_getElem hjl]; exact List.getElem_mem hjl)
            obtain ⟨y, hy⟩ : ∃ y : Nat, L[j]?.getD 0 = (y : Int) := ⟨(L[j]?.getD 0).toNat, by omega⟩
            rw [hy] at k0 HKT hvm
            rw [HD.out] at hvm hTn hTn2
            have hyn : y < n := by omega
            have hwb2 : Below w.heap.size w wr := low_trans HB1.out hb hsz
            have CK := hide (i_kidsNamed D n b off cap wr y ⟨nm.toArray⟩ HD.out hn hyn (Nat.lt_of_lt_of_le hbs hwb2.size) (dcRow_up (dcRow_go HR.out hbs hwb2) hwb2.size) HG.out)
            have enm : (⟨nm.toArray⟩ : ByteArray).data.toList = nm := by simp
            rw [enm] at CK
            rw [HKT.out] at hTn2
            obtain ⟨T, hT⟩ : ∃ T, stepS D (L.take j) nm = T := ⟨_, rfl⟩
            obtain ⟨KN, hKN⟩ : ∃ KN, kn D (y : Int) nm = KN := ⟨_, rfl⟩
            rw [hT, hKN, List.length_append] at hTn2
            rw [hT] at HO HKT hTn ⊢
            rw [hKN] at HKT CK
            have hji : (j : Int) < (L.length : Int) := by omega
            clear hc9 hy hvm hT hKN ho hb hwb2 enm
            go_wp2_with (first
              | (go_at_call 58; refine CK.out.mono ?_; rintro e w4 ⟨ad4, c4, rfl, ho4, hb4⟩; have HO4 := hide ho4; have HB4 := hide hb4; have hs4 : wr.heap.size ≤ w4.heap.size := hb4.size; have HT4 := hide (gOwn_after HO.out hb4); clear ho4 hb4)
              | (at_builtin; refine wpList_append_src (by rfl) (.tmp 33) (.tmp 37) 33 (by rfl) wo.heap.size 2 i0 (.int .i64 0) 1 8 Tryz.underlying33 hi hz0 hz1 hz2 rfl (by decide) (.slice ad2 T.length c2) T.length (T.map (Value.int .i64)) (by rfl) HT4.out ad4 KN.length c4 (KN.map (Value.int .i64)) (by rfl) (by rw [List.length_map, Nat.mul_one]) (fun hp => by obtain ⟨b8, o8, e8, -, h8⟩ := own_rowAt' rfl HO4.out (fun h => by rw [h] at hp; exact absurd hp (Nat.lt_irrefl _)); exact ⟨_, e8, row_src h8⟩) (ints_one _) (by unfold maxLen; omega) (by omega) (by omega) ?_; intro a9 c9 w9 hown9 hgr9; have HB9 := hide ((low_trans HB.out HB4.out hsz2).grown hgr9 (Nat.le_trans hsz2 hs4) (fun k hk => (HT4.out.lt k hk).1)); have HO9 := hide hown9; clear hown9 hgr9)
              | fail)
            go_roundw
            case rel =>
              refine ⟨j + 1, a9, c9, by omega, by go_num, by rw [HKT.out, List.length_append], ?_, HB9.out⟩
              rw [HKT.out]
              unfold IntR
              rw [List.length_append, List.map_append]
              exact HO9.out
            case measure => simp [intOf]; omega
          · have hjn : j = L.length := by omega
            subst hjn
            have e : L.take L.length = L := List.take_length
            rw [e] at HO ⊢
            clear ho hb e
            go_wp2
            go_roundw
            case rel => exact ⟨k + 1, ad2, c2, by omega, by go_num, by rw [HSK.out], by rw [HSK.out]; exact intR_low HO.out hsz, low_trans HB1.out HB.out hsz⟩
            case measure => simp [intOf]; omega
      · have hkm : k = m := by omega
        subst hkm
        have e : ps.take k = ps := by rw [← HPS.out]; exact List.take_length
        rw [e] at ho hsel hsl ⊢
        have CS := hide (i_sort w.heap.size ad1 c1 _ wr ho (by omega) hsel.1)
        obtain ⟨L, hL⟩ : ∃ L, sel D L0 ps = L := ⟨_, rfl⟩
        rw [hL] at CS ⊢
        have HL := hide hL
        clear ho hb hsel e hL
        go_wp2_with fail
        refine CS.out.mono ?_
        rintro e w9 ⟨rfl, m9, hm9, hm9', ho9, hb9⟩
        have hm9e : L.length = (srtL L).length := by omega
        go_wp2
        go_ret
        exact ⟨ad1, c1, by rw [HL.out]; rfl, by rw [HL.out]; exact ho9, hb9 _ HB1.out⟩
end Go.Proofs.YtdepgkpfibmbgaaGreatDoor

/-
  Plain facts on blanks: the words between them, byte by byte and rune by rune; blanks made one kind.
-/
namespace Go.Proofs.YtdepgkpfibmbgaaGreatDoor
set_option linter.unusedVariables false
set_option linter.unusedSimpArgs false
/-- The four blanks. -/
def blB (c : UInt8) : Bool := c == 32 || c == 9 || c == 10 || c == 13
def blR (x : Nat) : Bool := x == 32 || x == 9 || x == 10 || x == 13
/-- Blanks of one kind. -/
def reB (l : List UInt8) : List UInt8 := l.map fun c => if blB c = true then 32 else c
/-- The words, the one that has begun ahead. -/
def wdB : List UInt8 → List UInt8 → List (List UInt8)
  | w, [] => if w = [] then [] else [w]
  | w, c :: l => if blB c = true then (if w = [] then wdB [] l else w :: wdB [] l) else wdB (w ++ [c]) l
theorem wd_run : ∀ (xs w r : List UInt8), (∀ c ∈ xs, blB c = false) → wdB w (xs ++ r) = wdB (w ++ xs) r
  | [], w, r, _ => by simp
  | c :: xs, w, r, h => by
    have h0 := h c (List.mem_cons_self ..)
    rw [List.cons_append, wdB, if_neg (by rw [h0]; simp), wd_run xs (w ++ [c]) r (fun d hd => h d (List.mem_cons_of_mem _ hd))]
    simp
theorem blB_hi {c : UInt8} (h : 128 ≤ c.toNat) : blB c = false := by
  unfold blB
  have : ∀ d : UInt8, d.toNat < 128 → c ≠ d := fun d hd e => by rw [e] at h; omega
  simp [this 32 (by decide), this 9 (by decide), this 10 (by decide), this 13 (by decide)]
theorem blR_B (c : UInt8) : blR c.toNat = blB c := by
  have e : ∀ d : UInt8, (c.toNat == d.toNat) = (c == d) := fun d => by
    by_cases h : c = d
    · subst h; rw [beq_self_eq_true, beq_self_eq_true]
    · have h2 : c.toNat ≠ d.toNat := fun e => h (UInt8.toNat_inj.1 e)
      rw [beq_eq_false_iff_ne.2 h2, beq_eq_false_iff_ne.2 h]
  unfold blR blB
  rw [← e 32, ← e 9, ← e 10, ← e 13]
  rfl
theorem get_at (s : ByteArray) (j : Nat) (h : j < s.size) : s.data.toList[j]? = some (s.get! j) := by
  rw [List.getElem?_eq_getElem (by simpa using h)]
  congr 1
  simp [ByteArray.get!, getElem!_pos, h]
/-- The bytes of a rune that is no blank. -/
theorem dec_step (s : ByteArray) (pos : Nat) (h : pos < s.size) : (blR (Utf8.decode s pos).1 = true ∧ (Utf8.decode s pos).2 = 1 ∧ blB (s.get! pos) = true) ∨
    (blR (Utf8.decode s pos).1 = false ∧ 1 ≤ (Utf8.decode s pos).2 ∧ pos + (Utf8.decode s pos).2 ≤ s.size ∧ ∀ j, pos ≤ j → j < pos + (Utf8.decode s pos).2 → blB (s.get! j) = false) := by
  rw [Lib.decode_at]
  have hc := Lib.decodeN_conts (s.size - pos) (s.get! pos).toNat (s.get! (pos + 1)).toNat (s.get! (pos + 2)).toNat (s.get! (pos + 3)).toNat
  by_cases h0 : (s.get! pos).toNat < 128
  · have e : Lib.decodeN (s.size - pos) (s.get! pos).toNat (s.get! (pos + 1)).toNat (s.get! (pos + 2)).toNat (s.get! (pos + 3)).toNat = ((s.get! pos).toNat, 1) := by
      unfold Lib.decodeN
      rw [if_pos h0]
    rw [e]
    simp only
    rw [blR_B]
    cases hb : blB (s.get! pos)
    · refine .inr ⟨rfl, Nat.le_refl _, by omega, fun j h1 h2 => ?_⟩
      have : j = pos := by omega
      rw [this]; exact hb
    · exact .inl ⟨by first | rfl | trivial, by first | rfl | trivial, by first | rfl | trivial⟩
  · right
    have hle := Lib.decodeN_le_n' (s.size - pos) (s.get! pos).toNat (s.get! (pos + 1)).toNat (s.get! (pos + 2)).toNat (s.get! (pos + 3)).toNat (by omega)
    have hge := Lib.decodeN_ge1 (s.size - pos) (s.get! pos).toNat (s.get! (pos + 1)).toNat (s.get! (pos + 2)).toNat (s.get! (pos + 3)).toNat
    have hru : 128 ≤ (Lib.decodeN (s.size - pos) (s.get! pos).toNat (s.get! (pos + 1)).toNat (s.get! (pos + 2)).toNat (s.get! (pos + 3)).toNat).1 := by
      rcases Lib.decodeN_cases (s.size - pos) (s.get! pos).toNat (s.get! (pos + 1)).toNat (s.get! (pos + 2)).toNat (s.get! (pos + 3)).toNat with ⟨h1, -⟩ | ⟨-, -, -, h1, e⟩ | ⟨-, -, -, -, h1, e⟩ | ⟨h1, -⟩ | e
      · omega
      · rw [e]; exact h1
      · rw [e]; simp only; omega
      · omega
      · rw [e]; decide
    generalize hd : Lib.decodeN (s.size - pos) (s.get! pos).toNat (s.get! (pos + 1)).toNat (s.get! (pos + 2)).toNat (s.get! (pos + 3)).toNat = d at hc hle hge hru
    obtain ⟨c1, c2, c3, c4⟩ := hc
    refine ⟨?_, hge, by omega, fun j h1 h2 => blB_hi ?_⟩
    · unfold blR
      have : ∀ m : Nat, m < 128 → (d.1 == m) = false := fun m hm => by simp; omega
      rw [this 32 (by omega), this 9 (by omega), this 10 (by omega), this 13 (by omega)]
      rfl
    · rcases (show j = pos ∨ j = pos + 1 ∨ j = pos + 2 ∨ j = pos + 3 by omega) with e | e | e | e
      · rw [e]; omega
      · have := c1 (by omega); rw [e]; omega
      · have := c2 (by omega); rw [e]; omega
      · have := c3 (by omega); rw [e]; omega
theorem ext_list (s : ByteArray) (a b : Nat) : (s.extract a b).data.toList = (s.data.toList.take b).drop a := by
  rw [ByteArray.data_extract, Array.toList_extract]
  simp [List.extract_eq_take_drop, List.drop_take]
/-- The word that has begun. -/
def curW (s : ByteArray) (st : Option Nat) (pos : Nat) : List UInt8 := match st with
  | some a => (s.data.toList.take pos).drop a
  | none => []
def exL (s : ByteArray) (x : Nat × Nat) : List UInt8 := (s.extract x.1 x.2).data.toList
theorem cur_more {s : ByteArray} {a pos k : Nat} (ha : a ≤ pos) (hk : pos + k ≤ s.size) : (s.data.toList.take (pos + k)).drop a = (s.data.toList.take pos).drop a ++ (s.data.toList.drop pos).take k := by
  rw [List.take_add, List.drop_append_of_le_length (by simp; omega)]
theorem fields_wd (s : ByteArray) : ∀ (f pos : Nat) (st : Option Nat) (acc : List (Nat × Nat)), s.size ≤ pos + f → pos ≤ s.size → (∀ a, st = some a → a < pos) →
    (Lib.closeSpans s (Lib.spansFromP blR s f pos st acc)).map (exL s) = acc.map (exL s) ++ wdB (curW s st pos) (s.data.toList.drop pos)
  | f, pos, st, acc, hf, hp, hs => by
    by_cases hlt : pos < s.size
    · obtain ⟨f', rfl⟩ : ∃ f', f = f' + 1 := ⟨f - 1, by omega⟩
      have hcur : curW s st pos = [] ↔ st = none := by
        cases st with
        | none => simp [curW]
        | some a =>
          have := hs a rfl
          simp only [curW, reduceCtorEq, iff_false]
          intro e
          have e2 := congrArg List.length e
          simp at e2
          omega
      rcases dec_step s pos hlt with ⟨h1, h2, h3⟩ | ⟨h1, h2, h3, h4⟩
      · have hd : s.data.toList.drop pos = s.get! pos :: s.data.toList.drop (pos + 1) := by
          rw [List.drop_eq_getElem_cons (by simpa using hlt)]
          congr 1
          have := get_at s pos hlt
          rw [List.getElem?_eq_getElem (by simpa using hlt)] at this
          exact Option.some.inj this
        rw [hd, wdB, if_pos h3]
        unfold Lib.spansFromP
        rw [if_pos hlt, if_pos h1, h2]
        cases st with
        | none =>
          simp only
          rw [fields_wd s f' (pos + 1) none acc (by omega) (by omega) (fun a h => by cases h), if_pos (hcur.2 rfl)]
          rfl
        | some a =>
          simp only
          rw [fields_wd s f' (pos + 1) none (acc ++ [(a, pos)]) (by omega) (by omega) (fun a h => by cases h), if_neg (fun e => by have := hcur.1 e; cases this)]
          have e1 : exL s (a, pos) = curW s (some a) pos := ext_list s a pos
          simp [e1, curW]
      · have hd : s.data.toList.drop pos = (s.data.toList.drop pos).take (Utf8.decode s pos).2 ++ s.data.toList.drop (pos + (Utf8.decode s pos).2) := by
          rw [← List.drop_drop, List.take_append_drop]
        have hnb : ∀ c ∈ (s.data.toList.drop pos).take (Utf8.decode s pos).2, blB c = false := fun c hc => by
          obtain ⟨j, hj, e⟩ := List.getElem_of_mem hc
          have hj2 : j < (Utf8.decode s pos).2 := by simp at hj; omega
          have h9 := get_at s (pos + j) (by omega)
          have e9 : ((s.data.toList.drop pos).take (Utf8.decode s pos).2)[j]? = some c := by rw [List.getElem?_eq_getElem hj, e]
          rw [List.getElem?_take, if_pos hj2, List.getElem?_drop, h9] at e9
          rw [← Option.some.inj e9]
          exact h4 (pos + j) (by omega) (by omega)
        rw [hd, wd_run _ _ _ hnb]
        unfold Lib.spansFromP
        rw [if_pos hlt, if_neg (by rw [h1]; simp)]
        generalize hk : (Utf8.decode s pos).2 = k at h2 h3
        cases st with
        | none =>
          simp only
          rw [fields_wd s f' (pos + k) (some pos) acc (by omega) (by omega) (fun a h => by cases h; omega)]
          congr 2
          show (s.data.toList.take (pos + k)).drop pos = [] ++ _
          rw [cur_more (Nat.le_refl _) h3]
          simp
        | some a =>
          have ha := hs a rfl
          simp only
          rw [fields_wd s f' (pos + k) (some a) acc (by omega) (by omega) (fun b h => by cases h; omega)]
          congr 2
          exact cur_more (by omega) h3
    · have hpe : pos = s.size := by omega
      rw [Lib.spansFromP_end _ _ _ _ _ _ hlt, List.drop_eq_nil_of_le (by simp; omega)]
      unfold wdB Lib.closeSpans
      cases st with
      | none => simp [curW]
      | some a =>
        have ha := hs a rfl
        have hne : curW s (some a) pos ≠ [] := fun e => by
          have e2 := congrArg List.length e
          simp [curW] at e2
          omega
        rw [if_neg hne]
        simp only [List.map_append, List.map_cons, List.map_nil]
        congr 2
        show (s.extract a s.size).data.toList = _
        rw [ext_list, hpe]
        rfl
/-- The pieces that Go's FieldsFunc tells are the words. -/
theorem fields_words (s : ByteArray) : (Lib.goFieldsP blR s).map (·.data.toList) = wdB [] s.data.toList := by
  unfold Lib.goFieldsP Lib.spansOfP
  rw [List.map_map]
  have := fields_wd s s.size 0 none [] (by omega) (Nat.zero_le _) (fun a h => by cases h)
  rw [List.map_nil, List.nil_append, List.drop_zero] at this
  exact this
end Go.Proofs.YtdepgkpfibmbgaaGreatDoor

/-
  Contracts of Go's strings.Replacer at six strings of one byte each: how it is made.
-/
namespace Go.Proofs.YtdepgkpfibmbgaaGreatDoor
open Go.RowKit
set_option linter.unusedVariables false
set_option linter.unusedSimpArgs false
theorem infoSt : (Tryz.prog.info? 9).map (fun i => (i.zero, i.size, i.bytes)) = some (some (.string ⟨#[]⟩), 1, 16) := by kernel_rfl
def sixV : List Value := [.string ⟨#[9]⟩, .string ⟨#[32]⟩, .string ⟨#[10]⟩, .string ⟨#[32]⟩, .string ⟨#[13]⟩, .string ⟨#[32]⟩]
def Rep (w : World) (R : Nat) (a b c : Int) (f s : Value) : Prop := w.heap[R]? = some (.cells #[.int .u32 a, .int .i32 b, .int .u32 c, f, s] 167 (0, 0))
def NrAns (w : World) (e : Ending) (w' : World) : Prop := ∃ R g cap, e = .returned (.pointer (some ⟨R, 0, none⟩)) ∧ (w.heap.size ≤ R ∧ g < R) ∧ Rep w' R 0 0 0 .nilIface (.slice (some ⟨g, 0, none⟩) 6 cap) ∧ w'.ownsRow w.heap.size 9 1 (.slice (some ⟨g, 0, none⟩) 6 cap) 6 sixV ∧ Below w.heap.size w w'
set_option maxHeartbeats 2000000 in
theorem n_repl (A : Nat) (w : World) (h : w.heap[A]? = some (.cells sixV.toArray 9 (0, 0))) :
    Calls Tryz.prog 95 #[.slice (some ⟨A, 0, none⟩) 6 6] w (NrAns w) := by
  obtain ⟨i0, hi0, hz0, hz1, hz2⟩ := info_parts infoSt
  have HN := hide (World.news_of_block h)
  have hlt : A < w.heap.size := (Array.getElem?_eq_some_iff.1 h).1
  clear h
  go_enter Tryz.func95, Tryz.ntmps95
  go_wp2_with (at_builtin; refine wpList_append_lies _ (by rfl) (.const (.slice none 0 0)) (.tmp 8) 25 (by rfl) w.heap.size 9 i0 _ 1 16 Tryz.underlying25 hi0 hz0 hz1 hz2 rfl (by omega) (.slice none 0 0) 0 [] (by rfl) (World.ownsRow_nil _ _ _ _) ⟨A, 0, none⟩ 6 6 sixV (by rfl) (by rfl) HN.out (by simp [Value.oneCell', sixV]) (by omega) (by unfold maxLen; omega) (by omega) (Nat.le_refl _) w.heap.size rfl ?_; intro g cap w1 hown hgrow hat hlt1; have HO := hide hown; have HG := hide hgrow; have HA := hide hat; clear hown hgrow hat)
  go_ret
  have hb1 : Below w.heap.size w w1 := (Below.refl _ _).grown HG.out (Nat.le_refl _) (fun k hk => by cases hk)
  exact ⟨w1.heap.size, g, cap, rfl, ⟨hb1.size, hlt1⟩, heap_alloc_new w1 _, HO.out.alloc _, hb1.alloc hb1.size _⟩
end Go.Proofs.YtdepgkpfibmbgaaGreatDoor
