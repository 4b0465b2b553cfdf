/-
  Texts put together: FoJ, FoX.
-/
import Derived.Test.YtdepgkpfibmbgaaGreatDoorE33
import Derived.Test.YtdepgkpfibmbgaaGreatDoorE36
import Derived.Test.YtdepgkpfibmbgaaGreatDoorE26
/-
  Contract of the program: what FieldOf answers.
-/
namespace Go.Proofs.YtdepgkpfibmbgaaGreatDoor
open Go.RowKit Go.Joins
set_option linter.unusedVariables false
set_option linter.unusedSimpArgs false
theorem mt_mem {D : Dc} {p : Nat} {A v : ByteArray} : ∀ k, v ∈ mtA D p A k → ∃ j, j < k ∧ v = D.AV p j
  | 0, h => by simp [mtA] at h
  | k + 1, h => by
    rw [mtA, List.mem_append] at h
    rcases h with h | h
    · obtain ⟨j, h1, h2⟩ := mt_mem k h
      exact ⟨j, by omega, h2⟩
    · split at h
      · simp at h
        exact ⟨k, by omega, h⟩
      · simp at h
theorem val_all {D : Dc} (hdk : docokB D = true) {A v : ByteArray} {p : Nat} (hp : p < D.n) (h : v ∈ vlA D A p) : v.size ≤ 1048576 := by
  unfold vlA at h
  split at h
  · simp at h
    rw [h]
    have := txF_size D p D.n
    have := (docok_facts hdk).2.2
    omega
  · obtain ⟨j, hj, rfl⟩ := mt_mem _ h
    exact av_small hdk hp hj
theorem str_cellF {w : World} {B : Nat} {va : Option Addr} {c : Nat} {l : List ByteArray} (h : w.ownsRow B 9 1 (.slice va l.length c) l.length (l.map Value.string)) (h1 : l.length = 1) : ∃ g, va = some ⟨g, 0, none⟩ ∧ g < w.heap.size ∧ w.cell? ⟨g, 0, none⟩ = some (.string (l[0]?.getD ⟨#[]⟩)) := by
  have h2 := h
  rcases h.2 with ⟨e, h0⟩ | ⟨g, cap, cur, e, -, hg, -⟩
  · omega
  · simp only [Value.slice.injEq] at e
    obtain ⟨rfl, -⟩ := e
    refine ⟨g, rfl, (Array.getElem?_eq_some_iff.1 hg).1, ?_⟩
    rw [h2.cellAt 0 (by omega), List.getElem?_map, List.getElem?_eq_getElem (by omega)]
    rfl
set_option maxRecDepth 100000 in
set_option maxHeartbeats 8000000 in
theorem i_at (D : Dc) (n b off cap x : Nat) (ad : Option Addr) (m c : Nat) (A : ByteArray) (ns : List (List UInt8)) (B0 : Nat) (w : World) (hD : D.n = n) (hdk : docokB D = true) (hx : x < n) (hm : ns.length = m) (hm2 : m ≤ 1000) (hN : w.ownsRow B0 9 1 (.slice ad m c) m (strV ns)) (hbs : b < w.heap.size) (hr : DcRow w b off D w.heap.size) :
    Calls Tryz.prog 32 #[.agg #[.bool false, .slice ad m c, .string A], .slice (some ⟨b, off, none⟩) n cap, .int .i64 x] w fun e w' => e = .returned (.tuple #[.string (foA (vlL D A (srtL (sel D (st D x n false) ns)))).1, .int .i64 (foA (vlL D A (srtL (sel D (st D x n false) ns)))).2]) ∧ Below w.heap.size w w' := by
  obtain ⟨i0, hi, hz0, hz1, hz2⟩ := info_parts infoStr
  have HD := hide hD
  have HDK := hide hdk
  have HRW := hide hr
  have hn : n ≤ 200 := by rw [← hD]; exact (docok_facts hdk).1.2
  have hpl := pl_facts hD hn hx ns
  have HL2 := hide hpl.1
  have HL3 := hide hpl.2
  have st9 := fun o : Obj => (Below.refl w.heap.size w).alloc (Nat.le_refl _) o
  have CF : Hid (∀ w2, Below w.heap.size w w2 → Calls Tryz.prog 30 #[.agg #[.bool false, .slice ad m c], .slice (some ⟨b, off, none⟩) n cap, .int .i64 x] w2 fun e w' => ∃ ad2 c2, e = .returned (.slice ad2 (srtL (sel D (st D x n false) ns)).length c2) ∧ IntR w2.heap.size w' ad2 c2 (srtL (sel D (st D x n false) ns)) ∧ Below w2.heap.size w2 w') := hide (fun w2 h2 => i_from D n b off cap w2 x false ad m c ns B0 hD hn hx (Nat.lt_of_lt_of_le hbs h2.size) (dcRow_up (dcRow_go hr hbs h2) h2.size) (by rw [← hD]; exact docok_good hdk) hm hm2 (gOwn_after hN h2))
  obtain ⟨L, hL⟩ : ∃ L, srtL (sel D (st D x n false) ns) = L := ⟨_, rfl⟩
  rw [hL] at HL2 HL3 CF ⊢
  have HVL : Hid (∀ k, (vlL D A (L.take k)).length ≤ 2000) := hide (fun k => by
    have h9 := vl_len (D := D) (A := A) (fun p hp => (att_facts HDK.out hp).1) (L.take k) (fun j hj => HL3.out j (List.mem_of_mem_take hj))
    have h8 := HL2.out
    rw [List.length_take] at h9
    omega)
  obtain ⟨l, hl⟩ : ∃ l, L.length = l := ⟨_, rfl⟩
  rw [hl] at CF
  have HLL := hide hl
  have hl200 : l ≤ 200 := by rw [← hl]; exact HL2.out
  have HFB := hide (cellsAt_new w #[.bool false, .slice ad m c, .string A])
  clear hr hdk hpl hL hD hl hN hm
  go_enter Tryz.func32, Tryz.ntmps32
  go_wp2_with (go_at_call 30; refine (CF.out _ (st9 _)).mono ?_; rintro e w3 ⟨ad3, c3, rfl, hi3, hb3⟩; have HI := hide hi3; have HB3 := hide ((st9 _).trans (hb3.mono (st9 _).size)); have HK3 := hide (cellsAt_go (HFB.out _) hb3 (by simp)); clear hi3 hb3)
  have hw3 : w.heap.size < w3.heap.size := cellsAt_lt HK3.out
  go_loopw [8, 19] (fun vv iv wr => ∃ (k M vc : Nat) (va : Option Addr), k ≤ l ∧ iv = .int .i64 k ∧ vv = .slice va M vc ∧ M ≤ 2000 ∧ Hid (M = (vlL D A (L.take k)).length) ∧ Hid (wr.ownsRow w3.heap.size 9 1 (.slice va M vc) M ((vlL D A (L.take k)).map Value.string)) ∧ Hid (Below w3.heap.size w3 wr)) (fun _ iv _ => l - (intOf iv).toNat)
  case atStart => exact ⟨0, 0, 0, none, Nat.zero_le _, rfl, rfl, by omega, rfl, hide ⟨rfl, .inl ⟨rfl, rfl⟩⟩, Below.refl _ _⟩
  case round =>
    obtain ⟨k, M, vc, va, hk, rfl, rfl, hM, HM, HO, HB⟩ := hrel
    by_cases hlt : k < l
    · have hki : (k : Int) < l := by omega
      have hkL : k < L.length := by rw [HLL.out]; exact hlt
      obtain ⟨g, hg, hgl, hc⟩ := intR_at HI.out k hkL
      have c0 := (HB.out.cell (p := ⟨g, k, none⟩) hgl).trans hc
      obtain ⟨hp0, hp1⟩ := HL3.out _ (List.getElem_mem hkL)
      have HTK := hide (vl_take (D := D) (A := A) hkL)
      have hpe : L[k]?.getD 0 = L[k] := by rw [List.getElem?_eq_getElem hkL]; rfl
      rw [← hpe] at hp0 hp1
      obtain ⟨p, hp⟩ : ∃ p, L[k]?.getD 0 = p := ⟨_, rfl⟩
      rw [hp] at c0 hp0 hp1 HTK
      subst hg
      have HBw := hide (HB3.out.trans (HB.out.mono HB3.out.size))
      have hpi : p < (n : Int) := by rw [← HD.out]; exact hp1
      have hKr := cellsAt_go HK3.out HB.out hw3
      have k0 := cellsAt_cell hKr 0
      have k1 := cellsAt_cell hKr 1
      have k2 := cellsAt_cell hKr 2
      simp at k0 k1 k2
      have CV := hide (i_valueOf D n b off cap p ad m c A wr HD.out HDK.out ⟨hp0, hpi⟩ (Nat.lt_of_lt_of_le hbs HBw.out.size) (dcRow_up (dcRow_go HRW.out hbs HBw.out) HBw.out.size))
      have hs3 : w3.heap.size ≤ wr.heap.size := HB.out.size
      clear hc hp hpe hp1 hkL hKr
      go_wp2_with fail
      refine CV.out.mono ?_
      rintro e w5 ⟨⟨v, Bv, rfl, hv⟩, hb5⟩
      have HB5 := hide (HB.out.trans (hb5.mono HB.out.size))
      have HO5 := hide (gOwn_after HO.out hb5)
      have hs5 : w3.heap.size ≤ w5.heap.size := HB5.out.size
      clear hb5
      cases Bv
      · have HTK2 : Hid (vlL D A (L.take (k + 1)) = vlL D A (L.take k)) := hide (by rw [HTK.out, hv]; simp)
        go_wp2
        go_roundw
        case rel => exact ⟨k + 1, M, vc, va, by omega, by go_num, rfl, hM, hide (by rw [HTK2.out]; exact HM.out), hide (by rw [HTK2.out]; exact HO5.out), HB5⟩
        case measure => simp [intOf]; omega
      · have HTK2 : Hid (vlL D A (L.take (k + 1)) = vlL D A (L.take k) ++ [v]) := hide (by rw [HTK.out, hv]; rfl)
        have HM2 : Hid (M + 1 = (vlL D A (L.take (k + 1))).length) := hide (by rw [HTK2.out, List.length_append, ← HM.out]; rfl)
        have hM2 : M + 1 ≤ 2000 := by have h9 := HM2.out; have h8 := HVL.out (k + 1); omega
        go_wp2_with (first | (at_builtin; refine wpList_append_own _ rfl (.tmp 31) (.tmp 33) 25 rfl w3.heap.size 9 i0 (.string ByteArray.empty) 1 16 Tryz.underlying25 hi hz0 hz1 hz2 rfl (by decide) _ _ _ rfl (HO5.out.alloc _) ⟨w5.heap.size, 0, none⟩ 1 1 [.string v] rfl rfl (fun j u hj => gOne_new w5 _ _ j u hj) (gStr_list _) (by unfold maxLen; omega) (by omega) (by simp; omega) ?_; intro v2 w7 hown2 hgrow2 _; obtain ⟨ad2, c2', hv2⟩ := gOwn_shape hown2; rw [hv2] at hown2 ⊢; clear hv2; have HB7 := hide (gBelow_one HB5.out HO5.out hgrow2); have HO7 := hide hown2; clear hown2 hgrow2))
        go_roundw
        case rel => exact ⟨k + 1, M + 1, c2', ad2, by omega, by go_num, rfl, hM2, HM2, hide (by rw [HTK2.out, List.map_append]; exact HO7.out), HB7⟩
        case measure => simp [intOf]; omega
    · have hkl : k = l := by omega
      have HTA : Hid (vlL D A (L.take k) = vlL D A L) := hide (by rw [hkl, ← HLL.out, List.take_length])
      rw [HTA.out] at HM HO
      have HBF := hide (HB3.out.trans (HB.out.mono HB3.out.size))
      clear hkl
      by_cases hm1 : M = 1
      · have hmb : ((M : Int) != 1) = false := by rw [hm1]; rfl
        have hM1 : (vlL D A L).length = 1 := by rw [← HM.out]; exact hm1
        have ho := HO.out
        rw [HM.out] at ho
        obtain ⟨g, hg, hgl, hc0⟩ := str_cellF ho hM1
        obtain ⟨v, hv⟩ : ∃ v, vlL D A L = [v] := List.length_eq_one_iff.1 hM1
        rw [hv] at hc0
        have hc1 : wr.cell? ⟨g, 0, none⟩ = some (.string v) := hc0
        have HF : Hid (foA (vlL D A L) = (whB v 2, 1)) := hide (by rw [hv]; rfl)
        have hvs : v.size ≤ 1048576 := by
          have hmem : v ∈ vlL D A L := by rw [hv]; simp
          unfold vlL at hmem
          obtain ⟨p, hp, hpv⟩ := List.mem_flatMap.1 hmem
          have hp2 := HL3.out p hp
          refine val_all HDK.out (p := p.toNat) (by omega) hpv
        have CW := hide (fun w9 => i_white v 2 w9 hvs)
        subst hg
        have hMi : (0 : Int) < M := by omega
        clear ho hc0 hv hM1 hm1
        go_wp2_with (go_at_call 64; refine (CW.out _).mono ?_; rintro e w6 ⟨rfl, hb6⟩; have HB6 := hide (HBF.out.trans (hb6.mono HBF.out.size)); clear hb6)
        go_ret2
        exact ⟨by rw [HF.out]; rfl, HB6.out⟩
      · have hmb : ((M : Int) != 1) = true := by rw [bne_iff_ne]; omega
        have HF : Hid (foA (vlL D A L) = (⟨#[]⟩, (M : Int))) := hide (by unfold foA; rw [← HM.out, if_neg hm1])
        clear hm1
        go_wp2
        go_ret2
        exact ⟨by rw [HF.out]; rfl, HBF.out⟩
end Go.Proofs.YtdepgkpfibmbgaaGreatDoor

/-
  Contract of the program: what FieldOf answers; the contract of FnExactFieldOf.
-/
namespace Go.Proofs.YtdepgkpfibmbgaaGreatDoor
open Go.RowKit Go.Joins
set_option linter.unusedVariables false
set_option linter.unusedSimpArgs false
theorem fld_len {l : List UInt8} {q : List (List UInt8) × List UInt8} (h : fld l = some q) : q.1.length ≤ 6 := by
  have hp : ∀ {t : List UInt8}, pathF t = true → (sg [] t).length ≤ 6 := fun {t} h => by
    unfold pathF at h
    rw [Bool.and_eq_true, decide_eq_true_iff] at h
    exact h.2
  unfold fld at h
  split at h
  · cases h; exact Nat.zero_le _
  · split at h
    · split at h
      · split at h
        · cases h; exact Nat.zero_le _
        · split at h
          · split at h
            · rename_i h9; cases h; exact hp h9
            · cases h
          · cases h
      · cases h
    · split at h
      · rename_i h9; cases h; exact hp h9
      · cases h
theorem tx_factsF {D : Dc} {x : Int} (h : txOk D x = true) : docokB D = true ∧ D.n ≤ 200 ∧ Good D D.n ∧ 0 ≤ x ∧ x < D.n := by
  have h2 := h
  unfold txOk at h2
  simp only [Bool.and_eq_true, decide_eq_true_eq] at h2
  obtain ⟨hd, ⟨h0, h1⟩, -⟩ := h2
  obtain ⟨⟨g1, g2⟩, -, hsum⟩ := docok_facts hd
  exact ⟨hd, g2, docok_good hd, h0, by omega⟩
set_option maxRecDepth 100000 in
set_option maxHeartbeats 4000000 in
theorem i_fieldOf (D : Dc) (n : Nat) (a : Option Addr) (cap : Nat) (x : Int) (s : ByteArray) (w : World) (hD : D.n = n) (hz : dcTot D ≤ 1048576) (hs : s.size ≤ 1048576) (hr : DcAt w a D w.heap.size) (hT : Tabs w) (hM : MaxL w) :
    Calls Tryz.prog 10 #[.slice a n cap, .int .i64 x, .string s] w (FoAns D x s w) := by
  have HD := hide hD
  have HR := hide hr
  have C := hide (i_field s w hs hM)
  have CH := hide (fun (W : World) (hb : Below w.heap.size w W) => i_hasElement D n a cap x W hD hz (dcAt_up (dcAt_go hr hb) hb.size) (tabs_below hT hb))
  clear hr hD hz hT hM
  go_enter Tryz.func10, Tryz.ntmps10
  go_wp2_with fail
  refine C.out.mono ?_
  rintro e w2 ⟨hb2, ⟨q, ad, c, hq, rfl, hN⟩ | ⟨hq, rfl⟩⟩
  · have HB2 := hide hb2
    have HQ := hide hq
    have HN := hide hN
    obtain ⟨m, hm⟩ : ∃ m, q.1.length = m := ⟨_, rfl⟩
    have hm6 : m ≤ 6 := by rw [← hm]; exact fld_len hq
    obtain ⟨A, hA⟩ : ∃ A : ByteArray, (⟨q.2.toArray⟩ : ByteArray) = A := ⟨_, rfl⟩
    have HAA := hide hA
    have HMM := hide hm
    rw [hm] at HN
    rw [hm, hA]
    have HB3 := fun o : Obj => HB2.out.alloc HB2.out.size o
    have HK := hide (cellsAt_new w2 #[.bool false, .slice ad m c, .string A])
    clear hb2 hq hN hm hA C
    cases ht : txOk D x
    · have HV := hide (fo_out (D := D) (x := x) (s := s) ht)
      rw [ht] at CH
      go_wp2_with (go_at_call 25; refine (CH.out _ (HB3 _)).mono ?_; rintro e w4 ⟨rfl, hb4⟩; have HB4 := hide ((HB3 _).trans (hb4.mono (HB3 _).size)); clear hb4)
      go_ret2
      exact fo_no HV.out HB4.out
    · obtain ⟨hdk, hn2, hgood, h0, h1⟩ := tx_factsF ht
      have HV := hide (fo_some HQ.out ht)
      rw [HAA.out] at HV
      rw [ht] at CH
      obtain ⟨b, off, rfl, hbs, hrow⟩ := HR.out (by omega)
      have HRW := hide hrow
      have hx' : (x.toNat : Int) = x := by omega
      have CV : Hid (∀ w5, Below w2.heap.size w2 w5 → Calls Tryz.prog 32 #[.agg #[.bool false, .slice ad m c, .string A], .slice (some ⟨b, off, none⟩) n cap, .int .i64 x] w5 fun e w' => e = .returned (.tuple #[.string (foV D x s).1, .int .i64 (foV D x s).2]) ∧ Below w5.heap.size w5 w') := hide (fun w5 h5 => by
        have hb5 : Below w.heap.size w w5 := HB2.out.trans (h5.mono HB2.out.size)
        have h9 := i_at D n b off cap x.toNat ad m c A q.1 w.heap.size w5 HD.out hdk (by have := HD.out; omega) HMM.out (by omega) (gOwn_after HN.out h5) (Nat.lt_of_lt_of_le hbs hb5.size) (dcRow_up (dcRow_go HRW.out hbs hb5) hb5.size)
        rw [hx'] at h9
        rw [HV.out, HD.out]
        exact h9)
      obtain ⟨R, hR⟩ : ∃ R, foV D x s = R := ⟨_, rfl⟩
      have HRR := hide hR
      rw [hR] at CV
      obtain ⟨r1, r2⟩ := R
      clear hR hx' hrow hdk hgood h0 h1 hn2 ht
      go_wp2_with (first | (go_at_call 25; refine (CH.out _ (HB3 _)).mono ?_; rintro e w4 ⟨rfl, hb4⟩; have HB4 := hide ((HB3 _).trans (hb4.mono (HB3 _).size)); have hK4 := cellsAt_go (HK.out _) hb4 (by simp); have k0 := cellsAt_cell hK4 0; have k1 := cellsAt_cell hK4 1; have k2 := cellsAt_cell hK4 2; simp at k0 k1 k2; have HB24 := hide (((Below.refl w2.heap.size w2).alloc (Nat.le_refl _) _).trans (hb4.mono (by simp))); clear hb4 hK4) | (go_at_call 32; refine (CV.out _ HB24.out).mono ?_; rintro e w6 ⟨rfl, hb6⟩; have HB6 := hide (HB4.out.trans (hb6.mono HB4.out.size)); clear hb6))
      go_ret2
      exact ⟨by rw [HRR.out]; rfl, HB6.out⟩
  · have HV := hide (fo_none (D := D) (x := x) hq)
    have HB2 := hide hb2
    clear hb2 hq C
    go_wp2
    go_ret2
    exact fo_no HV.out (HB2.out.alloc HB2.out.size _)
end Go.Proofs.YtdepgkpfibmbgaaGreatDoor
