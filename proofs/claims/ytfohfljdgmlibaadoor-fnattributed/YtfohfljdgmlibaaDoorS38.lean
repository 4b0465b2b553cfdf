/-
  Contracts: which positions take the names, by the specification.
-/
import Derived.Test.YtfohfljdgmlibaaDoorS37
import Derived.Test.YtfohfljdgmlibaaDoorS25
import Derived.Test.YtfohfljdgmlibaaDoorS27
import Derived.Test.YtfohfljdgmlibaaDoorS36
namespace Go.Proofs.YtfohfljdgmlibaaDoor
open Go.RowKit Go.Joins
set_option linter.unusedVariables false
set_option linter.unusedSimpArgs false
theorem trA_none {D : Pn} {W : List ByteArray} {t : Nat} (h : trA D W t = none) : ∀ k, trA D W (t + k) = none
  | 0 => h
  | k + 1 => by
    show (match trA D W (t + k) with | none => none | some L => _) = none
    rw [trA_none h k]
theorem trA_stop {D : Pn} {W : List ByteArray} {t : Nat} {L : List Int} (h : trA D W t = some L) (hk : pkA D (W[t]?.getD ⟨#[]⟩) (stp D L.getLast?) < 0) (ht : t < W.length) : arA D W = none := by
  have h1 : trA D W (t + 1) = none := by
    show (match trA D W t with | none => none | some L => _) = none
    rw [h]
    show (if _ then _ else _) = none
    rw [if_pos hk]
  have h2 := trA_none h1 (W.length - (t + 1))
  rw [show t + 1 + (W.length - (t + 1)) = W.length by omega] at h2
  unfold arA
  split
  · rw [h2]
  · rfl
theorem trA_on {D : Pn} {W : List ByteArray} {t : Nat} {L : List Int} {z : Int} (h : trA D W t = some L) (hk : pkA D (W[t]?.getD ⟨#[]⟩) (stp D L.getLast?) = z) (hz : 0 ≤ z) : trA D W (t + 1) = some (L ++ [z]) := by
  show (match trA D W t with | none => none | some L => _) = _
  rw [h]
  show (if _ then _ else _) = _
  rw [hk, if_neg (by omega)]
theorem ar_fin {D : Pn} {W : List ByteArray} {L : List Int} (hc : clB D = true) (hl : W.length ≤ 200) (h : trA D W W.length = some L) : arA D W = if finA D L = true then some L else none := by
  unfold arA
  rw [if_pos ⟨hc, hl⟩, h]
theorem last_put (L : List Int) (z : Int) : (L ++ [z]).getLast? = some z := by simp
theorem pkN_pos {D : Pn} {s : ByteArray} {L : List Int} (h : ∀ z ∈ L, posB D z = true) (k : Nat) (hk : k ≤ L.length) : pkN D s L k = -1 ∨ posB D (pkN D s L k) = true := by
  rcases pkN_spec D s L k hk with ⟨h1, -⟩ | ⟨j, h1, h2, -⟩
  · exact .inl h1
  · right
    rw [h2, List.getElem?_eq_getElem (by omega)]
    exact h _ (List.getElem_mem _)
theorem fl_of {D : Pn} (hpk : pkB D = true) {z : Int} (h : posB D z = true) : srtL (foL D z D.n) = flV D z := by unfold flV; rw [if_pos ⟨hpk, h⟩]
theorem stp_len (D : Pn) : ∀ o : Option Int, (stp D o).length ≤ 40
  | none => foV_len
  | some p => flV_len
def AtO (w w' : World) (oa : Option Addr) (oc : Nat) (L : List Int) : Prop := Below w.heap.size w w' ∧ IntR w.heap.size w' oa oc L
theorem atO_drew {w w' : World} {oa : Option Addr} {oc : Nat} {L : List Int} (h : AtO w w' oa oc L) : AtO w w'.drew oa oc L := ⟨h.1.drew, h.2⟩
theorem atO_go {w w' w2 : World} {oa : Option Addr} {oc : Nat} {L : List Int} (h : AtO w w' oa oc L) (hb : Below w'.heap.size w' w2) : AtO w w2 oa oc L := ⟨h.1.trans (hb.mono h.1.size), gOwn_after h.2 hb⟩
theorem put_farA {a : Act} {d k : Nat} {v x : Value} (h : a.tmps[k]? = some x) (hne : d ≠ k) : (a.put (some d) v).tmps[k]? = some x := by
  show (a.tmps.setIfInBounds d v)[k]? = some x
  rw [Array.getElem?_setIfInBounds_ne hne]
  exact h
theorem not_wantedA {ops : Array Oper} {a : Act} {o oj : Oper} {j k : Nat} {want : Bool} {x : Value} (hg : o.guard = some (j, want)) (hj : ops[j]? = some oj) (hd : oj.dst = some k) (hk : a.tmps[k]? = some x) (hb : ((match some x with | some (Value.bool b) => some b | _ => none) == some want) = false) : Region.wanted o (yielded ops a.tmps) = false := by
  unfold Region.wanted
  rw [hg]
  show (yielded ops a.tmps j == some want) = false
  unfold yielded
  rw [hj]
  simp only [Option.bind_some, hd, hk]
  exact hb
theorem wpAny_namedA {P : Program} {md : Region.Mode} {ops : Array Oper} {Q : Exit → Act → World → Prop} {fuel : Nat} {listed : Array Bool} {a : Act} {w : World} (h : ∀ A, A = a → wpAny P md ops Q fuel listed A w) : wpAny P md ops Q fuel listed a w := h a rfl
set_option maxRecDepth 100000 in
set_option maxHeartbeats 16000000 in
theorem s_attr (D : Pn) (n : Nat) (a : Option Addr) (cap : Nat) (W : List ByteArray) (m : Nat) (b : Option Addr) (cq : Nat) (w : World) (hD : D.n = n) (hz : pnTot D ≤ 1048576) (hr : PnAt w a D w.heap.size) (hW : W.length = m) (hm : m ≤ 1048576) (hq : TxAt w b W w.heap.size) :
    Calls Tryd.prog 20 #[.slice a n cap, .slice b m cq] w (AtAns D W w) := by
  obtain ⟨i0, hi0, hz0, hz1, hz2⟩ := info_parts info64
  have HC := hide (s_clear D n a cap w hD hz hr)
  have HW := hide hW
  have HQ := hide hq
  cases hcl : clB D
  · have HE := hide (ar_not (W := W) hcl)
    rw [hcl] at HC
    clear hD hz hr hcl hW hq
    go_enter Tryd.func20, Tryd.ntmps20
    go_wp2_with (first | (go_at_call 23; refine HC.out.mono ?_; rintro r w1 ⟨rfl, hb1⟩; have HB1 := hide hb1; clear hb1))
    go_ret2
    exact at_none HE.out HB1.out
  have HCL := hide hcl
  rw [hcl] at HC
  by_cases h200 : 200 < m
  · have HE := hide (ar_long (D := D) (W := W) (by omega))
    have h2i : (200 : Int) < (m : Int) := by omega
    clear hD hz hr hcl hW hq
    go_enter Tryd.func20, Tryd.ntmps20
    go_wp2_with (first | (go_at_call 23; refine HC.out.mono ?_; rintro r w1 ⟨rfl, hb1⟩; have HB1 := hide hb1; clear hb1))
    go_ret2
    exact at_none HE.out HB1.out
  have h2i : (m : Int) ≤ 200 := by omega
  have hpk := clB_pk hcl
  have HPK := hide hpk
  have HD := hide hD
  have hRN := rn_of hD hpk hz
  have HRN := hide hRN
  have hn1 : 1 ≤ n ∧ n ≤ 40 := by rw [← hD]; exact (pk_facts hpk).1
  have CFI := hide (fun (U : World) (hU : Below w.heap.size w U) => s_firstOf D n a cap U hD hz (pnAt_up (pnAt_go hr hU) hU.size))
  have CLA := hide (fun (U : World) (hU : Below w.heap.size w U) => s_lastOf D n a cap U hD hz (pnAt_up (pnAt_go hr hU) hU.size))
  have CNU := hide (fun (U : World) (hU : Below w.heap.size w U) => s_nullable D n a cap U hD hz (pnAt_up (pnAt_go hr hU) hU.size))
  obtain ⟨b0, off, rfl, hb0, hrow⟩ := hr (by rw [hD]; omega)
  have HROW := hide hrow
  have CF := hide (fun (x : Int) (U : World) (hU : Below w.heap.size w U) => s_follow D n b0 off cap x U hRN (Nat.lt_of_lt_of_le hb0 hU.size) (pnRow_up (pnRow_go hrow hb0 hU) hU.size))
  clear hr hD hz hpk hrow hW hq hcl hRN
  unfold IntAns at CFI CF CLA
  go_enter Tryd.func20, Tryd.ntmps20
  go_wp2_with (first
    | (go_at_call 23; refine HC.out.mono ?_; rintro r w1 ⟨rfl, hb1⟩; have HB1 := hide hb1; have HB1a := hide (hb1.alloc hb1.size (.cells #[] 2)); clear hb1)
    | (go_at_call 46; refine (CFI.out _ HB1a.out).mono ?_; rintro r w2 ⟨ad2, c2, rfl, ho2, hb2⟩; have HN2 := hide (own_rowAt9 ho2); have HO2 : Hid (IntR w.heap.size w2 (some ⟨w1.heap.size, 0, none⟩) 0 []) := hide (gOwn_lower (gOwn_after (intR_zero w1) hb2) HB1.out.size); have HB2 := hide (HB1a.out.trans (hb2.mono HB1a.out.size)); clear ho2 hb2))
  go_loopw [6, 7, 8] (fun ov nv mv wr => ∃ (t : Nat) (L : List Int) (oa : Option Addr) (oc : Nat) (na : Option Addr) (nc : Nat), t ≤ m ∧ mv = .int .i64 t ∧ ov = .slice oa L.length oc ∧ nv = .slice na (stp D L.getLast?).length nc ∧ Hid (IntR w.heap.size wr oa oc L) ∧ Hid (RowAt .i64 wr na (stp D L.getLast?) wr.heap.size) ∧ Hid (trA D W t = some L) ∧ Hid (∀ z ∈ L, posB D z = true) ∧ Hid (L.length = t) ∧ Hid (Below w.heap.size w wr)) (fun _ _ mv _ => m - (intOf mv).toNat)
  case atStart => exact ⟨0, [], _, _, ad2, c2, Nat.zero_le _, rfl, rfl, rfl, HO2, HN2, hide rfl, hide (fun z hz => absurd hz (List.not_mem_nil)), hide rfl, HB2⟩
  case round =>
    clear HO2 HN2 HB2 HB1 HB1a HC
    obtain ⟨t, L, oa, oc, na, nc, ht, rfl, rfl, rfl, HO, HN, HTR, HPO, HLT, HB⟩ := hrel
    have hLt : L.length ≤ t := by rw [HLT.out]; exact Nat.le_refl _
    by_cases hlt : t < m
    · have htL : t < W.length := by rw [HW.out]; exact hlt
      have hti : (t : Int) < (m : Int) := by omega
      have ht0 : (0 : Int) ≤ (t : Int) := by omega
      have hNl := stp_len D L.getLast?
      have HNP := hide (stp_pos HPK.out L.getLast?)
      have HST := hide (fun hk => trA_stop HTR.out hk htL)
      have HON := hide (fun z hk hz => trA_on (z := z) HTR.out hk hz)
      obtain ⟨N, hN⟩ : ∃ N, stp D L.getLast? = N := ⟨_, rfl⟩
      rw [hN] at hNl HNP HN HST HON
      rw [hN]
      have HTX := hide (tx_cell (tx_go HQ.out HB.out) t htL)
      obtain ⟨s, hs⟩ : ∃ s, W[t]?.getD ⟨#[]⟩ = s := ⟨_, rfl⟩
      have HSS := hide hs
      rw [hs] at HST HON
      clear hs hN HTR
      go_wp2
      go_loopw [9, 10] (fun av mv wi => ∃ k : Nat, k ≤ N.length ∧ mv = .int .i64 k ∧ av = .int .i64 (pkN D s N k) ∧ Hid (Below wr.heap.size wr wi)) (fun _ mv _ => N.length - (intOf mv).toNat)
      case atStart => exact ⟨0, Nat.zero_le _, rfl, rfl, hide (Below.refl _ _)⟩
      case round =>
        obtain ⟨k, hk, rfl, rfl, HI⟩ := hrel
        by_cases hlk : k < N.length
        · obtain ⟨b9, off9, rfl, hb9, hc9⟩ := rowAt_cell HN.out k hlk
          have x0 := (HI.out.cell (p := ⟨b9, off9 + k, none⟩) hb9).trans (hc9 k hlk)
          have hpz := HNP.out (N[k]?.getD 0) (by rw [List.getElem?_eq_getElem hlk]; exact List.getElem_mem hlk)
          have hzr := of_pos hpz
          have HBI := hide (HB.out.trans (HI.out.mono HB.out.size))
          obtain ⟨i, ad9, cp9, hzi, hin, hpc⟩ := pn_two HRN.out (pnRow_up (pnRow_go HROW.out hb0 HBI.out) HBI.out.size) (x := N[k]?.getD 0) (by have := HD.out; omega)
          obtain ⟨c0, c1, -, -⟩ := hpc
          obtain ⟨tb, toff, hbt, htb, htc⟩ := HTX.out
          have k0 := (HI.out.cell (p := ⟨tb, toff + t, none⟩) (by have := HB.out.size; simp; omega)).trans (htc t htL)
          rw [HSS.out] at k0
          have HPN : Hid (pkN D s N (k + 1) = if mz D s (i : Int) = true then (i : Int) else pkN D s N k) := hide (by rw [pkN, hzi])
          have HMZ : Hid (mz D s (i : Int) = (decide (D.K i = 4) || ((D.NM i).toList == s.toList))) := hide rfl
          rw [hzi] at x0
          have hii : (i : Int) < (n : Int) := by omega
          have hi00 : (0 : Int) ≤ (i : Int) := by omega
          have hki : (k : Int) < (N.length : Int) := by omega
          have hk0 : (0 : Int) ≤ (k : Int) := by omega
          subst hbt
          obtain ⟨K, hK⟩ : ∃ K, D.K i = K := ⟨_, rfl⟩
          obtain ⟨NM, hNM⟩ : ∃ NM, D.NM i = NM := ⟨_, rfl⟩
          obtain ⟨PV, hPV⟩ : ∃ PV, pkN D s N k = PV := ⟨_, rfl⟩
          rw [hK, hNM] at HMZ
          rw [hK] at c0
          rw [hNM] at c1
          rw [hPV] at HPN ⊢
          clear hc9 hpz hzr hzi hK hNM htc hPV
          by_cases hk4 : K = 4
          · subst hk4
            have HV : Hid (pkN D s N (k + 1) = (i : Int)) := hide (by rw [HPN.out, HMZ.out]; simp)
            go_wp2
            go_region
            go_wp2
            go_roundw
            case rel => exact ⟨k + 1, by omega, by go_num, by rw [HV.out], hide HI.out.drew⟩
            case measure => simp [intOf]; omega
          · have e1 : (K == 4) = false := by simpa using hk4
            cases hcm : (NM.toList == s.toList)
            · have HV : Hid (pkN D s N (k + 1) = PV) := hide (by rw [HPN.out, HMZ.out, hcm]; simp [hk4])
              clear hk4
              go_wp2
              go_region
              go_wp2
              go_roundw
              case rel => exact ⟨k + 1, by omega, by go_num, by rw [HV.out], hide HI.out.drew⟩
              case measure => simp [intOf]; omega
            · have HV : Hid (pkN D s N (k + 1) = (i : Int)) := hide (by rw [HPN.out, HMZ.out, hcm]; simp)
              clear hk4
              go_wp2
              go_region
              go_wp2
              go_roundw
              case rel => exact ⟨k + 1, by omega, by go_num, by rw [HV.out], hide HI.out.drew⟩
              case measure => simp [intOf]; omega
        · have hkN : k = N.length := by omega
          subst hkN
          have HBI := hide (HB.out.trans (HI.out.mono HB.out.size))
          have HOI := hide (gOwn_after HO.out HI.out)
          have hor := pkN_pos (s := s) HNP.out N.length (Nat.le_refl _)
          obtain ⟨z, hzz⟩ : ∃ z, pkN D s N N.length = z := ⟨_, rfl⟩
          have HZ : Hid (pkA D s N = z) := hide hzz
          rw [hzz] at hor ⊢
          clear hzz HN
          rcases hor with rfl | hpz
          · have HE := hide (HST.out (by rw [HZ.out]; decide))
            go_wp2
            go_ret2
            exact at_none HE.out HBI.out
          · have hz0' : 0 ≤ z := (of_pos hpz).1
            have HPZ := hide hpz
            have HTN := hide (HON.out z HZ.out hz0')
            have HFL : Hid (srtL (foL D z n) = flV D z) := hide (by rw [← HD.out]; exact fl_of HPK.out hpz)
            have HSL : Hid (stp D (L ++ [z]).getLast? = flV D z) := hide (by rw [last_put]; rfl)
            have hzl : ¬ z < 0 := by omega
            clear hpz
            go_wp2_with (first
              | (at_builtin; refine wpList_append_own _ rfl (.tmp 64) (.tmp 66) 30 rfl w.heap.size 2 i0 (.int .i64 0) 1 8 Tryd.underlying30 hi0 hz0 hz1 hz2 rfl (by decide) (.slice oa L.length oc) L.length (L.map (Value.int .i64)) rfl (HOI.out.alloc _) ⟨wr.heap.size, 0, none⟩ 1 1 [.int .i64 z] rfl rfl (fun j u hj => gOne_new wr _ _ j u hj) (gOne_list _ _) (by unfold maxLen; omega) (by omega) (by have := HBI.out.size; simp; omega) ?_; intro v2 w4 hown2 hgrow2 _; obtain ⟨a4, c4, hv2⟩ := gOwn_shape hown2; rw [hv2] at hown2 ⊢; clear hv2; have HB4 := hide (gBelow_one HBI.out HOI.out hgrow2); have HO4 := hide (intR_put hown2); clear hown2 hgrow2)
              | (go_at_call 47; refine (CF.out z _ HB4.out).mono ?_; rintro r w5 ⟨ad5, c5, rfl, ho5, hb5⟩; rw [HFL.out] at ho5 ⊢; have HN5 := hide (own_rowAt9 ho5); have HO5 := hide (gOwn_after HO4.out hb5); have HB5 := hide (HB4.out.trans (hb5.mono HB4.out.size)); clear ho5 hb5))
            go_roundw
            case rel =>
              refine ⟨t + 1, L ++ [z], a4, c4, ad5, c5, by omega, by go_num, by rw [List.length_append, List.length_singleton], by rw [HSL.out], HO5, hide (by rw [HSL.out]; exact HN5.out), HTN, hide (fun u hu => ?_), hide (by rw [List.length_append, HLT.out]; rfl), HB5⟩
              rcases List.mem_append.1 hu with hu | hu
              · exact HPO.out u hu
              · simp at hu; rw [hu]; exact HPZ.out
            case measure => simp [intOf]; omega
    · have htm : t = m := by omega
      subst htm
      have HF := hide (ar_fin HCL.out (by rw [HW.out]; omega) (by rw [HW.out]; exact HTR.out))
      by_cases hm0 : t = 0
      · have hL0 : L = [] := List.length_eq_zero_iff.1 (by rw [HLT.out]; exact hm0)
        subst hL0
        have e1 : ((t : Int) == 0) = true := by rw [hm0]; rfl
        have e2 : decide ((t : Int) > 0) = false := by rw [hm0]; rfl
        have e3 : ¬ (0 : Int) < (t : Int) := by omega
        have e4 : ¬ 0 < t := by omega
        clear hm0
        have CN := CNU.out wr.drew HB.out.drew
        rw [HPK.out, Bool.true_and] at CN
        have HF2 : Hid (arA D W = if nl D (D.n - 1) = true then some [] else none) := hide HF.out
        obtain ⟨V, hV⟩ : ∃ V, nl D (D.n - 1) = V := ⟨_, rfl⟩
        rw [hV] at CN HF2
        have CN2 := hide CN
        clear CN hV
        have XX : Hid (AtO w wr oa oc []) := ⟨HB.out, HO.out⟩
        clear HB HO HN
        cases V
        · go_wp2
          refine wp_region_any (by kernel_rfl) ?_
          try (change wpAny _ _ _ _ _ _ _ (World.drew _))
          refine wpAny_ready (rs := [0]) (by kernel_rfl) (by simp) ?_
          refine AllReady.cons rfl (fun K hK => ?_) AllReady.nil
          go_simp
          first | (refine hK _ _ ?_; clear hK K) | skip
          refine wpAny_ready (rs := [1]) (by kernel_rfl) (by simp) ?_
          refine AllReady.cons rfl (fun K hK => ?_) AllReady.nil
          go_simp
          first | (refine hK _ _ ?_; clear hK K) | skip
          refine wpAny_ready (rs := [2]) (by kernel_rfl) (by simp) ?_
          refine AllReady.cons rfl (fun K hK => ?_) AllReady.nil
          go_simp
          first | (refine hK _ _ ?_; clear hK K) | skip
          refine wpAny_ready (rs := [3]) (by kernel_rfl) (by simp) ?_
          refine AllReady.cons rfl (fun K hK => ?_) AllReady.nil
          go_simp
          first | (refine hK _ _ ?_; clear hK K) | skip
          refine wpAny_ready (rs := [4]) (by kernel_rfl) (by simp) ?_
          refine AllReady.cons rfl (fun K hK => ?_) AllReady.nil
          go_simp
          first | (refine hK _ _ ?_; clear hK K) | skip
          refine wpAny_ready (rs := [5]) (by kernel_rfl) (by simp) ?_
          refine AllReady.cons rfl (fun K hK => ?_) AllReady.nil
          go_simp
          go_wp2_with (first | (go_at_call 48; refine CN2.out.mono ?_; rintro r w3 ⟨rfl, hb3⟩; have X2 := hide (atO_go (atO_drew XX.out) hb3); clear hb3))
          first | (refine hK _ _ ?_; clear hK K) | skip
          refine wpAny_ready (rs := [6]) (by kernel_rfl) (by simp) ?_
          refine AllReady.cons rfl (fun K hK => ?_) AllReady.nil
          go_simp
          first | (refine hK _ _ ?_; clear hK K) | skip
          refine wpAny_ready (rs := [7]) (by kernel_rfl) (by simp) ?_
          refine AllReady.cons rfl (fun K hK => ?_) AllReady.nil
          go_simp
          first | (refine hK _ _ ?_; clear hK K) | skip
          refine wpAny_ready (rs := [8]) (by kernel_rfl) (by simp) ?_
          refine AllReady.cons rfl (fun K hK => ?_) AllReady.nil
          go_simp
          first | (refine hK _ _ ?_; clear hK K) | skip
          refine wpAny_ready (rs := [9]) (by kernel_rfl) (by simp) ?_
          refine AllReady.cons rfl (fun K hK => ?_) AllReady.nil
          go_simp
          first | (refine hK _ _ ?_; clear hK K) | skip
          refine wpAny_ready (rs := [10]) (by kernel_rfl) (by simp) ?_
          refine AllReady.cons rfl (fun K hK => ?_) AllReady.nil
          go_simp
          first | (refine hK _ _ ?_; clear hK K) | skip
          refine wpAny_ready (rs := [11]) (by kernel_rfl) (by simp) ?_
          refine AllReady.cons rfl (fun K hK => ?_) AllReady.nil
          go_simp
          first | (refine hK _ _ ?_; clear hK K) | skip
          refine wpAny_ready (rs := [12]) (by kernel_rfl) (by simp) ?_
          refine AllReady.cons rfl (fun K hK => ?_) AllReady.nil
          go_simp
          first | (refine hK _ _ ?_; clear hK K) | skip
          refine wpAny_namedA (fun A hA => ?_)
          have h83 : A.tmps[83]? = some undef := by rw [hA]; rfl
          have h79 : A.tmps[79]? = some (.bool true) := by rw [hA]; rfl
          refine wpAny_take (i := 13) (v := undef) rfl (by kernel_rfl) (by kernel_rfl) (by kernel_rfl) (fun _ _ _ h => h) (Or.inr ⟨not_wantedA rfl rfl rfl h83 rfl, rfl⟩) ?_
          have h83 := put_farA (d := 84) (v := undef) h83 (by decide)
          have h79 := put_farA (d := 84) (v := undef) h79 (by decide)
          refine wpAny_take (i := 14) (v := undef) rfl (by kernel_rfl) (by kernel_rfl) (by kernel_rfl) (fun _ _ _ h => h) (Or.inr ⟨not_wantedA rfl rfl rfl h83 rfl, rfl⟩) ?_
          have h83 := put_farA (d := 85) (v := undef) h83 (by decide)
          have h79 := put_farA (d := 85) (v := undef) h79 (by decide)
          refine wpAny_take (i := 15) (v := undef) rfl (by kernel_rfl) (by kernel_rfl) (by kernel_rfl) (fun _ _ _ h => h) (Or.inr ⟨not_wantedA rfl rfl rfl h83 rfl, rfl⟩) ?_
          have h83 := put_farA (d := 86) (v := undef) h83 (by decide)
          have h79 := put_farA (d := 86) (v := undef) h79 (by decide)
          refine wpAny_take (i := 16) (v := undef) rfl (by kernel_rfl) (by kernel_rfl) (by kernel_rfl) (fun _ _ _ h => h) (Or.inr ⟨not_wantedA rfl rfl rfl h83 rfl, rfl⟩) ?_
          have h83 := put_farA (d := 87) (v := undef) h83 (by decide)
          have h79 := put_farA (d := 87) (v := undef) h79 (by decide)
          refine wpAny_take (i := 17) (v := undef) rfl (by kernel_rfl) (by kernel_rfl) (by kernel_rfl) (fun _ _ _ h => h) (Or.inr ⟨not_wantedA rfl rfl rfl h83 rfl, rfl⟩) ?_
          have h83 := put_farA (d := 88) (v := undef) h83 (by decide)
          have h79 := put_farA (d := 88) (v := undef) h79 (by decide)
          refine wpAny_take (i := 18) (v := undef) rfl (by kernel_rfl) (by kernel_rfl) (by kernel_rfl) (fun _ _ _ h => h) (Or.inr ⟨not_wantedA rfl rfl rfl h83 rfl, rfl⟩) ?_
          have h83 := put_farA (d := 89) (v := undef) h83 (by decide)
          have h79 := put_farA (d := 89) (v := undef) h79 (by decide)
          refine wpAny_take (i := 19) (v := undef) rfl (by kernel_rfl) (by kernel_rfl) (by kernel_rfl) (fun _ _ _ h => h) (Or.inr ⟨not_wantedA rfl rfl rfl h83 rfl, rfl⟩) ?_
          have h83 := put_farA (d := 90) (v := undef) h83 (by decide)
          have h79 := put_farA (d := 90) (v := undef) h79 (by decide)
          refine wpAny_take (i := 20) (v := undef) rfl (by kernel_rfl) (by kernel_rfl) (by kernel_rfl) (fun _ _ _ h => h) (Or.inr ⟨not_wantedA rfl rfl rfl h83 rfl, rfl⟩) ?_
          have h83 := put_farA (d := 91) (v := undef) h83 (by decide)
          have h79 := put_farA (d := 91) (v := undef) h79 (by decide)
          refine wpAny_take (i := 21) (v := undef) rfl (by kernel_rfl) (by kernel_rfl) (by kernel_rfl) (fun _ _ _ h => h) (Or.inr ⟨not_wantedA rfl rfl rfl h83 rfl, rfl⟩) ?_
          have h83 := put_farA (d := 92) (v := undef) h83 (by decide)
          have h79 := put_farA (d := 92) (v := undef) h79 (by decide)
          refine wpAny_take (i := 22) (v := undef) rfl (by kernel_rfl) (by kernel_rfl) (by kernel_rfl) (fun _ _ _ h => h) (Or.inr ⟨not_wantedA rfl rfl rfl h83 rfl, rfl⟩) ?_
          have h83 := put_farA (d := 93) (v := undef) h83 (by decide)
          have h79 := put_farA (d := 93) (v := undef) h79 (by decide)
          clear h83 h79
          subst hA
          refine wpAny_ready (rs := [23]) (by kernel_rfl) (by simp) ?_
          refine AllReady.cons rfl (fun K hK => ?_) AllReady.nil
          go_simp
          first | (refine hK _ _ ?_; clear hK K) | skip
          refine wpAny_ready (rs := [24]) (by kernel_rfl) (by simp) ?_
          refine AllReady.cons rfl (fun K hK => ?_) AllReady.nil
          go_simp
          first | (refine hK _ _ ?_; clear hK K) | skip
          refine wpAny_done (by kernel_rfl) ?_ _
          go_wp2
          go_ret2
          exact at_none (by rw [HF2.out]; rfl) X2.out.1
        · go_wp2
          refine wp_region_any (by kernel_rfl) ?_
          try (change wpAny _ _ _ _ _ _ _ (World.drew _))
          refine wpAny_ready (rs := [0]) (by kernel_rfl) (by simp) ?_
          refine AllReady.cons rfl (fun K hK => ?_) AllReady.nil
          go_simp
          first | (refine hK _ _ ?_; clear hK K) | skip
          refine wpAny_ready (rs := [1]) (by kernel_rfl) (by simp) ?_
          refine AllReady.cons rfl (fun K hK => ?_) AllReady.nil
          go_simp
          first | (refine hK _ _ ?_; clear hK K) | skip
          refine wpAny_ready (rs := [2]) (by kernel_rfl) (by simp) ?_
          refine AllReady.cons rfl (fun K hK => ?_) AllReady.nil
          go_simp
          first | (refine hK _ _ ?_; clear hK K) | skip
          refine wpAny_ready (rs := [3]) (by kernel_rfl) (by simp) ?_
          refine AllReady.cons rfl (fun K hK => ?_) AllReady.nil
          go_simp
          first | (refine hK _ _ ?_; clear hK K) | skip
          refine wpAny_ready (rs := [4]) (by kernel_rfl) (by simp) ?_
          refine AllReady.cons rfl (fun K hK => ?_) AllReady.nil
          go_simp
          first | (refine hK _ _ ?_; clear hK K) | skip
          refine wpAny_ready (rs := [5]) (by kernel_rfl) (by simp) ?_
          refine AllReady.cons rfl (fun K hK => ?_) AllReady.nil
          go_simp
          go_wp2_with (first | (go_at_call 48; refine CN2.out.mono ?_; rintro r w3 ⟨rfl, hb3⟩; have X2 := hide (atO_go (atO_drew XX.out) hb3); clear hb3))
          first | (refine hK _ _ ?_; clear hK K) | skip
          refine wpAny_ready (rs := [6]) (by kernel_rfl) (by simp) ?_
          refine AllReady.cons rfl (fun K hK => ?_) AllReady.nil
          go_simp
          first | (refine hK _ _ ?_; clear hK K) | skip
          refine wpAny_ready (rs := [7]) (by kernel_rfl) (by simp) ?_
          refine AllReady.cons rfl (fun K hK => ?_) AllReady.nil
          go_simp
          first | (refine hK _ _ ?_; clear hK K) | skip
          refine wpAny_ready (rs := [8]) (by kernel_rfl) (by simp) ?_
          refine AllReady.cons rfl (fun K hK => ?_) AllReady.nil
          go_simp
          first | (refine hK _ _ ?_; clear hK K) | skip
          refine wpAny_ready (rs := [9]) (by kernel_rfl) (by simp) ?_
          refine AllReady.cons rfl (fun K hK => ?_) AllReady.nil
          go_simp
          first | (refine hK _ _ ?_; clear hK K) | skip
          refine wpAny_ready (rs := [10]) (by kernel_rfl) (by simp) ?_
          refine AllReady.cons rfl (fun K hK => ?_) AllReady.nil
          go_simp
          first | (refine hK _ _ ?_; clear hK K) | skip
          refine wpAny_ready (rs := [11]) (by kernel_rfl) (by simp) ?_
          refine AllReady.cons rfl (fun K hK => ?_) AllReady.nil
          go_simp
          first | (refine hK _ _ ?_; clear hK K) | skip
          refine wpAny_ready (rs := [12]) (by kernel_rfl) (by simp) ?_
          refine AllReady.cons rfl (fun K hK => ?_) AllReady.nil
          go_simp
          first | (refine hK _ _ ?_; clear hK K) | skip
          refine wpAny_namedA (fun A hA => ?_)
          have h83 : A.tmps[83]? = some (.bool false) := by rw [hA]; rfl
          have h79 : A.tmps[79]? = some (.bool false) := by rw [hA]; rfl
          refine wpAny_take (i := 13) (v := undef) rfl (by kernel_rfl) (by kernel_rfl) (by kernel_rfl) (fun _ _ _ h => h) (Or.inr ⟨not_wantedA rfl rfl rfl h83 rfl, rfl⟩) ?_
          have h83 := put_farA (d := 84) (v := undef) h83 (by decide)
          have h79 := put_farA (d := 84) (v := undef) h79 (by decide)
          refine wpAny_take (i := 14) (v := undef) rfl (by kernel_rfl) (by kernel_rfl) (by kernel_rfl) (fun _ _ _ h => h) (Or.inr ⟨not_wantedA rfl rfl rfl h83 rfl, rfl⟩) ?_
          have h83 := put_farA (d := 85) (v := undef) h83 (by decide)
          have h79 := put_farA (d := 85) (v := undef) h79 (by decide)
          refine wpAny_take (i := 15) (v := undef) rfl (by kernel_rfl) (by kernel_rfl) (by kernel_rfl) (fun _ _ _ h => h) (Or.inr ⟨not_wantedA rfl rfl rfl h83 rfl, rfl⟩) ?_
          have h83 := put_farA (d := 86) (v := undef) h83 (by decide)
          have h79 := put_farA (d := 86) (v := undef) h79 (by decide)
          refine wpAny_take (i := 16) (v := undef) rfl (by kernel_rfl) (by kernel_rfl) (by kernel_rfl) (fun _ _ _ h => h) (Or.inr ⟨not_wantedA rfl rfl rfl h83 rfl, rfl⟩) ?_
          have h83 := put_farA (d := 87) (v := undef) h83 (by decide)
          have h79 := put_farA (d := 87) (v := undef) h79 (by decide)
          refine wpAny_take (i := 17) (v := undef) rfl (by kernel_rfl) (by kernel_rfl) (by kernel_rfl) (fun _ _ _ h => h) (Or.inr ⟨not_wantedA rfl rfl rfl h83 rfl, rfl⟩) ?_
          have h83 := put_farA (d := 88) (v := undef) h83 (by decide)
          have h79 := put_farA (d := 88) (v := undef) h79 (by decide)
          refine wpAny_take (i := 18) (v := undef) rfl (by kernel_rfl) (by kernel_rfl) (by kernel_rfl) (fun _ _ _ h => h) (Or.inr ⟨not_wantedA rfl rfl rfl h83 rfl, rfl⟩) ?_
          have h83 := put_farA (d := 89) (v := undef) h83 (by decide)
          have h79 := put_farA (d := 89) (v := undef) h79 (by decide)
          refine wpAny_take (i := 19) (v := undef) rfl (by kernel_rfl) (by kernel_rfl) (by kernel_rfl) (fun _ _ _ h => h) (Or.inr ⟨not_wantedA rfl rfl rfl h83 rfl, rfl⟩) ?_
          have h83 := put_farA (d := 90) (v := undef) h83 (by decide)
          have h79 := put_farA (d := 90) (v := undef) h79 (by decide)
          refine wpAny_take (i := 20) (v := undef) rfl (by kernel_rfl) (by kernel_rfl) (by kernel_rfl) (fun _ _ _ h => h) (Or.inr ⟨not_wantedA rfl rfl rfl h83 rfl, rfl⟩) ?_
          have h83 := put_farA (d := 91) (v := undef) h83 (by decide)
          have h79 := put_farA (d := 91) (v := undef) h79 (by decide)
          refine wpAny_take (i := 21) (v := undef) rfl (by kernel_rfl) (by kernel_rfl) (by kernel_rfl) (fun _ _ _ h => h) (Or.inr ⟨not_wantedA rfl rfl rfl h83 rfl, rfl⟩) ?_
          have h83 := put_farA (d := 92) (v := undef) h83 (by decide)
          have h79 := put_farA (d := 92) (v := undef) h79 (by decide)
          refine wpAny_take (i := 22) (v := undef) rfl (by kernel_rfl) (by kernel_rfl) (by kernel_rfl) (fun _ _ _ h => h) (Or.inr ⟨not_wantedA rfl rfl rfl h83 rfl, rfl⟩) ?_
          have h83 := put_farA (d := 93) (v := undef) h83 (by decide)
          have h79 := put_farA (d := 93) (v := undef) h79 (by decide)
          clear h83 h79
          subst hA
          refine wpAny_ready (rs := [23]) (by kernel_rfl) (by simp) ?_
          refine AllReady.cons rfl (fun K hK => ?_) AllReady.nil
          go_simp
          first | (refine hK _ _ ?_; clear hK K) | skip
          refine wpAny_ready (rs := [24]) (by kernel_rfl) (by simp) ?_
          refine AllReady.cons rfl (fun K hK => ?_) AllReady.nil
          go_simp
          first | (refine hK _ _ ?_; clear hK K) | skip
          refine wpAny_done (by kernel_rfl) ?_ _
          go_wp2
          go_ret2
          exact at_some (by rw [HF2.out]; rfl) X2.out.2 X2.out.1
      · have hLp : 0 < L.length := by rw [HLT.out]; omega
        obtain ⟨z, hzl⟩ : ∃ z, L.getLast? = some z := by
          cases hl : L.getLast? with
          | none => rw [List.getLast?_eq_none_iff] at hl; rw [hl] at hLp; exact absurd hLp (Nat.lt_irrefl _)
          | some z => exact ⟨z, rfl⟩
        obtain ⟨g, rfl, -, hgl, hcs⟩ := intR_cells HO.out hLp
        have o0 := hcs (L.length - 1) (by omega)
        have hzz : L[L.length - 1]?.getD 0 = z := by rw [← List.getLast?_eq_getElem?, hzl]; rfl
        rw [hzz] at o0
        have e1 : ((t : Int) == 0) = false := by rw [beq_eq_false_iff_ne]; omega
        have e2 : decide ((t : Int) > 0) = true := by rw [decide_eq_true_eq]; omega
        have e3 : (0 : Int) < (t : Int) := by omega
        have e4 : 0 < t := by omega
        have hnn : (L.length : Int) - 1 = ((L.length - 1 : Nat) : Int) := by omega
        have hwp : IntKind.i64.wrap ((L.length - 1 : Nat) : Int) = ((L.length - 1 : Nat) : Int) := by rw [IntKind.wrap_i64]; omega
        have hlo : (0 : Int) ≤ ((L.length - 1 : Nat) : Int) := by omega
        have hhi : ((L.length - 1 : Nat) : Int) < (L.length : Int) := by omega
        have hlal := laV_len (D := D)
        have XX : Hid (AtO w wr (some ⟨g, 0, none⟩) oc L) := ⟨HB.out, HO.out⟩
        have HBd := hide HB.out.drew
        have HF2 : Hid (arA D W = if decide (z ∈ laV D) = true then some L else none) := hide (by have := HF.out; unfold finA at this; rw [hzl] at this; exact this)
        obtain ⟨V, hV⟩ : ∃ V, decide (z ∈ laV D) = V := ⟨_, rfl⟩
        have HVZ := hide hV
        rw [hV] at HF2
        clear hV hzz hzl hcs HB HO HN hm0
        cases V
        · go_wp2
          refine wp_region_any (by kernel_rfl) ?_
          try (change wpAny _ _ _ _ _ _ _ (World.drew _))
          refine wpAny_ready (rs := [0]) (by kernel_rfl) (by simp) ?_
          refine AllReady.cons rfl (fun K hK => ?_) AllReady.nil
          go_simp
          first | (refine hK _ _ ?_; clear hK K) | skip
          refine wpAny_ready (rs := [1]) (by kernel_rfl) (by simp) ?_
          refine AllReady.cons rfl (fun K hK => ?_) AllReady.nil
          go_simp
          first | (refine hK _ _ ?_; clear hK K) | skip
          refine wpAny_ready (rs := [2]) (by kernel_rfl) (by simp) ?_
          refine AllReady.cons rfl (fun K hK => ?_) AllReady.nil
          go_simp
          first | (refine hK _ _ ?_; clear hK K) | skip
          refine wpAny_ready (rs := [3]) (by kernel_rfl) (by simp) ?_
          refine AllReady.cons rfl (fun K hK => ?_) AllReady.nil
          go_simp
          first | (refine hK _ _ ?_; clear hK K) | skip
          refine wpAny_ready (rs := [4]) (by kernel_rfl) (by simp) ?_
          refine AllReady.cons rfl (fun K hK => ?_) AllReady.nil
          go_simp
          first | (refine hK _ _ ?_; clear hK K) | skip
          refine wpAny_ready (rs := [5]) (by kernel_rfl) (by simp) ?_
          refine AllReady.cons rfl (fun K hK => ?_) AllReady.nil
          go_simp
          first | (refine hK _ _ ?_; clear hK K) | skip
          refine wpAny_ready (rs := [6]) (by kernel_rfl) (by simp) ?_
          refine AllReady.cons rfl (fun K hK => ?_) AllReady.nil
          go_simp
          first | (refine hK _ _ ?_; clear hK K) | skip
          refine wpAny_ready (rs := [7]) (by kernel_rfl) (by simp) ?_
          refine AllReady.cons rfl (fun K hK => ?_) AllReady.nil
          go_simp
          first | (refine hK _ _ ?_; clear hK K) | skip
          refine wpAny_ready (rs := [8]) (by kernel_rfl) (by simp) ?_
          refine AllReady.cons rfl (fun K hK => ?_) AllReady.nil
          go_simp
          first | (refine hK _ _ ?_; clear hK K) | skip
          refine wpAny_ready (rs := [9]) (by kernel_rfl) (by simp) ?_
          refine AllReady.cons rfl (fun K hK => ?_) AllReady.nil
          go_simp
          first | (refine hK _ _ ?_; clear hK K) | skip
          refine wpAny_ready (rs := [10]) (by kernel_rfl) (by simp) ?_
          refine AllReady.cons rfl (fun K hK => ?_) AllReady.nil
          go_simp
          first | (refine hK _ _ ?_; clear hK K) | skip
          refine wpAny_ready (rs := [11]) (by kernel_rfl) (by simp) ?_
          refine AllReady.cons rfl (fun K hK => ?_) AllReady.nil
          go_simp
          first | (refine hK _ _ ?_; clear hK K) | skip
          refine wpAny_ready (rs := [12]) (by kernel_rfl) (by simp) ?_
          refine AllReady.cons rfl (fun K hK => ?_) AllReady.nil
          go_simp
          first | (refine hK _ _ ?_; clear hK K) | skip
          refine wpAny_take (i := 13) (v := (.slice (some ⟨b0, off, none⟩) n cap)) rfl (by kernel_rfl) (by kernel_rfl) (by kernel_rfl) (fun _ _ _ h => h) (Or.inl ⟨by kernel_rfl, ?hy⟩) ?_
          case hy => (intro w; go_simp; try with_reducible rfl)
          refine wpAny_take (i := 15) (v := (.slice (some ⟨g, 0, none⟩) L.length oc)) rfl (by kernel_rfl) (by kernel_rfl) (by kernel_rfl) (fun _ _ _ h => h) (Or.inl ⟨by kernel_rfl, ?hy⟩) ?_
          case hy => (intro w; go_simp; try with_reducible rfl)
          refine wpAny_take (i := 16) (v := (.slice (some ⟨g, 0, none⟩) L.length oc)) rfl (by kernel_rfl) (by kernel_rfl) (by kernel_rfl) (fun _ _ _ h => h) (Or.inl ⟨by kernel_rfl, ?hy⟩) ?_
          case hy => (intro w; go_simp; try with_reducible rfl)
          refine wpAny_take (i := 17) (v := (.int .i64 (L.length : Int))) rfl (by kernel_rfl) (by kernel_rfl) (by kernel_rfl) (fun _ _ _ h => h) (Or.inl ⟨by kernel_rfl, ?hy⟩) ?_
          case hy => (intro w; go_simp; try with_reducible rfl)
          refine wpAny_take (i := 18) (v := (.int .i64 ((L.length - 1 : Nat) : Int))) rfl (by kernel_rfl) (by kernel_rfl) (by kernel_rfl) (fun _ _ _ h => h) (Or.inl ⟨by kernel_rfl, ?hy⟩) ?_
          case hy => (intro w; go_simp; try with_reducible rfl)
          refine wpAny_take (i := 19) (v := ?v) rfl (by kernel_rfl) (by kernel_rfl) (by kernel_rfl) (fun _ _ _ h => h) (Or.inl ⟨by kernel_rfl, ?hy⟩) ?_
          case hy => (intro w; go_simp; try with_reducible rfl)
          refine wpAny_ready (rs := [14, 20]) (by kernel_rfl) (by simp) ?_
          refine AllReady.cons rfl (fun K hK => ?_) (AllReady.cons rfl (fun K hK => ?_) AllReady.nil)
          · go_simp
            go_wp2_with (first | (go_at_call 50; refine (CLA.out wr.drew HBd.out).mono ?_; rintro r w3 ⟨ad3, c3, rfl, ho3, hb3⟩; have HR3 := hide (own_rowAt9 ho3); have X2 := hide (atO_go (atO_drew XX.out) hb3); have o3 := (hb3.cell (p := ⟨g, L.length - 1, none⟩) hgl).trans o0; clear ho3 hb3))
            first | (refine hK _ _ ?_; clear hK K) | skip
            refine wpAny_ready (rs := [20]) (by kernel_rfl) (by simp) ?_
            refine AllReady.cons rfl (fun K hK => ?_) AllReady.nil
            go_simp
            first | (refine hK _ _ ?_; clear hK K) | skip
            refine wpAny_ready (rs := [21]) (by kernel_rfl) (by simp) ?_
            refine AllReady.cons rfl (fun K hK => ?_) AllReady.nil
            go_simp
            go_wp2_with (first | (go_at_call 49; refine (s_has ad3 _ c3 (laV D) z w3 rfl (by omega) HR3.out).mono ?_; rintro r9 w9 ⟨rfl, h9⟩; rw [h9, HVZ.out]; clear h9 w9))
            first | (refine hK _ _ ?_; clear hK K) | skip
            refine wpAny_take (i := 22) (v := (.bool true)) rfl (by kernel_rfl) (by kernel_rfl) (by kernel_rfl) (fun _ _ _ h => h) (Or.inl ⟨by kernel_rfl, ?hy⟩) ?_
            case hy => (intro w; go_simp; try with_reducible rfl)
            refine wpAny_take (i := 23) (v := (.bool true)) rfl (by kernel_rfl) (by kernel_rfl) (by kernel_rfl) (fun _ _ _ h => h) (Or.inl ⟨by kernel_rfl, ?hy⟩) ?_
            case hy => (intro w; go_simp; try with_reducible rfl)
            refine wpAny_take (i := 24) (v := (.bool true)) rfl (by kernel_rfl) (by kernel_rfl) (by kernel_rfl) (fun _ _ _ h => h) (Or.inl ⟨by kernel_rfl, ?hy⟩) ?_
            case hy => (intro w; go_simp; try with_reducible rfl)
            refine wpAny_done (by kernel_rfl) ?_ _
            go_wp2
            go_ret2
            exact at_none (by rw [HF2.out]; rfl) X2.out.1
          · go_simp
            first | (refine hK _ _ ?_; clear hK K) | skip
            refine wpAny_ready (rs := [14]) (by kernel_rfl) (by simp) ?_
            refine AllReady.cons rfl (fun K hK => ?_) AllReady.nil
            go_simp
            go_wp2_with (first | (go_at_call 50; refine (CLA.out wr.drew HBd.out).mono ?_; rintro r w3 ⟨ad3, c3, rfl, ho3, hb3⟩; have HR3 := hide (own_rowAt9 ho3); have X2 := hide (atO_go (atO_drew XX.out) hb3); have o3 := (hb3.cell (p := ⟨g, L.length - 1, none⟩) hgl).trans o0; clear ho3 hb3))
            first | (refine hK _ _ ?_; clear hK K) | skip
            refine wpAny_ready (rs := [21]) (by kernel_rfl) (by simp) ?_
            refine AllReady.cons rfl (fun K hK => ?_) AllReady.nil
            go_simp
            go_wp2_with (first | (go_at_call 49; refine (s_has ad3 _ c3 (laV D) z w3 rfl (by omega) HR3.out).mono ?_; rintro r9 w9 ⟨rfl, h9⟩; rw [h9, HVZ.out]; clear h9 w9))
            first | (refine hK _ _ ?_; clear hK K) | skip
            refine wpAny_take (i := 22) (v := (.bool true)) rfl (by kernel_rfl) (by kernel_rfl) (by kernel_rfl) (fun _ _ _ h => h) (Or.inl ⟨by kernel_rfl, ?hy⟩) ?_
            case hy => (intro w; go_simp; try with_reducible rfl)
            refine wpAny_take (i := 23) (v := (.bool true)) rfl (by kernel_rfl) (by kernel_rfl) (by kernel_rfl) (fun _ _ _ h => h) (Or.inl ⟨by kernel_rfl, ?hy⟩) ?_
            case hy => (intro w; go_simp; try with_reducible rfl)
            refine wpAny_take (i := 24) (v := (.bool true)) rfl (by kernel_rfl) (by kernel_rfl) (by kernel_rfl) (fun _ _ _ h => h) (Or.inl ⟨by kernel_rfl, ?hy⟩) ?_
            case hy => (intro w; go_simp; try with_reducible rfl)
            refine wpAny_done (by kernel_rfl) ?_ _
            go_wp2
            go_ret2
            exact at_none (by rw [HF2.out]; rfl) X2.out.1
        · go_wp2
          refine wp_region_any (by kernel_rfl) ?_
          try (change wpAny _ _ _ _ _ _ _ (World.drew _))
          refine wpAny_ready (rs := [0]) (by kernel_rfl) (by simp) ?_
          refine AllReady.cons rfl (fun K hK => ?_) AllReady.nil
          go_simp
          first | (refine hK _ _ ?_; clear hK K) | skip
          refine wpAny_ready (rs := [1]) (by kernel_rfl) (by simp) ?_
          refine AllReady.cons rfl (fun K hK => ?_) AllReady.nil
          go_simp
          first | (refine hK _ _ ?_; clear hK K) | skip
          refine wpAny_ready (rs := [2]) (by kernel_rfl) (by simp) ?_
          refine AllReady.cons rfl (fun K hK => ?_) AllReady.nil
          go_simp
          first | (refine hK _ _ ?_; clear hK K) | skip
          refine wpAny_ready (rs := [3]) (by kernel_rfl) (by simp) ?_
          refine AllReady.cons rfl (fun K hK => ?_) AllReady.nil
          go_simp
          first | (refine hK _ _ ?_; clear hK K) | skip
          refine wpAny_ready (rs := [4]) (by kernel_rfl) (by simp) ?_
          refine AllReady.cons rfl (fun K hK => ?_) AllReady.nil
          go_simp
          first | (refine hK _ _ ?_; clear hK K) | skip
          refine wpAny_ready (rs := [5]) (by kernel_rfl) (by simp) ?_
          refine AllReady.cons rfl (fun K hK => ?_) AllReady.nil
          go_simp
          first | (refine hK _ _ ?_; clear hK K) | skip
          refine wpAny_ready (rs := [6]) (by kernel_rfl) (by simp) ?_
          refine AllReady.cons rfl (fun K hK => ?_) AllReady.nil
          go_simp
          first | (refine hK _ _ ?_; clear hK K) | skip
          refine wpAny_ready (rs := [7]) (by kernel_rfl) (by simp) ?_
          refine AllReady.cons rfl (fun K hK => ?_) AllReady.nil
          go_simp
          first | (refine hK _ _ ?_; clear hK K) | skip
          refine wpAny_ready (rs := [8]) (by kernel_rfl) (by simp) ?_
          refine AllReady.cons rfl (fun K hK => ?_) AllReady.nil
          go_simp
          first | (refine hK _ _ ?_; clear hK K) | skip
          refine wpAny_ready (rs := [9]) (by kernel_rfl) (by simp) ?_
          refine AllReady.cons rfl (fun K hK => ?_) AllReady.nil
          go_simp
          first | (refine hK _ _ ?_; clear hK K) | skip
          refine wpAny_ready (rs := [10]) (by kernel_rfl) (by simp) ?_
          refine AllReady.cons rfl (fun K hK => ?_) AllReady.nil
          go_simp
          first | (refine hK _ _ ?_; clear hK K) | skip
          refine wpAny_ready (rs := [11]) (by kernel_rfl) (by simp) ?_
          refine AllReady.cons rfl (fun K hK => ?_) AllReady.nil
          go_simp
          first | (refine hK _ _ ?_; clear hK K) | skip
          refine wpAny_ready (rs := [12]) (by kernel_rfl) (by simp) ?_
          refine AllReady.cons rfl (fun K hK => ?_) AllReady.nil
          go_simp
          first | (refine hK _ _ ?_; clear hK K) | skip
          refine wpAny_take (i := 13) (v := (.slice (some ⟨b0, off, none⟩) n cap)) rfl (by kernel_rfl) (by kernel_rfl) (by kernel_rfl) (fun _ _ _ h => h) (Or.inl ⟨by kernel_rfl, ?hy⟩) ?_
          case hy => (intro w; go_simp; try with_reducible rfl)
          refine wpAny_take (i := 15) (v := (.slice (some ⟨g, 0, none⟩) L.length oc)) rfl (by kernel_rfl) (by kernel_rfl) (by kernel_rfl) (fun _ _ _ h => h) (Or.inl ⟨by kernel_rfl, ?hy⟩) ?_
          case hy => (intro w; go_simp; try with_reducible rfl)
          refine wpAny_take (i := 16) (v := (.slice (some ⟨g, 0, none⟩) L.length oc)) rfl (by kernel_rfl) (by kernel_rfl) (by kernel_rfl) (fun _ _ _ h => h) (Or.inl ⟨by kernel_rfl, ?hy⟩) ?_
          case hy => (intro w; go_simp; try with_reducible rfl)
          refine wpAny_take (i := 17) (v := (.int .i64 (L.length : Int))) rfl (by kernel_rfl) (by kernel_rfl) (by kernel_rfl) (fun _ _ _ h => h) (Or.inl ⟨by kernel_rfl, ?hy⟩) ?_
          case hy => (intro w; go_simp; try with_reducible rfl)
          refine wpAny_take (i := 18) (v := (.int .i64 ((L.length - 1 : Nat) : Int))) rfl (by kernel_rfl) (by kernel_rfl) (by kernel_rfl) (fun _ _ _ h => h) (Or.inl ⟨by kernel_rfl, ?hy⟩) ?_
          case hy => (intro w; go_simp; try with_reducible rfl)
          refine wpAny_take (i := 19) (v := ?v) rfl (by kernel_rfl) (by kernel_rfl) (by kernel_rfl) (fun _ _ _ h => h) (Or.inl ⟨by kernel_rfl, ?hy⟩) ?_
          case hy => (intro w; go_simp; try with_reducible rfl)
          refine wpAny_ready (rs := [14, 20]) (by kernel_rfl) (by simp) ?_
          refine AllReady.cons rfl (fun K hK => ?_) (AllReady.cons rfl (fun K hK => ?_) AllReady.nil)
          · go_simp
            go_wp2_with (first | (go_at_call 50; refine (CLA.out wr.drew HBd.out).mono ?_; rintro r w3 ⟨ad3, c3, rfl, ho3, hb3⟩; have HR3 := hide (own_rowAt9 ho3); have X2 := hide (atO_go (atO_drew XX.out) hb3); have o3 := (hb3.cell (p := ⟨g, L.length - 1, none⟩) hgl).trans o0; clear ho3 hb3))
            first | (refine hK _ _ ?_; clear hK K) | skip
            refine wpAny_ready (rs := [20]) (by kernel_rfl) (by simp) ?_
            refine AllReady.cons rfl (fun K hK => ?_) AllReady.nil
            go_simp
            first | (refine hK _ _ ?_; clear hK K) | skip
            refine wpAny_ready (rs := [21]) (by kernel_rfl) (by simp) ?_
            refine AllReady.cons rfl (fun K hK => ?_) AllReady.nil
            go_simp
            go_wp2_with (first | (go_at_call 49; refine (s_has ad3 _ c3 (laV D) z w3 rfl (by omega) HR3.out).mono ?_; rintro r9 w9 ⟨rfl, h9⟩; rw [h9, HVZ.out]; clear h9 w9))
            first | (refine hK _ _ ?_; clear hK K) | skip
            refine wpAny_take (i := 22) (v := (.bool false)) rfl (by kernel_rfl) (by kernel_rfl) (by kernel_rfl) (fun _ _ _ h => h) (Or.inl ⟨by kernel_rfl, ?hy⟩) ?_
            case hy => (intro w; go_simp; try with_reducible rfl)
            refine wpAny_take (i := 23) (v := (.bool false)) rfl (by kernel_rfl) (by kernel_rfl) (by kernel_rfl) (fun _ _ _ h => h) (Or.inl ⟨by kernel_rfl, ?hy⟩) ?_
            case hy => (intro w; go_simp; try with_reducible rfl)
            refine wpAny_take (i := 24) (v := (.bool false)) rfl (by kernel_rfl) (by kernel_rfl) (by kernel_rfl) (fun _ _ _ h => h) (Or.inl ⟨by kernel_rfl, ?hy⟩) ?_
            case hy => (intro w; go_simp; try with_reducible rfl)
            refine wpAny_done (by kernel_rfl) ?_ _
            go_wp2
            go_ret2
            exact at_some (by rw [HF2.out]; rfl) X2.out.2 X2.out.1
          · go_simp
            first | (refine hK _ _ ?_; clear hK K) | skip
            refine wpAny_ready (rs := [14]) (by kernel_rfl) (by simp) ?_
            refine AllReady.cons rfl (fun K hK => ?_) AllReady.nil
            go_simp
            go_wp2_with (first | (go_at_call 50; refine (CLA.out wr.drew HBd.out).mono ?_; rintro r w3 ⟨ad3, c3, rfl, ho3, hb3⟩; have HR3 := hide (own_rowAt9 ho3); have X2 := hide (atO_go (atO_drew XX.out) hb3); have o3 := (hb3.cell (p := ⟨g, L.length - 1, none⟩) hgl).trans o0; clear ho3 hb3))
            first | (refine hK _ _ ?_; clear hK K) | skip
            refine wpAny_ready (rs := [21]) (by kernel_rfl) (by simp) ?_
            refine AllReady.cons rfl (fun K hK => ?_) AllReady.nil
            go_simp
            go_wp2_with (first | (go_at_call 49; refine (s_has ad3 _ c3 (laV D) z w3 rfl (by omega) HR3.out).mono ?_; rintro r9 w9 ⟨rfl, h9⟩; rw [h9, HVZ.out]; clear h9 w9))
            first | (refine hK _ _ ?_; clear hK K) | skip
            refine wpAny_take (i := 22) (v := (.bool false)) rfl (by kernel_rfl) (by kernel_rfl) (by kernel_rfl) (fun _ _ _ h => h) (Or.inl ⟨by kernel_rfl, ?hy⟩) ?_
            case hy => (intro w; go_simp; try with_reducible rfl)
            refine wpAny_take (i := 23) (v := (.bool false)) rfl (by kernel_rfl) (by kernel_rfl) (by kernel_rfl) (fun _ _ _ h => h) (Or.inl ⟨by kernel_rfl, ?hy⟩) ?_
            case hy => (intro w; go_simp; try with_reducible rfl)
            refine wpAny_take (i := 24) (v := (.bool false)) rfl (by kernel_rfl) (by kernel_rfl) (by kernel_rfl) (fun _ _ _ h => h) (Or.inl ⟨by kernel_rfl, ?hy⟩) ?_
            case hy => (intro w; go_simp; try with_reducible rfl)
            refine wpAny_done (by kernel_rfl) ?_ _
            go_wp2
            go_ret2
            exact at_some (by rw [HF2.out]; rfl) X2.out.2 X2.out.1
end Go.Proofs.YtfohfljdgmlibaaDoor
