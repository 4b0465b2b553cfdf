/-
  Texts put together: SmI, SmV.
-/
import Derived.Test.YtfohfljdgmlibaaDoorR28
import Derived.Test.YtfohfljdgmlibaaDoorR22
/-
  Contracts: the shortest row of a node, by the program.
-/
namespace Go.Proofs.YtfohfljdgmlibaaDoor
open Go.RowKit Go.Joins
set_option linter.unusedVariables false
set_option linter.unusedSimpArgs false
theorem i_opt (oc : Int) (w : World) : Calls Tryd.prog 71 #[.int .i64 oc] w fun r w' => r = .returned (.bool (decide (oc = 1 ∨ oc = 2))) ∧ w' = w := by
  by_cases h1 : oc = 1
  · subst h1
    go_enter Tryd.func71, Tryd.ntmps71
    go_wp2
    go_ret
    exact ⟨rfl, rfl⟩
  · have f1 : (oc == 1) = false := by simpa using h1
    by_cases h2 : oc = 2
    · subst h2
      go_enter Tryd.func71, Tryd.ntmps71
      go_wp2
      go_ret
      exact ⟨rfl, rfl⟩
    · have f2 : (oc == 2) = false := by simpa using h2
      have HD : Hid (decide (oc = 1 ∨ oc = 2) = false) := hide (by simp [h1, h2])
      clear h1 h2
      go_enter Tryd.func71, Tryd.ntmps71
      go_wp2
      go_ret
      exact ⟨by rw [HD.out]; rfl, rfl⟩
set_option maxRecDepth 100000 in
set_option maxHeartbeats 4000000 in
theorem i_least (D : Pn) (n b0 off cap : Nat) (L : List Int) (len : Nat) (ad : Option Addr) (cp : Nat) (w : World) (hlen : L.length = len) (hl2 : 2 ≤ len) (hll : len ≤ cp) (hlx : len ≤ 1048576) (hbs : b0 < w.heap.size) (hr : PnRow w b0 off D w.heap.size) (hat : RowAt .i64 w ad L w.heap.size)
    (hI : ∀ q ∈ L, ∀ W : World, b0 < W.heap.size → PnRow W b0 off D W.heap.size → Calls Tryd.prog 54 #[.slice (some ⟨b0, off, none⟩) n cap, .int .i64 q] W (SmAns (sm D q.toNat) W)) :
    Calls Tryd.prog 83 #[.slice (some ⟨b0, off, none⟩) n cap, .slice ad len cp] w (SmAns (lsL (L.map fun k => sm D k.toNat)) w) := by
  have HR := hide hr
  have HI := hide hI
  have HLN := hide hlen
  obtain ⟨TS, hTS⟩ : ∃ TS, (L.map fun k => sm D k.toNat) = TS := ⟨_, rfl⟩
  rw [hTS]
  have HTS := hide hTS
  have HTL : Hid (TS.length = len) := hide (by rw [← hTS, List.length_map, hlen])
  obtain ⟨b9, off9, rfl, hb9, hc9⟩ := hat (fun h => by rw [h] at hlen; simp at hlen; omega)
  have HC9 := hide hc9
  have k0 := hc9 0 (by omega)
  have C0 := hide (hI (L[0]?.getD 0) (by rw [List.getElem?_eq_getElem (by omega)]; exact List.getElem_mem (by omega)) w hbs hr)
  have HT0 : Hid (TS[0]?.getD [] = sm D (L[0]?.getD 0).toNat) := hide (by rw [← hTS, List.getElem?_map, List.getElem?_eq_getElem (by omega)]; rfl)
  rw [← HT0.out] at C0
  have HF0 : Hid (lsL (TS.take 1) = TS[0]?.getD []) := hide (ls_first TS (by rw [HTL.out]; omega))
  rw [← HF0.out] at C0
  obtain ⟨v, hv⟩ : ∃ v, L[0]?.getD 0 = v := ⟨_, rfl⟩
  rw [hv] at k0 C0
  rw [Nat.add_zero] at k0
  have hleni : (1 : Int) ≤ (len : Int) := by omega
  have hlen0 : (0 : Int) < (len : Int) := by omega
  have hcpi : (len : Int) ≤ (cp : Int) := by omega
  clear hr hat hI hlen hTS hc9 hv HT0
  go_enter Tryd.func83, Tryd.ntmps83
  go_wp2_with fail
  refine C0.out.mono ?_
  rintro e w1 ⟨ad1, c1, rfl, ho1, hb1⟩
  have HO1 := hide ho1
  have HB1 := hide hb1
  clear ho1 hb1
  go_wp2
  obtain ⟨q, hq⟩ : ∃ q, len - 1 = q := ⟨_, rfl⟩
  rw [hq]
  have HQL : Hid (len = q + 1) := hide (by omega)
  have hqx : q ≤ 1048576 := by omega
  clear hq
  go_loopw [5, 17] (fun sv mv wr => ∃ (m : Nat) (sa : Option Addr) (sc : Nat), m ≤ q ∧ mv = .int .i64 m ∧ sv = .slice sa (lsL (TS.take (m + 1))).length sc ∧ Hid (StrR w.heap.size wr sa sc (lsL (TS.take (m + 1)))) ∧ Hid (Below w.heap.size w wr)) (fun _ mv _ => q - (intOf mv).toNat)
  case atStart => exact ⟨0, ad1, c1, Nat.zero_le _, rfl, rfl, HO1, HB1⟩
  case round =>
    obtain ⟨m, sa, sc, hm, rfl, rfl, HS, HB⟩ := hrel
    by_cases hlt : m < q
    · have hmL : m + 1 < L.length := by rw [HLN.out, HQL.out]; omega
      have hmT : m + 1 < TS.length := by rw [HTL.out, HQL.out]; omega
      have k1 := (HB.out.cell (p := ⟨b9, off9 + (m + 1), none⟩) hb9).trans (HC9.out (m + 1) hmL)
      rw [show off9 + (m + 1) = off9 + 1 + m by omega] at k1
      have HTM : Hid (TS[m + 1]?.getD [] = sm D (L[m + 1]?.getD 0).toNat) := hide (by rw [← HTS.out, List.getElem?_map, List.getElem?_eq_getElem hmL]; rfl)
      have CI := hide (HI.out (L[m + 1]?.getD 0) (by rw [List.getElem?_eq_getElem hmL]; exact List.getElem_mem hmL) wr (Nat.lt_of_lt_of_le hbs HB.out.size) (pnRow_up (pnRow_go HR.out hbs HB.out) HB.out.size))
      rw [← HTM.out] at CI
      obtain ⟨u, hu⟩ : ∃ u, L[m + 1]?.getD 0 = u := ⟨_, rfl⟩
      rw [hu] at k1 CI
      have hnx := ls_next TS (m + 1) hmT (by omega)
      obtain ⟨P, hP⟩ : ∃ P, TS[m + 1]?.getD [] = P := ⟨_, rfl⟩
      obtain ⟨F, hF⟩ : ∃ F, lsL (TS.take (m + 1)) = F := ⟨_, rfl⟩
      rw [hP, hF] at hnx
      rw [hP] at CI
      rw [hF] at HS ⊢
      have hmi : (m : Int) < (q : Int) := by omega
      have hm00 : (0 : Int) ≤ (m : Int) := by omega
      clear hu hP hF HTM hmL hmT
      by_cases hpf : P.length < F.length
      · have HNX : Hid (lsL (TS.take (m + 1 + 1)) = P) := hide (by rw [hnx, if_pos hpf])
        have hpi : (P.length : Int) < (F.length : Int) := by omega
        clear hnx
        go_wp2_with fail
        refine CI.out.mono ?_
        rintro e w2 ⟨ad2, c2, rfl, ho2, hb2⟩
        have HP2 := hide (strR_low ho2 HB.out.size)
        have HB2 := hide (HB.out.trans (hb2.mono HB.out.size))
        clear ho2 hb2 k1
        go_wp2
        go_roundw
        case rel => exact ⟨m + 1, ad2, c2, by omega, by go_num, by rw [HNX.out], hide (by rw [HNX.out]; exact HP2.out), HB2⟩
        case measure => simp [intOf]; omega
      · have HNX : Hid (lsL (TS.take (m + 1 + 1)) = F) := hide (by rw [hnx, if_neg hpf])
        have hpi : ¬ (P.length : Int) < (F.length : Int) := by omega
        clear hnx
        go_wp2_with fail
        refine CI.out.mono ?_
        rintro e w2 ⟨ad2, c2, rfl, ho2, hb2⟩
        have HS2 := hide (show StrR w.heap.size w2 sa sc F from gOwn_after HS.out hb2)
        have HB2 := hide (HB.out.trans (hb2.mono HB.out.size))
        clear ho2 hb2 k1
        go_wp2
        go_roundw
        case rel => exact ⟨m + 1, sa, sc, by omega, by go_num, by rw [HNX.out], hide (by rw [HNX.out]; exact HS2.out), HB2⟩
        case measure => simp [intOf]; omega
    · have hmq : m = q := by omega
      subst hmq
      have e : TS.take (m + 1) = TS := by rw [← HQL.out, ← HTL.out]; exact List.take_length
      rw [e] at HS ⊢
      clear e
      go_wp2
      go_ret
      exact ⟨sa, sc, rfl, HS.out, HB.out⟩
set_option maxRecDepth 100000 in
set_option maxHeartbeats 8000000 in
theorem i_sample (D : Pn) (n b0 off cap : Nat) (hRM : RM D n) : ∀ (k i : Nat), i < k → i < n → ∀ w : World, b0 < w.heap.size → PnRow w b0 off D w.heap.size →
    Calls Tryd.prog 54 #[.slice (some ⟨b0, off, none⟩) n cap, .int .i64 i] w (SmAns (sm D i) w)
  | 0, i, hk, hi => by omega
  | k + 1, i, hk, hi => by
    intro w hbs hr
    obtain ⟨i0, hi0, hz0, hz1, hz2⟩ := info_parts infoStr
    have IH := hide (i_sample D n b0 off cap hRM k)
    have HR := hide hr
    have HKID := hide (hRM.2.2.2.1 i hi)
    obtain ⟨ad, cp, hc, hat, hcp⟩ := hr i (by rw [hRM.1]; exact hi)
    obtain ⟨c0, c1, c2, c3⟩ := hc
    have hin : (i : Int) < (n : Int) := by omega
    have hi00 : (0 : Int) ≤ (i : Int) := by omega
    have hn40 := hRM.2.1
    have HEQ := hide (rm_sm hRM hi)
    have htot := rm_smL hRM hi
    have hll := hRM.2.2.2.2.2 i hi
    have h3l := rm_three hRM hi
    have HST := hide (fun (o : Obj) => (Below.refl w.heap.size w).alloc (Nat.le_refl _) o)
    have hkinds := rm_kinds hRM hi
    obtain ⟨K, hK⟩ : ∃ K, D.K i = K := ⟨_, rfl⟩
    obtain ⟨NM, hNM⟩ : ∃ NM, D.NM i = NM := ⟨_, rfl⟩
    obtain ⟨OC, hOC⟩ : ∃ OC, D.OC i = OC := ⟨_, rfl⟩
    obtain ⟨L, hL⟩ : ∃ L, D.KL i = L := ⟨_, rfl⟩
    rw [hK] at c0 HEQ hkinds h3l
    rw [hNM] at c1 HEQ
    rw [hL] at c2 HEQ HKID hat htot hll h3l hcp
    rw [hOC] at c3 HEQ
    have HAT := hide hat
    have HCP := hide hcp
    clear hr hat hK hNM hOC hL hRM hcp
    by_cases ho : OC = 1 ∨ OC = 2
    · have HE : Hid (sm D i = []) := hide (by rw [HEQ.out]; unfold bdS; rw [if_pos ho])
      have CO := hide (fun (W : World) => i_opt OC W)
      rw [decide_eq_true ho] at CO
      clear ho
      go_enter Tryd.func54, Tryd.ntmps54
      go_wp2_with (first | (go_at_call 71; refine (CO.out _).mono ?_; rintro e w9 ⟨rfl, h9⟩; rw [h9]; clear h9 w9))
      go_ret
      refine ⟨none, 0, by rw [HE.out]; rfl, ?_, HST.out _⟩
      rw [HE.out]
      exact strR_nil _ _
    · have HE : Hid (sm D i = if K = 1 then [NM] else if K = 4 then [anyT] else if K = 2 then (L.map fun k => sm D k.toNat).flatten else lsL (L.map fun k => sm D k.toNat)) := hide (by rw [HEQ.out]; unfold bdS; rw [if_neg ho])
      have CO := hide (fun (W : World) => i_opt OC W)
      rw [decide_eq_false ho] at CO
      clear ho HEQ
      rcases hkinds with rfl | rfl | rfl | rfl
      · clear h3l
        go_enter Tryd.func54, Tryd.ntmps54
        go_wp2_with (first | (go_at_call 71; refine (CO.out _).mono ?_; rintro e w9 ⟨rfl, h9⟩; rw [h9]; clear h9 w9))
        go_ret
        refine ⟨_, 1, by rw [HE.out]; rfl, ?_, (HST.out _).alloc (by simp) _⟩
        rw [HE.out]
        exact strR_one2 _ _ _
      · obtain ⟨TS, hTS⟩ : ∃ TS, (L.map fun k => sm D k.toNat) = TS := ⟨_, rfl⟩
        rw [hTS] at HE htot
        have HTS := hide hTS
        have HTL : Hid (TS.length = L.length) := hide (by rw [← hTS, List.length_map])
        have HE2 : Hid (sm D i = (TS.take L.length).flatten) := hide (by rw [HE.out, ← HTL.out, List.take_length]; rfl)
        clear hTS HE h3l
        go_enter Tryd.func54, Tryd.ntmps54
        go_wp2_with (first | (go_at_call 71; refine (CO.out _).mono ?_; rintro e w9 ⟨rfl, h9⟩; rw [h9]; clear h9 w9))
        go_loopw [6, 31] (fun sv mv wr => ∃ (m : Nat) (sa : Option Addr) (sc : Nat), m ≤ L.length ∧ mv = .int .i64 m ∧ sv = .slice sa ((TS.take m).flatten).length sc ∧ Hid (StrR w.heap.size wr sa sc ((TS.take m).flatten)) ∧ Hid (Below w.heap.size w wr)) (fun _ mv _ => L.length - (intOf mv).toNat)
        case atStart => exact ⟨0, none, 0, Nat.zero_le _, rfl, rfl, hide (strR_nil _ _), hide (HST.out _)⟩
        case round =>
          obtain ⟨m, sa, sc, hm, rfl, rfl, HS, HB⟩ := hrel
          by_cases hlt : m < L.length
          · obtain ⟨b9, off9, rfl, hb9, hc9⟩ := HAT.out (fun h => by rw [h] at hlt; exact absurd hlt (Nat.not_lt_zero _))
            have k0 := (HB.out.cell (p := ⟨b9, off9 + m, none⟩) hb9).trans (hc9 m hlt)
            have hmi : (m : Int) < (L.length : Int) := by omega
            have hm0 : (0 : Int) ≤ (m : Int) := by omega
            have hkk := HKID.out (L[m]?.getD 0) (by rw [List.getElem?_eq_getElem hlt]; exact List.getElem_mem hlt)
            have HTM : Hid (TS[m]?.getD [] = sm D (L[m]?.getD 0).toNat) := hide (by rw [← HTS.out, List.getElem?_map, List.getElem?_eq_getElem hlt]; rfl)
            obtain ⟨v, hv⟩ : ∃ v, L[m]?.getD 0 = v := ⟨_, rfl⟩
            rw [hv] at k0 hkk HTM
            obtain ⟨c, rfl⟩ : ∃ c : Nat, v = (c : Int) := ⟨v.toNat, by omega⟩
            rw [show ((c : Int)).toNat = c by omega] at HTM
            have CI := hide (IH.out c (by omega) (by omega) wr (Nat.lt_of_lt_of_le hbs HB.out.size) (pnRow_up (pnRow_go HR.out hbs HB.out) HB.out.size))
            rw [← HTM.out] at CI
            have hmT : m < TS.length := by rw [HTL.out]; exact hlt
            have HNX := hide (fl_next TS m hmT)
            have hfl := fl_take TS (m + 1)
            rw [HNX.out, List.length_append] at hfl
            obtain ⟨F, hF⟩ : ∃ F, (TS.take m).flatten = F := ⟨_, rfl⟩
            obtain ⟨P, hP⟩ : ∃ P, TS[m]?.getD [] = P := ⟨_, rfl⟩
            rw [hP] at CI HNX hfl
            rw [hF] at HNX HS hfl ⊢
            clear hc9 hv hF hP HTM
            go_wp2_with (first
              | (go_at_call 54; refine CI.out.mono ?_; rintro e w2 ⟨ad2, c2, rfl, ho2, hb2⟩; have HP2 := hide ho2; have HS2 := hide (show StrR w.heap.size w2 sa sc F from gOwn_after HS.out hb2); have HB2 := hide (HB.out.trans (hb2.mono HB.out.size)); have hsz2 : w.heap.size ≤ w2.heap.size := HB2.out.size; clear ho2 hb2)
              | (at_builtin; refine wpList_append_src (by rfl) (.tmp 35) (.tmp 38) 25 (by rfl) w.heap.size 9 i0 (.string ByteArray.empty) 1 16 Tryd.underlying25 hi0 hz0 hz1 hz2 rfl (by decide) (.slice sa F.length sc) F.length (F.map Value.string) (by rfl) HS2.out ad2 P.length c2 (P.map Value.string) (by rfl) (by rw [List.length_map, Nat.mul_one]) (fun hp => strR_src HP2.out hp) (strs_one _) (by unfold maxLen; omega) (by omega) hsz2 ?_; intro a9 c9 w9 hown9 hgr9; have HO9 := hide hown9; have HB9 := hide (HB2.out.grown hgr9 hsz2 (fun k hk => (HS2.out.lt k hk).1)); clear hown9 hgr9)
              | fail)
            go_roundw
            case rel => exact ⟨m + 1, a9, c9, by omega, by go_num, by rw [HNX.out, List.length_append], hide (by rw [HNX.out]; unfold StrR; rw [List.length_append, List.map_append]; exact HO9.out), HB9⟩
            case measure => simp [intOf]; omega
          · have hml : m = L.length := by omega
            subst hml
            rw [← HE2.out] at HS ⊢
            go_wp2
            go_ret
            exact ⟨sa, sc, rfl, HS.out, HB.out⟩
      · have h3 := h3l rfl
        have HE2 : Hid (sm D i = lsL (L.map fun k => sm D k.toNat)) := hide (by rw [HE.out]; rfl)
        have CL := hide (fun (W : World) (hW : Below w.heap.size w W) => i_least D n b0 off cap L L.length ad cp W rfl h3 HCP.out hll (Nat.lt_of_lt_of_le hbs hW.size) (pnRow_up (pnRow_go HR.out hbs hW) hW.size) (rwAt_up (rwAt_go HAT.out hW) hW.size) (fun q hq X h1 h2 => by
          have h5 := HKID.out q hq
          obtain ⟨c, rfl⟩ : ∃ c : Nat, q = (c : Int) := ⟨q.toNat, by omega⟩
          exact IH.out c (by omega) (by omega) X h1 h2))
        rw [← HE2.out] at CL
        clear h3l HE
        go_enter Tryd.func54, Tryd.ntmps54
        go_wp2_with (first | (go_at_call 71; refine (CO.out _).mono ?_; rintro e w9 ⟨rfl, h9⟩; rw [h9]; clear h9 w9) | fail)
        refine (CL.out _ (HST.out _)).mono ?_
        rintro e w2 ⟨ad2, c2, rfl, ho2, hb2⟩
        have HO2 := hide (strR_low ho2 (by simp : w.heap.size ≤ _))
        have HB2 := hide ((HST.out _).trans (hb2.mono (by simp)))
        clear ho2 hb2
        go_wp2
        go_ret
        exact ⟨ad2, c2, rfl, HO2.out, HB2.out⟩
      · clear h3l
        go_enter Tryd.func54, Tryd.ntmps54
        go_wp2_with (first | (go_at_call 71; refine (CO.out _).mono ?_; rintro e w9 ⟨rfl, h9⟩; rw [h9]; clear h9 w9))
        go_ret
        refine ⟨_, 1, by rw [HE.out]; rfl, ?_, (HST.out _).alloc (by simp) _⟩
        rw [HE.out]
        exact strR_one2 _ _ _
end Go.Proofs.YtfohfljdgmlibaaDoor

/-
  Contracts: Sample, by the specification and by the program (for drawn laws).
-/
namespace Go.Proofs.YtfohfljdgmlibaaDoor
open Go.RowKit Go.Joins
set_option linter.unusedVariables false
set_option linter.unusedSimpArgs false
def smV (D : Pn) : List ByteArray := if pkB D = true then sm D (D.n - 1) else []
theorem smV_no {D : Pn} (h : pkB D = false) : smV D = [] := by unfold smV; rw [h]; rfl
theorem smV_yes {D : Pn} (h : pkB D = true) : smV D = sm D (D.n - 1) := by unfold smV; rw [h]; rfl
theorem smV_len {D : Pn} (hz : pnTot D ≤ 1048576) : (smV D).length ≤ 40 := by
  cases hd : pkB D
  · rw [smV_no hd]; exact Nat.zero_le _
  · have hRM := rm_of rfl hd hz
    obtain ⟨h1, -⟩ := pk_facts hd
    obtain ⟨-, h2, h3, h4, h5, -⟩ := hRM
    obtain ⟨c, hc⟩ := h5 (D.n - 1) (by omega)
    have := (sm_len (fun j hj => h4 j (by omega)) (D.n - 1 + 1) (D.n - 1) c (by omega) (by omega) hc).1
    rw [smV_yes hd]
    omega
def SmpAns (D : Pn) (w : World) (r : Ending) (w' : World) : Prop := ∃ ad c, r = .returned (.tuple #[.slice ad (smV D).length c, .bool (pkB D)]) ∧ StrR w.heap.size w' ad c (smV D) ∧ Below w.heap.size w w'
theorem smp_ret {a a' : Value} {b b' : Bool} (h1 : a = a') (h2 : b = b') : Ending.returned (.tuple #[a, .bool b]) = .returned (.tuple #[a', .bool b']) := by rw [h1, h2]
set_option maxHeartbeats 4000000 in
theorem s_sampleV (D : Pn) (n : Nat) (a : Option Addr) (cap : Nat) (w : World) (hD : D.n = n) (hz : pnTot D ≤ 1048576) (hr : PnAt w a D w.heap.size) :
    Calls Tryd.prog 26 #[.slice a n cap] w (SmpAns D w) := by
  have HD := hide hD
  have HR := hide hr
  have CD := hide (s_particle D n a cap w hD hz hr)
  cases hd : pkB D
  · have HV := hide (smV_no hd)
    have HP := hide hd
    rw [hd] at CD
    clear hr hD hz hd
    go_enter Tryd.func26, Tryd.ntmps26
    go_wp2_with (first | (go_at_call 11; refine CD.out.mono ?_; rintro e w1 ⟨rfl, hb1⟩; have HB := hide hb1; clear hb1))
    go_ret2
    refine ⟨none, 0, smp_ret (by rw [HV.out]; rfl) HP.out.symm, ?_, HB.out⟩
    rw [HV.out]
    exact strR_nil _ _
  · have hRM := rm_of hD hd hz
    have HV := hide (smV_yes hd)
    have HP := hide hd
    rw [HD.out] at HV
    obtain ⟨h1, -⟩ := pk_facts hd
    rw [hD] at h1
    rw [hd] at CD
    obtain ⟨b0, off, rfl, hbs, hrow⟩ := hr (by omega)
    have CT := hide (fun (W : World) (hW : Below w.heap.size w W) => s_short D n b0 off cap hRM (n - 1 + 1) (n - 1) (by omega) (by omega) W (Nat.lt_of_lt_of_le hbs hW.size) (pnRow_up (pnRow_go hrow hbs hW) hW.size))
    rw [← HV.out] at CT
    have hni : ((n - 1 : Nat) : Int) = (n : Int) - 1 := by omega
    rw [hni] at CT
    have hn1 : (1 : Int) ≤ (n : Int) := by omega
    have hn4 : (n : Int) ≤ 40 := by omega
    clear hr hD hz hd hrow hRM hni HR
    go_enter Tryd.func26, Tryd.ntmps26
    go_wp2_with fail
    refine CD.out.mono ?_
    rintro e w1 ⟨rfl, hb1⟩
    have HB := hide hb1
    clear hb1
    go_wp2_with fail
    refine (CT.out _ HB.out).mono ?_
    rintro e w2 ⟨ad2, c2, rfl, ho2, hb2⟩
    have HO2 := hide (strR_low ho2 HB.out.size)
    have HB2 := hide (HB.out.trans (hb2.mono HB.out.size))
    clear ho2 hb2
    go_wp2
    go_ret2
    exact ⟨ad2, c2, smp_ret rfl HP.out.symm, HO2.out, HB2.out⟩
set_option maxHeartbeats 4000000 in
theorem i_sampleV (D : Pn) (n : Nat) (a : Option Addr) (cap : Nat) (w : World) (hD : D.n = n) (hz : pnTot D ≤ 1048576) (hr : PnAt w a D w.heap.size) :
    Calls Tryd.prog 25 #[.slice a n cap] w (SmpAns D w) := by
  have HD := hide hD
  have HR := hide hr
  have CD := hide (i_particle D n a cap w hD hz hr)
  cases hd : pkB D
  · have HV := hide (smV_no hd)
    have HP := hide hd
    rw [hd] at CD
    clear hr hD hz hd
    go_enter Tryd.func25, Tryd.ntmps25
    go_wp2_with (first | (go_at_call 53; refine CD.out.mono ?_; rintro e w1 ⟨rfl, hb1⟩; have HB := hide hb1; clear hb1))
    go_ret2
    refine ⟨none, 0, smp_ret (by rw [HV.out]; rfl) HP.out.symm, ?_, HB.out⟩
    rw [HV.out]
    exact strR_nil _ _
  · have hRM := rm_of hD hd hz
    have HV := hide (smV_yes hd)
    have HP := hide hd
    rw [HD.out] at HV
    obtain ⟨h1, -⟩ := pk_facts hd
    rw [hD] at h1
    rw [hd] at CD
    obtain ⟨b0, off, rfl, hbs, hrow⟩ := hr (by omega)
    have CT := hide (fun (W : World) (hW : Below w.heap.size w W) => i_sample D n b0 off cap hRM (n - 1 + 1) (n - 1) (by omega) (by omega) W (Nat.lt_of_lt_of_le hbs hW.size) (pnRow_up (pnRow_go hrow hbs hW) hW.size))
    rw [← HV.out] at CT
    have hni : ((n - 1 : Nat) : Int) = (n : Int) - 1 := by omega
    rw [hni] at CT
    have hn1 : (1 : Int) ≤ (n : Int) := by omega
    have hn4 : (n : Int) ≤ 40 := by omega
    clear hr hD hz hd hrow hRM hni HR
    go_enter Tryd.func25, Tryd.ntmps25
    go_wp2_with fail
    refine CD.out.mono ?_
    rintro e w1 ⟨rfl, hb1⟩
    have HB := hide hb1
    clear hb1
    go_wp2_with fail
    refine (CT.out _ HB.out).mono ?_
    rintro e w2 ⟨ad2, c2, rfl, ho2, hb2⟩
    have HO2 := hide (strR_low ho2 HB.out.size)
    have HB2 := hide (HB.out.trans (hb2.mono HB.out.size))
    clear ho2 hb2
    go_wp2
    go_ret2
    exact ⟨ad2, c2, smp_ret rfl HP.out.symm, HO2.out, HB2.out⟩
end Go.Proofs.YtfohfljdgmlibaaDoor
