/-
  Texts put together: SmI, SmV, SaW.
-/
import Derived.Test.YtfohfljdgmlibaaDoorS33
import Derived.Test.YtfohfljdgmlibaaDoorS17
import Derived.Test.YtfohfljdgmlibaaDoorS27
import Derived.Test.YtfohfljdgmlibaaDoorS31
import Derived.Test.YtfohfljdgmlibaaDoorS18
/-
  Contracts: the shortest row of a node, by the program.
-/
namespace Go.Proofs.YtfohfljdgmlibaaDoor
open Go.RowKit Go.Joins
set_option linter.unusedVariables false
set_option linter.unusedSimpArgs false
theorem i_opt (oc : Int) (w : World) : Calls Tryd.prog 71 #[.int .i64 oc] w fun r w' => r = .returned (.bool (decide (oc = 1 ∨ oc = 2))) ∧ w' = w := by
  by_cases h1 : oc = 1
  · subst h1
    go_enter Tryd.func71, Tryd.ntmps71
    go_wp2
    go_ret
    exact ⟨rfl, rfl⟩
  · have f1 : (oc == 1) = false := by simpa using h1
    by_cases h2 : oc = 2
    · subst h2
      go_enter Tryd.func71, Tryd.ntmps71
      go_wp2
      go_ret
      exact ⟨rfl, rfl⟩
    · have f2 : (oc == 2) = false := by simpa using h2
      have HD : Hid (decide (oc = 1 ∨ oc = 2) = false) := hide (by simp [h1, h2])
      clear h1 h2
      go_enter Tryd.func71, Tryd.ntmps71
      go_wp2
      go_ret
      exact ⟨by rw [HD.out]; rfl, rfl⟩
set_option maxRecDepth 100000 in
set_option maxHeartbeats 4000000 in
theorem i_least (D : Pn) (n b0 off cap : Nat) (L : List Int) (len : Nat) (ad : Option Addr) (cp : Nat) (w : World) (hlen : L.length = len) (hl2 : 2 ≤ len) (hll : len ≤ cp) (hlx : len ≤ 1048576) (hbs : b0 < w.heap.size) (hr : PnRow w b0 off D w.heap.size) (hat : RowAt .i64 w ad L w.heap.size)
    (hI : ∀ q ∈ L, ∀ W : World, b0 < W.heap.size → PnRow W b0 off D W.heap.size → Calls Tryd.prog 54 #[.slice (some ⟨b0, off, none⟩) n cap, .int .i64 q] W (SmAns (sm D q.toNat) W)) :
    Calls Tryd.prog 83 #[.slice (some ⟨b0, off, none⟩) n cap, .slice ad len cp] w (SmAns (lsL (L.map fun k => sm D k.toNat)) w) := by
  have HR := hide hr
  have HI := hide hI
  have HLN := hide hlen
  obtain ⟨TS, hTS⟩ : ∃ TS, (L.map fun k => sm D k.toNat) = TS := ⟨_, rfl⟩
  rw [hTS]
  have HTS := hide hTS
  have HTL : Hid (TS.length = len) := hide (by rw [← hTS, List.length_map, hlen])
  obtain ⟨b9, off9, rfl, hb9, hc9⟩ := hat (fun h => by rw [h] at hlen; simp at hlen; omega)
  have HC9 := hide hc9
  have k0 := hc9 0 (by omega)
  have C0 := hide (hI (L[0]?.getD 0) (by rw [List.getElem?_eq_getElem (by omega)]; exact List.getElem_mem (by omega)) w hbs hr)
  have HT0 : Hid (TS[0]?.getD [] = sm D (L[0]?.getD 0).toNat) := hide (by rw [← hTS, List.getElem?_map, List.getElem?_eq_getElem (by omega)]; rfl)
  rw [← HT0.out] at C0
  have HF0 : Hid (lsL (TS.take 1) = TS[0]?.getD []) := hide (ls_first TS (by rw [HTL.out]; omega))
  rw [← HF0.out] at C0
  obtain ⟨v, hv⟩ : ∃ v, L[0]?.getD 0 = v := ⟨_, rfl⟩
  rw [hv] at k0 C0
  rw [Nat.add_zero] at k0
  have hleni : (1 : Int) ≤ (len : Int) := by omega
  have hlen0 : (0 : Int) < (len : Int) := by omega
  have hcpi : (len : Int) ≤ (cp : Int) := by omega
  clear hr hat hI hlen hTS hc9 hv HT0
  go_enter Tryd.func83, Tryd.ntmps83
  go_wp2_with fail
  refine C0.out.mono ?_
  rintro e w1 ⟨ad1, c1, rfl, ho1, hb1⟩
  have HO1 := hide ho1
  have HB1 := hide hb1
  clear ho1 hb1
  go_wp2
  obtain ⟨q, hq⟩ : ∃ q, len - 1 = q := ⟨_, rfl⟩
  rw [hq]
  have HQL : Hid (len = q + 1) := hide (by omega)
  have hqx : q ≤ 1048576 := by omega
  clear hq
  go_loopw [5, 17] (fun sv mv wr => ∃ (m : Nat) (sa : Option Addr) (sc : Nat), m ≤ q ∧ mv = .int .i64 m ∧ sv = .slice sa (lsL (TS.take (m + 1))).length sc ∧ Hid (StrR w.heap.size wr sa sc (lsL (TS.take (m + 1)))) ∧ Hid (Below w.heap.size w wr)) (fun _ mv _ => q - (intOf mv).toNat)
  case atStart => exact ⟨0, ad1, c1, Nat.zero_le _, rfl, rfl, HO1, HB1⟩
  case round =>
    obtain ⟨m, sa, sc, hm, rfl, rfl, HS, HB⟩ := hrel
    by_cases hlt : m < q
    · have hmL : m + 1 < L.length := by rw [HLN.out, HQL.out]; omega
      have hmT : m + 1 < TS.length := by rw [HTL.out, HQL.out]; omega
      have k1 := (HB.out.cell (p := ⟨b9, off9 + (m + 1), none⟩) hb9).trans (HC9.out (m + 1) hmL)
      rw [show off9 + (m + 1) = off9 + 1 + m by omega] at k1
      have HTM : Hid (TS[m + 1]?.getD [] = sm D (L[m + 1]?.getD 0).toNat) := hide (by rw [← HTS.out, List.getElem?_map, List.getElem?_eq_getElem hmL]; rfl)
      have CI := hide (HI.out (L[m + 1]?.getD 0) (by rw [List.getElem?_eq_getElem hmL]; exact List.getElem_mem hmL) wr (Nat.lt_of_lt_of_le hbs HB.out.size) (pnRow_up (pnRow_go HR.out hbs HB.out) HB.out.size))
      rw [← HTM.out] at CI
      obtain ⟨u, hu⟩ : ∃ u, L[m + 1]?.getD 0 = u := ⟨_, rfl⟩
      rw [hu] at k1 CI
      have hnx := ls_next TS (m + 1) hmT (by omega)
      obtain ⟨P, hP⟩ : ∃ P, TS[m + 1]?.getD [] = P := ⟨_, rfl⟩
      obtain ⟨F, hF⟩ : ∃ F, lsL (TS.take (m + 1)) = F := ⟨_, rfl⟩
      rw [hP, hF] at hnx
      rw [hP] at CI
      rw [hF] at HS ⊢
      have hmi : (m : Int) < (q : Int) := by omega
      have hm00 : (0 : Int) ≤ (m : Int) := by omega
      clear hu hP hF HTM hmL hmT
      by_cases hpf : P.length < F.length
      · have HNX : Hid (lsL (TS.take (m + 1 + 1)) = P) := hide (by rw [hnx, if_pos hpf])
        have hpi : (P.length : Int) < (F.length : Int) := by omega
        clear hnx
        go_wp2_with fail
        refine CI.out.mono ?_
        rintro e w2 ⟨ad2, c2, rfl, ho2, hb2⟩
        have HP2 := hide (strR_low ho2 HB.out.size)
        have HB2 := hide (HB.out.trans (hb2.mono HB.out.size))
        clear ho2 hb2 k1
        go_wp2
        go_roundw
        case rel => exact ⟨m + 1, ad2, c2, by omega, by go_num, by rw [HNX.out], hide (by rw [HNX.out]; exact HP2.out), HB2⟩
        case measure => simp [intOf]; omega
      · have HNX : Hid (lsL (TS.take (m + 1 + 1)) = F) := hide (by rw [hnx, if_neg hpf])
        have hpi : ¬ (P.length : Int) < (F.length : Int) := by omega
        clear hnx
        go_wp2_with fail
        refine CI.out.mono ?_
        rintro e w2 ⟨ad2, c2, rfl, ho2, hb2⟩
        have HS2 := hide (show StrR w.heap.size w2 sa sc F from gOwn_after HS.out hb2)
        have HB2 := hide (HB.out.trans (hb2.mono HB.out.size))
        clear ho2 hb2 k1
        go_wp2
        go_roundw
        case rel => exact ⟨m + 1, sa, sc, by omega, by go_num, by rw [HNX.out], hide (by rw [HNX.out]; exact HS2.out), HB2⟩
        case measure => simp [intOf]; omega
    · have hmq : m = q := by omega
      subst hmq
      have e : TS.take (m + 1) = TS := by rw [← HQL.out, ← HTL.out]; exact List.take_length
      rw [e] at HS ⊢
      clear e
      go_wp2
      go_ret
      exact ⟨sa, sc, rfl, HS.out, HB.out⟩
set_option maxRecDepth 100000 in
set_option maxHeartbeats 8000000 in
theorem i_sample (D : Pn) (n b0 off cap : Nat) (hRM : RM D n) : ∀ (k i : Nat), i < k → i < n → ∀ w : World, b0 < w.heap.size → PnRow w b0 off D w.heap.size →
    Calls Tryd.prog 54 #[.slice (some ⟨b0, off, none⟩) n cap, .int .i64 i] w (SmAns (sm D i) w)
  | 0, i, hk, hi => by omega
  | k + 1, i, hk, hi => by
    intro w hbs hr
    obtain ⟨i0, hi0, hz0, hz1, hz2⟩ := info_parts infoStr
    have IH := hide (i_sample D n b0 off cap hRM k)
    have HR := hide hr
    have HKID := hide (hRM.2.2.2.1 i hi)
    obtain ⟨ad, cp, hc, hat, hcp⟩ := hr i (by rw [hRM.1]; exact hi)
    obtain ⟨c0, c1, c2, c3⟩ := hc
    have hin : (i : Int) < (n : Int) := by omega
    have hi00 : (0 : Int) ≤ (i : Int) := by omega
    have hn40 := hRM.2.1
    have HEQ := hide (rm_sm hRM hi)
    have htot := rm_smL hRM hi
    have hll := hRM.2.2.2.2.2 i hi
    have h3l := rm_three hRM hi
    have HST := hide (fun (o : Obj) => (Below.refl w.heap.size w).alloc (Nat.le_refl _) o)
    have hkinds := rm_kinds hRM hi
    obtain ⟨K, hK⟩ : ∃ K, D.K i = K := ⟨_, rfl⟩
    obtain ⟨NM, hNM⟩ : ∃ NM, D.NM i = NM := ⟨_, rfl⟩
    obtain ⟨OC, hOC⟩ : ∃ OC, D.OC i = OC := ⟨_, rfl⟩
    obtain ⟨L, hL⟩ : ∃ L, D.KL i = L := ⟨_, rfl⟩
    rw [hK] at c0 HEQ hkinds h3l
    rw [hNM] at c1 HEQ
    rw [hL] at c2 HEQ HKID hat htot hll h3l hcp
    rw [hOC] at c3 HEQ
    have HAT := hide hat
    have HCP := hide hcp
    clear hr hat hK hNM hOC hL hRM hcp
    by_cases ho : OC = 1 ∨ OC = 2
    · have HE : Hid (sm D i = []) := hide (by rw [HEQ.out]; unfold bdS; rw [if_pos ho])
      have CO := hide (fun (W : World) => i_opt OC W)
      rw [decide_eq_true ho] at CO
      clear ho
      go_enter Tryd.func54, Tryd.ntmps54
      go_wp2_with (first | (go_at_call 71; refine (CO.out _).mono ?_; rintro e w9 ⟨rfl, h9⟩; rw [h9]; clear h9 w9))
      go_ret
      refine ⟨none, 0, by rw [HE.out]; rfl, ?_, HST.out _⟩
      rw [HE.out]
      exact strR_nil _ _
    · have HE : Hid (sm D i = if K = 1 then [NM] else if K = 4 then [anyT] else if K = 2 then (L.map fun k => sm D k.toNat).flatten else lsL (L.map fun k => sm D k.toNat)) := hide (by rw [HEQ.out]; unfold bdS; rw [if_neg ho])
      have CO := hide (fun (W : World) => i_opt OC W)
      rw [decide_eq_false ho] at CO
      clear ho HEQ
      rcases hkinds with rfl | rfl | rfl | rfl
      · clear h3l
        go_enter Tryd.func54, Tryd.ntmps54
        go_wp2_with (first | (go_at_call 71; refine (CO.out _).mono ?_; rintro e w9 ⟨rfl, h9⟩; rw [h9]; clear h9 w9))
        go_ret
        refine ⟨_, 1, by rw [HE.out]; rfl, ?_, (HST.out _).alloc (by simp) _⟩
        rw [HE.out]
        exact strR_one2 _ _ _
      · obtain ⟨TS, hTS⟩ : ∃ TS, (L.map fun k => sm D k.toNat) = TS := ⟨_, rfl⟩
        rw [hTS] at HE htot
        have HTS := hide hTS
        have HTL : Hid (TS.length = L.length) := hide (by rw [← hTS, List.length_map])
        have HE2 : Hid (sm D i = (TS.take L.length).flatten) := hide (by rw [HE.out, ← HTL.out, List.take_length]; rfl)
        clear hTS HE h3l
        go_enter Tryd.func54, Tryd.ntmps54
        go_wp2_with (first | (go_at_call 71; refine (CO.out _).mono ?_; rintro e w9 ⟨rfl, h9⟩; rw [h9]; clear h9 w9))
        go_loopw [6, 31] (fun sv mv wr => ∃ (m : Nat) (sa : Option Addr) (sc : Nat), m ≤ L.length ∧ mv = .int .i64 m ∧ sv = .slice sa ((TS.take m).flatten).length sc ∧ Hid (StrR w.heap.size wr sa sc ((TS.take m).flatten)) ∧ Hid (Below w.heap.size w wr)) (fun _ mv _ => L.length - (intOf mv).toNat)
        case atStart => exact ⟨0, none, 0, Nat.zero_le _, rfl, rfl, hide (strR_nil _ _), hide (HST.out _)⟩
        case round =>
          obtain ⟨m, sa, sc, hm, rfl, rfl, HS, HB⟩ := hrel
          by_cases hlt : m < L.length
          · obtain ⟨b9, off9, rfl, hb9, hc9⟩ := HAT.out (fun h => by rw [h] at hlt; exact absurd hlt (Nat.not_lt_zero _))
            have k0 := (HB.out.cell (p := ⟨b9, off9 + m, none⟩) hb9).trans (hc9 m hlt)
            have hmi : (m : Int) < (L.length : Int) := by omega
            have hm0 : (0 : Int) ≤ (m : Int) := by omega
            have hkk := HKID.out (L[m]?.getD 0) (by rw [List.getElem?_eq_getElem hlt]; exact List.getElem_mem hlt)
            have HTM : Hid (TS[m]?.getD [] = sm D (L[m]?.getD 0).toNat) := hide (by rw [← HTS.out, List.getElem?_map, List.getElem?_eq_getElem hlt]; rfl)
            obtain ⟨v, hv⟩ : ∃ v, L[m]?.getD 0 = v := ⟨_, rfl⟩
            rw [hv] at k0 hkk HTM
            obtain ⟨c, rfl⟩ : ∃ c : Nat, v = (c : Int) := ⟨v.toNat, by omega⟩
            rw [show ((c : Int)).toNat = c by omega] at HTM
            have CI := hide (IH.out c (by omega) (by omega) wr (Nat.lt_of_lt_of_le hbs HB.out.size) (pnRow_up (pnRow_go HR.out hbs HB.out) HB.out.size))
            rw [← HTM.out] at CI
            have hmT : m < TS.length := by rw [HTL.out]; exact hlt
            have HNX := hide (fl_next TS m hmT)
            have hfl := fl_take TS (m + 1)
            rw [HNX.out, List.length_append] at hfl
            obtain ⟨F, hF⟩ : ∃ F, (TS.take m).flatten = F := ⟨_, rfl⟩
            obtain ⟨P, hP⟩ : ∃ P, TS[m]?.getD [] = P := ⟨_, rfl⟩
            rw [hP] at CI HNX hfl
            rw [hF] at HNX HS hfl ⊢
            clear hc9 hv hF hP HTM
            go_wp2_with (first
              | (go_at_call 54; refine CI.out.mono ?_; rintro e w2 ⟨ad2, c2, rfl, ho2, hb2⟩; have HP2 := hide ho2; have HS2 := hide (show StrR w.heap.size w2 sa sc F from gOwn_after HS.out hb2); have HB2 := hide (HB.out.trans (hb2.mono HB.out.size)); have hsz2 : w.heap.size ≤ w2.heap.size := HB2.out.size; clear ho2 hb2)
              | (at_builtin; refine wpList_append_src (by rfl) (.tmp 35) (.tmp 38) 25 (by rfl) w.heap.size 9 i0 (.string ByteArray.empty) 1 16 Tryd.underlying25 hi0 hz0 hz1 hz2 rfl (by decide) (.slice sa F.length sc) F.length (F.map Value.string) (by rfl) HS2.out ad2 P.length c2 (P.map Value.string) (by rfl) (by rw [List.length_map, Nat.mul_one]) (fun hp => strR_src HP2.out hp) (strs_one _) (by unfold maxLen; omega) (by omega) hsz2 ?_; intro a9 c9 w9 hown9 hgr9; have HO9 := hide hown9; have HB9 := hide (HB2.out.grown hgr9 hsz2 (fun k hk => (HS2.out.lt k hk).1)); clear hown9 hgr9)
              | fail)
            go_roundw
            case rel => exact ⟨m + 1, a9, c9, by omega, by go_num, by rw [HNX.out, List.length_append], hide (by rw [HNX.out]; unfold StrR; rw [List.length_append, List.map_append]; exact HO9.out), HB9⟩
            case measure => simp [intOf]; omega
          · have hml : m = L.length := by omega
            subst hml
            rw [← HE2.out] at HS ⊢
            go_wp2
            go_ret
            exact ⟨sa, sc, rfl, HS.out, HB.out⟩
      · have h3 := h3l rfl
        have HE2 : Hid (sm D i = lsL (L.map fun k => sm D k.toNat)) := hide (by rw [HE.out]; rfl)
        have CL := hide (fun (W : World) (hW : Below w.heap.size w W) => i_least D n b0 off cap L L.length ad cp W rfl h3 HCP.out hll (Nat.lt_of_lt_of_le hbs hW.size) (pnRow_up (pnRow_go HR.out hbs hW) hW.size) (rwAt_up (rwAt_go HAT.out hW) hW.size) (fun q hq X h1 h2 => by
          have h5 := HKID.out q hq
          obtain ⟨c, rfl⟩ : ∃ c : Nat, q = (c : Int) := ⟨q.toNat, by omega⟩
          exact IH.out c (by omega) (by omega) X h1 h2))
        rw [← HE2.out] at CL
        clear h3l HE
        go_enter Tryd.func54, Tryd.ntmps54
        go_wp2_with (first | (go_at_call 71; refine (CO.out _).mono ?_; rintro e w9 ⟨rfl, h9⟩; rw [h9]; clear h9 w9) | fail)
        refine (CL.out _ (HST.out _)).mono ?_
        rintro e w2 ⟨ad2, c2, rfl, ho2, hb2⟩
        have HO2 := hide (strR_low ho2 (by simp : w.heap.size ≤ _))
        have HB2 := hide ((HST.out _).trans (hb2.mono (by simp)))
        clear ho2 hb2
        go_wp2
        go_ret
        exact ⟨ad2, c2, rfl, HO2.out, HB2.out⟩
      · clear h3l
        go_enter Tryd.func54, Tryd.ntmps54
        go_wp2_with (first | (go_at_call 71; refine (CO.out _).mono ?_; rintro e w9 ⟨rfl, h9⟩; rw [h9]; clear h9 w9))
        go_ret
        refine ⟨_, 1, by rw [HE.out]; rfl, ?_, (HST.out _).alloc (by simp) _⟩
        rw [HE.out]
        exact strR_one2 _ _ _
end Go.Proofs.YtfohfljdgmlibaaDoor

/-
  Contracts: Sample, by the specification and by the program (for drawn laws).
-/
namespace Go.Proofs.YtfohfljdgmlibaaDoor
open Go.RowKit Go.Joins
set_option linter.unusedVariables false
set_option linter.unusedSimpArgs false
def smV (D : Pn) : List ByteArray := if pkB D = true then sm D (D.n - 1) else []
theorem smV_no {D : Pn} (h : pkB D = false) : smV D = [] := by unfold smV; rw [h]; rfl
theorem smV_yes {D : Pn} (h : pkB D = true) : smV D = sm D (D.n - 1) := by unfold smV; rw [h]; rfl
theorem smV_len {D : Pn} (hz : pnTot D ≤ 1048576) : (smV D).length ≤ 40 := by
  cases hd : pkB D
  · rw [smV_no hd]; exact Nat.zero_le _
  · have hRM := rm_of rfl hd hz
    obtain ⟨h1, -⟩ := pk_facts hd
    obtain ⟨-, h2, h3, h4, h5, -⟩ := hRM
    obtain ⟨c, hc⟩ := h5 (D.n - 1) (by omega)
    have := (sm_len (fun j hj => h4 j (by omega)) (D.n - 1 + 1) (D.n - 1) c (by omega) (by omega) hc).1
    rw [smV_yes hd]
    omega
def SmpAns (D : Pn) (w : World) (r : Ending) (w' : World) : Prop := ∃ ad c, r = .returned (.tuple #[.slice ad (smV D).length c, .bool (pkB D)]) ∧ StrR w.heap.size w' ad c (smV D) ∧ Below w.heap.size w w'
theorem smp_ret {a a' : Value} {b b' : Bool} (h1 : a = a') (h2 : b = b') : Ending.returned (.tuple #[a, .bool b]) = .returned (.tuple #[a', .bool b']) := by rw [h1, h2]
set_option maxHeartbeats 4000000 in
theorem s_sampleV (D : Pn) (n : Nat) (a : Option Addr) (cap : Nat) (w : World) (hD : D.n = n) (hz : pnTot D ≤ 1048576) (hr : PnAt w a D w.heap.size) :
    Calls Tryd.prog 26 #[.slice a n cap] w (SmpAns D w) := by
  have HD := hide hD
  have HR := hide hr
  have CD := hide (s_particle D n a cap w hD hz hr)
  cases hd : pkB D
  · have HV := hide (smV_no hd)
    have HP := hide hd
    rw [hd] at CD
    clear hr hD hz hd
    go_enter Tryd.func26, Tryd.ntmps26
    go_wp2_with (first | (go_at_call 11; refine CD.out.mono ?_; rintro e w1 ⟨rfl, hb1⟩; have HB := hide hb1; clear hb1))
    go_ret2
    refine ⟨none, 0, smp_ret (by rw [HV.out]; rfl) HP.out.symm, ?_, HB.out⟩
    rw [HV.out]
    exact strR_nil _ _
  · have hRM := rm_of hD hd hz
    have HV := hide (smV_yes hd)
    have HP := hide hd
    rw [HD.out] at HV
    obtain ⟨h1, -⟩ := pk_facts hd
    rw [hD] at h1
    rw [hd] at CD
    obtain ⟨b0, off, rfl, hbs, hrow⟩ := hr (by omega)
    have CT := hide (fun (W : World) (hW : Below w.heap.size w W) => s_short D n b0 off cap hRM (n - 1 + 1) (n - 1) (by omega) (by omega) W (Nat.lt_of_lt_of_le hbs hW.size) (pnRow_up (pnRow_go hrow hbs hW) hW.size))
    rw [← HV.out] at CT
    have hni : ((n - 1 : Nat) : Int) = (n : Int) - 1 := by omega
    rw [hni] at CT
    have hn1 : (1 : Int) ≤ (n : Int) := by omega
    have hn4 : (n : Int) ≤ 40 := by omega
    clear hr hD hz hd hrow hRM hni HR
    go_enter Tryd.func26, Tryd.ntmps26
    go_wp2_with fail
    refine CD.out.mono ?_
    rintro e w1 ⟨rfl, hb1⟩
    have HB := hide hb1
    clear hb1
    go_wp2_with fail
    refine (CT.out _ HB.out).mono ?_
    rintro e w2 ⟨ad2, c2, rfl, ho2, hb2⟩
    have HO2 := hide (strR_low ho2 HB.out.size)
    have HB2 := hide (HB.out.trans (hb2.mono HB.out.size))
    clear ho2 hb2
    go_wp2
    go_ret2
    exact ⟨ad2, c2, smp_ret rfl HP.out.symm, HO2.out, HB2.out⟩
set_option maxHeartbeats 4000000 in
theorem i_sampleV (D : Pn) (n : Nat) (a : Option Addr) (cap : Nat) (w : World) (hD : D.n = n) (hz : pnTot D ≤ 1048576) (hr : PnAt w a D w.heap.size) :
    Calls Tryd.prog 25 #[.slice a n cap] w (SmpAns D w) := by
  have HD := hide hD
  have HR := hide hr
  have CD := hide (i_particle D n a cap w hD hz hr)
  cases hd : pkB D
  · have HV := hide (smV_no hd)
    have HP := hide hd
    rw [hd] at CD
    clear hr hD hz hd
    go_enter Tryd.func25, Tryd.ntmps25
    go_wp2_with (first | (go_at_call 53; refine CD.out.mono ?_; rintro e w1 ⟨rfl, hb1⟩; have HB := hide hb1; clear hb1))
    go_ret2
    refine ⟨none, 0, smp_ret (by rw [HV.out]; rfl) HP.out.symm, ?_, HB.out⟩
    rw [HV.out]
    exact strR_nil _ _
  · have hRM := rm_of hD hd hz
    have HV := hide (smV_yes hd)
    have HP := hide hd
    rw [HD.out] at HV
    obtain ⟨h1, -⟩ := pk_facts hd
    rw [hD] at h1
    rw [hd] at CD
    obtain ⟨b0, off, rfl, hbs, hrow⟩ := hr (by omega)
    have CT := hide (fun (W : World) (hW : Below w.heap.size w W) => i_sample D n b0 off cap hRM (n - 1 + 1) (n - 1) (by omega) (by omega) W (Nat.lt_of_lt_of_le hbs hW.size) (pnRow_up (pnRow_go hrow hbs hW) hW.size))
    rw [← HV.out] at CT
    have hni : ((n - 1 : Nat) : Int) = (n : Int) - 1 := by omega
    rw [hni] at CT
    have hn1 : (1 : Int) ≤ (n : Int) := by omega
    have hn4 : (n : Int) ≤ 40 := by omega
    clear hr hD hz hd hrow hRM hni HR
    go_enter Tryd.func25, Tryd.ntmps25
    go_wp2_with fail
    refine CD.out.mono ?_
    rintro e w1 ⟨rfl, hb1⟩
    have HB := hide hb1
    clear hb1
    go_wp2_with fail
    refine (CT.out _ HB.out).mono ?_
    rintro e w2 ⟨ad2, c2, rfl, ho2, hb2⟩
    have HO2 := hide (strR_low ho2 HB.out.size)
    have HB2 := hide (HB.out.trans (hb2.mono HB.out.size))
    clear ho2 hb2
    go_wp2
    go_ret2
    exact ⟨ad2, c2, smp_ret rfl HP.out.symm, HO2.out, HB2.out⟩
end Go.Proofs.YtfohfljdgmlibaaDoor

/-
  The walk of FnSample: whatever the code is, a sample is taken, no row that is taken is shorter, and it is empty just where the model takes nothing.
-/
namespace Go.Proofs.YtfohfljdgmlibaaDoor
open Go.RowKit Go.Joins
set_option linter.unusedVariables false
set_option linter.unusedSimpArgs false
theorem src_below {w w' : World} {a : Option Addr} {zs : List Int} (h : SrcAt w a zs w.heap.size) (hb : Below w.heap.size w w') : SrcAt w' a zs w'.heap.size := by
  intro hne
  obtain ⟨b, off, e, hb1, hc⟩ := h hne
  exact ⟨b, off, e, Nat.lt_of_lt_of_le hb1 hb.size, fun j hj => (hb.cell (p := ⟨b, off + j, none⟩) hb1).trans (hc j hj)⟩
set_option maxRecDepth 100000 in
set_option maxHeartbeats 8000000 in
theorem sample_walk (a : Option Addr) (n cap : Nat) (zs : List Int) (w : World) (hl : zs.length = n) (hz : ∀ x ∈ zs, 0 ≤ x ∧ x ≤ 255) (hn : n ≤ 1048576) (hs : SrcAt w a zs w.heap.size) (hT : TzT w) :
    Calls Tryd.prog 5 #[.slice a n cap] w fun e w' => e = .returned (.bool true) ∧ Below w.heap.size w w' := by
  have HS := hide hs
  have HL := hide hl
  have HZ := hide hz
  have HT := hide hT
  have hn' : ¬ (1048576 : Int) < (n : Int) := by omega
  clear hs hl hz hT
  go_enter Tryd.func5, Tryd.ntmps5
  go_wp2_with (go_at_call 7; go_in)
  refine (d_sample a n cap zs _ HL.out HZ.out hn HS.out).mono ?_
  rintro e w1 ⟨ad, m, c, D, rfl, hD, hb1⟩
  have HD1 := hide hD
  have HB1 := hide hb1
  have hkl := smV_len hD.2.1
  clear hD hb1
  go_wp2_with fail
  refine (i_sampleV D m ad c _ HD1.out.1 HD1.out.2.1 HD1.out.2.2.2).mono ?_
  rintro e w2 ⟨adB, cB, rfl, hoB, hb2⟩
  have HB2 := hide (HB1.out.trans (hb2.mono HB1.out.size))
  have HD2 := hide (dm_go HD1.out hb2)
  have OB2 := hide hoB
  clear hoB hb2 HD1
  go_wp2_with fail
  refine (s_sampleV D m ad c _ HD2.out.1 HD2.out.2.1 HD2.out.2.2.2).mono ?_
  rintro e w3 ⟨adA, cA, rfl, hoA, hb3⟩
  have HB3 := hide (HB2.out.trans (hb3.mono HB2.out.size))
  have HD3 := hide (dm_go HD2.out hb3)
  have OB3 := hide (gOwn_after OB2.out hb3)
  have OA3 := hide hoA
  clear hoA hb3 HD2 OB2 HB1 HB2
  obtain ⟨L, hL⟩ : ∃ L, smV D = L := ⟨_, rfl⟩
  have HLL := hide hL
  rw [hL] at OB3 OA3 hkl
  rw [hL]
  clear hL
  have C0 := hide (fun (W : World) (h1 : TxAt W adB L W.heap.size) (h2 : TxAt W adA L W.heap.size) => l_sameTexts adB adA L.length cB cA L W rfl (by omega) h1 h2)
  cases hpk : pkB D
  · go_wp2_with fail
    refine (C0.out _ (tx_own OB3.out) (tx_own OA3.out)).mono ?_
    rintro e w4 ⟨rfl, hb4⟩
    have HB4 := hide (HB3.out.trans (hb4.mono HB3.out.size))
    have OB4 := hide (gOwn_after OB3.out hb4)
    have OA4 := hide (gOwn_after OA3.out hb4)
    clear hb4
    go_wp2_with fail
    refine (C0.out _ (tx_own OB4.out) (tx_own OA4.out)).mono ?_
    rintro e w5 ⟨rfl, hb5⟩
    have HB5 := hide (HB4.out.trans (hb5.mono HB4.out.size))
    clear hb5
    go_wp2
    go_ret
    exact ⟨rfl, HB5.out⟩
  · have hsv : smV D = sm D (D.n - 1) := smV_yes hpk
    have HTK : Hid (AcP D L) := hide (by rw [← HLL.out, hsv]; exact sm_taken hpk (by rw [← hsv, HLL.out]; omega))
    have HLS : Hid (∀ W, AcP D W → L.length ≤ W.length) := hide (fun W h => by rw [← HLL.out, hsv]; exact sm_least h)
    have HNU : Hid (decide (L.length = 0) = nl D (D.n - 1)) := hide (by rw [← HLL.out, hsv]; exact sm_null hpk)
    have HPK := hide hpk
    clear hsv hpk
    go_wp2_with fail
    refine (C0.out _ (tx_own OB3.out) (tx_own OA3.out)).mono ?_
    rintro e w4 ⟨rfl, hb4⟩
    have HB4 := hide (HB3.out.trans (hb4.mono HB3.out.size))
    have HD4 := hide (dm_go HD3.out hb4)
    have OB4 := hide (gOwn_after OB3.out hb4)
    clear hb4 HB3 HD3 OB3 OA3 C0
    go_wp2_with fail
    refine (d_accepts a n cap zs _ HL.out HZ.out hn (src_below HS.out HB4.out)).mono ?_
    rintro e w5 ⟨ad5, m5, c5, D5, sa, sc, T, rfl, -, hT6, -, hTx, hb5⟩
    have HB5 := hide (HB4.out.trans (hb5.mono HB4.out.size))
    have HD5 := hide (dm_go HD4.out hb5)
    have OB5 := hide (gOwn_after OB4.out hb5)
    have HX5 := hide hTx
    clear hTx hb5 HB4 HD4 OB4
    go_wp2_with fail
    refine (i_accepts D m ad c L L.length adB cB _ HD5.out.1 HD5.out.2.1 HD5.out.2.2.2 rfl (by omega) (tx_own OB5.out) (tzT_go HT.out HB5.out (Nat.le_refl _))).mono ?_
    rintro e w6 ⟨B6, rfl, hB6, hb6⟩
    have hB6t : B6 = true := hB6.2 HTK.out
    subst hB6t
    have HB6 := hide (HB5.out.trans (hb6.mono HB5.out.size))
    have HD6 := hide (dm_go HD5.out hb6)
    have HX6 := hide (tx_up (tx_go HX5.out hb6) hb6.size)
    clear hb6 hB6 HB5 HD5 OB5 HX5
    have hnu : ((((L.length : Nat) : Int) == 0) == (pkB D && nl D (D.n - 1))) = true := by
      rw [HPK.out, ← HNU.out]
      by_cases h0 : L.length = 0
      · simp [h0]
      · simp [h0]
    have HNQ := hide hnu
    clear hnu
    have CN := hide (fun (W : World) (h1 : DmA W ad m D) (h2 : TzT W) => i_nullable D m ad c W h1.1 h1.2.1 h1.2.2.2 h2)
    by_cases hle : L.length ≤ T.length
    · have hle' : (L.length : Int) ≤ (T.length : Int) := by omega
      have hle2 : decide (((T.length : Nat) : Int) ≥ ((L.length : Nat) : Int)) = true := decide_eq_true hle'
      go_wp2_with fail
      refine (CN.out _ HD6.out (tzT_go HT.out HB6.out (Nat.le_refl _))).mono ?_
      rintro e w7 ⟨rfl, hb7⟩
      have HB7 := hide (HB6.out.trans (hb7.mono HB6.out.size))
      clear hb7
      go_wp2
      go_ret
      exact ⟨ret_bool HNQ.out, HB7.out⟩
    · have hle' : ¬ (L.length : Int) ≤ (T.length : Int) := by omega
      have hle2 : decide (((T.length : Nat) : Int) ≥ ((L.length : Nat) : Int)) = false := decide_eq_false hle'
      go_wp2_with fail
      refine (i_accepts D m ad c T T.length sa sc _ HD6.out.1 HD6.out.2.1 HD6.out.2.2.2 rfl (by omega) HX6.out (tzT_go HT.out HB6.out (Nat.le_refl _))).mono ?_
      rintro e w7 ⟨B7, rfl, hB7, hb7⟩
      have hB7f : B7 = false := by
        cases B7
        · rfl
        · exact absurd (HLS.out T (hB7.1 rfl)) hle
      subst hB7f
      have HB7 := hide (HB6.out.trans (hb7.mono HB6.out.size))
      have HD7 := hide (dm_go HD6.out hb7)
      clear hb7 hB7
      go_wp2_with fail
      refine (CN.out _ HD7.out (tzT_go HT.out HB7.out (Nat.le_refl _))).mono ?_
      rintro e w8 ⟨rfl, hb8⟩
      have HB8 := hide (HB7.out.trans (hb8.mono HB7.out.size))
      clear hb8
      go_wp2
      go_ret
      exact ⟨ret_bool HNQ.out, HB8.out⟩
end Go.Proofs.YtfohfljdgmlibaaDoor
