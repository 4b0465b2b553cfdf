/-
  Contract: the text of a model, by the specification.
-/
import Derived.Test.YtfohfljdgmlibaaW17
import Derived.Test.YtfohfljdgmlibaaW8
import Derived.Test.YtfohfljdgmlibaaW18
namespace Go.Proofs.Ytfohfljdgmlibaa
open Go.RowKit Go.Joins
set_option linter.unusedVariables false
set_option linter.unusedSimpArgs false
theorem ret_s9 {a b : ByteArray} (h : a = b) : Ending.returned (.string a) = .returned (.string b) := by rw [h]
theorem bl (s : ByteArray) : s.data.toList.length = s.size := by simp
theorem bl_app (a b : ByteArray) : (a ++ b).data.toList = a.data.toList ++ b.data.toList := by rw [ByteArray.data_append, Array.toList_append]
theorem s_sign (oc : Int) (w : World) : Calls Try.prog 55 #[.int .i64 oc] w fun e w' => e = .returned (.string ⟨(sgP oc).toArray⟩) ∧ w' = w := by
  by_cases h1 : oc = 1
  · subst h1
    go_enter Try.func55, Try.ntmps55
    go_wp2
    go_ret
    exact ⟨rfl, rfl⟩
  · by_cases h2 : oc = 2
    · subst h2
      go_enter Try.func55, Try.ntmps55
      go_wp2
      go_ret
      exact ⟨rfl, rfl⟩
    · by_cases h3 : oc = 3
      · subst h3
        go_enter Try.func55, Try.ntmps55
        go_wp2
        go_ret
        exact ⟨rfl, rfl⟩
      · have f1 : (oc == 1) = false := by simpa using h1
        have f2 : (oc == 2) = false := by simpa using h2
        have f3 : (oc == 3) = false := by simpa using h3
        have HE : Hid (sgP oc = []) := hide (by unfold sgP; rw [if_neg h1, if_neg h2, if_neg h3])
        clear h1 h2 h3
        go_enter Try.func55, Try.ntmps55
        go_wp2
        go_ret
        exact ⟨ret_s9 (by rw [HE.out]), rfl⟩
/-- What the text of a right model leans on. -/
def RM (D : Pn) (n : Nat) : Prop := D.n = n ∧ n ≤ 40 ∧ (∀ j, j < n → nodeB D j = true) ∧ (∀ j, j < n → ∀ k, k ∈ D.KL j → 0 ≤ k ∧ k < (j : Int)) ∧ (∀ j, j < n → ∃ c, tr D j = some c) ∧ ∀ j, j < n → (D.KL j).length ≤ 1048576
theorem rm_of {D : Pn} {n : Nat} (hD : D.n = n) (h : pkB D = true) (hz : pnTot D ≤ 1048576) : RM D n := by
  obtain ⟨h1, h2, -⟩ := pk_facts h
  have h3 := pk_lo h
  rw [hD] at h1 h2 h3
  exact ⟨hD, h1.2, h2, fun j hj => (h3 j hj).2, fun j hj => (h3 j hj).1, fun j hj => ((pn_sz hz).2 j (by rw [hD]; exact hj)).2⟩
theorem rm_kids {D : Pn} {n : Nat} (h : RM D n) {i : Nat} (hi : i < n) : totL ((D.KL i).map fun k => mt D k.toNat) ≤ 2000 := by
  obtain ⟨h1, h2, h3, h4, h5, -⟩ := h
  obtain ⟨c, hc⟩ := h5 i hi
  have := mt_kids (D := D) (by rw [h1]; exact h3) (by rw [h1]; exact h4) (by rw [h1]; exact hi) hc
  omega
theorem rm_eq {D : Pn} {n : Nat} (h : RM D n) {i : Nat} (hi : i < n) : mt D i = bdP (D.K i) (D.NM i) ((D.KL i).map fun k => mt D k.toNat) ++ sgP (D.OC i) := mt_eq (fun j hj => h.2.2.2.1 j (by omega))
theorem rm_kinds {D : Pn} {n : Nat} (h : RM D n) {i : Nat} (hi : i < n) : D.K i = 1 ∨ D.K i = 2 ∨ D.K i = 3 ∨ D.K i = 4 := nd_kinds (h.2.2.1 i hi)
theorem rm_name {D : Pn} {n : Nat} (h : RM D n) {i : Nat} (hi : i < n) (hk : D.K i = 1) : (D.NM i).size ≤ 40 := nd_name (h.2.2.1 i hi) hk
/-- What stands in a group's text behind m kids. -/
def grP (k : Int) (ts : List (List UInt8)) (m : Nat) : List UInt8 := [40] ++ Lib.join (ts.take m) (sepP k)
theorem gr_next (k : Int) (ts : List (List UInt8)) (m : Nat) (h : m < ts.length) (hm : m ≠ 0) : grP k ts (m + 1) = grP k ts m ++ sepP k ++ ts[m]?.getD [] := by
  unfold grP
  rw [join_take _ _ _ h, if_neg hm]
  simp only [List.append_assoc]
theorem gr_first (k : Int) (ts : List (List UInt8)) (h : 0 < ts.length) : grP k ts 1 = grP k ts 0 ++ ts[0]?.getD [] := by
  unfold grP
  rw [join_take _ _ _ h, if_pos rfl]
  simp [Lib.join_nil]
theorem gr_len (k : Int) (ts : List (List UInt8)) (m : Nat) : (grP k ts m).length ≤ 1 + totL ts := by
  have h1 := join_tot (sepP k) (sep_len _) (ts.take m)
  have h2 := tot_take ts m
  unfold grP
  rw [List.length_append, List.length_cons, List.length_nil]
  omega
set_option maxRecDepth 100000 in
set_option maxHeartbeats 8000000 in
theorem s_mtext (D : Pn) (n b0 off cap : Nat) (hRM : RM D n) : ∀ (k i : Nat), i < k → i < n → ∀ w : World, b0 < w.heap.size → PnRow w b0 off D w.heap.size →
    Calls Try.prog 27 #[.slice (some ⟨b0, off, none⟩) n cap, .int .i64 i] w fun r w' => r = .returned (.string ⟨(mt D i).toArray⟩) ∧ Below w.heap.size w w'
  | 0, i, hk, hi => by omega
  | k + 1, i, hk, hi => by
    intro w hbs hr
    have IH := hide (s_mtext D n b0 off cap hRM k)
    have HRM := hide hRM
    have HR := hide hr
    have HKID := hide (hRM.2.2.2.1 i hi)
    obtain ⟨ad, cp, hc, hat, hcp⟩ := hr i (by rw [hRM.1]; exact hi)
    obtain ⟨c0, c1, c2, c3⟩ := hc
    have hin : (i : Int) < (n : Int) := by omega
    have hn40 := hRM.2.1
    have HEQ := hide (rm_eq hRM hi)
    have htot := rm_kids hRM hi
    have hnm := rm_name hRM hi
    have hll := hRM.2.2.2.2.2 i hi
    have HST := hide (fun (o : Obj) => (Below.refl w.heap.size w).alloc (Nat.le_refl _) o)
    have hsl := sg_len (D.OC i)
    have CSG := hide (fun (w : World) => s_sign (D.OC i) w)
    obtain ⟨SG, hSG⟩ : ∃ SG : ByteArray, (⟨(sgP (D.OC i)).toArray⟩ : ByteArray) = SG := ⟨_, rfl⟩
    rw [hSG] at CSG
    have HSG : Hid (SG.data.toList = sgP (D.OC i)) := hide (by rw [← hSG])
    have hss : SG.size ≤ 1 := by rw [← bl, HSG.out]; exact hsl
    have hkinds := rm_kinds hRM hi
    obtain ⟨K, hK⟩ : ∃ K, D.K i = K := ⟨_, rfl⟩
    obtain ⟨NM, hNM⟩ : ∃ NM, D.NM i = NM := ⟨_, rfl⟩
    obtain ⟨OC, hOC⟩ : ∃ OC, D.OC i = OC := ⟨_, rfl⟩
    obtain ⟨L, hL⟩ : ∃ L, D.KL i = L := ⟨_, rfl⟩
    rw [hK] at c0 HEQ hkinds hnm
    rw [hNM] at c1 HEQ hnm
    rw [hL] at c2 HEQ HKID hat htot hll
    rw [hOC] at c3 HEQ HSG CSG
    have HAT := hide hat
    clear hr hat hSG hsl hK hNM hOC hL hRM hcp
    rcases hkinds with rfl | rfl | rfl | rfl
    · have hn4 := hnm rfl
      have s1 : ¬ 9223372036854775807 < NM.size + SG.size := by omega
      clear hnm
      go_enter Try.func27, Try.ntmps27
      go_wp2
      go_quiet ((go_at_call 55; exact Calls.quiet_of_same (CSG.out _)))
      go_wp2
      go_ret
      refine ⟨ret_s9 (Go.WideShapes.bytes_inj ?_), (HST.out _).trans ((drewN_below9 _ _).mono (by simp))⟩
      rw [HEQ.out, bl_app, HSG.out]
      rfl
    · obtain ⟨TS, hTS⟩ : ∃ TS, (L.map fun k => mt D k.toNat) = TS := ⟨_, rfl⟩
      rw [hTS] at HEQ htot
      have HTS := hide hTS
      have hTl : TS.length = L.length := by rw [← hTS, List.length_map]
      have HTL := hide hTl
      have HEQ2 : Hid (mt D i = grP 2 TS TS.length ++ [41] ++ sgP OC) := hide (by rw [HEQ.out]; unfold bdP grP; rw [if_neg (by decide), if_neg (by decide), List.take_length])
      clear hnm hTS hTl
      go_enter Try.func27, Try.ntmps27
      go_wp2
      go_loopw [6, 7] (fun sv mv wr => ∃ (m : Nat) (t : ByteArray), m ≤ L.length ∧ mv = .int .i64 m ∧ sv = .string t ∧ Hid (t.data.toList = grP 2 TS m) ∧ Hid (NdAt wr w.heap.size 2 NM ad L.length cp OC) ∧ Below w.heap.size w wr) (fun _ mv _ => L.length - (intOf mv).toNat)
      case atStart => exact ⟨0, _, Nat.zero_le _, rfl, rfl, hide rfl, hide (ndAt_new w _ _ _ _ _ _ _), HST.out _⟩
      case round =>
        obtain ⟨m, t, hm, rfl, rfl, HT, HN, hb⟩ := hrel
        obtain ⟨a0, a1, a2, a3⟩ := ndAt_cells HN.out
        have hgl := gr_len 2 TS m
        have hts : t.size ≤ 2001 := by rw [← bl, HT.out]; omega
        by_cases hlt : m < L.length
        · obtain ⟨b9, off9, rfl, hb9, hc9⟩ := HAT.out (fun h => by rw [h] at hlt; exact absurd hlt (Nat.not_lt_zero _))
          have k0 := (hb.cell (p := ⟨b9, off9 + m, none⟩) hb9).trans (hc9 m hlt)
          have hmi : (m : Int) < (L.length : Int) := by omega
          have hkk := HKID.out (L[m]?.getD 0) (by rw [List.getElem?_eq_getElem hlt]; exact List.getElem_mem hlt)
          have HTM : Hid (TS[m]?.getD [] = mt D (L[m]?.getD 0).toNat) := hide (by rw [← HTS.out, List.getElem?_map, List.getElem?_eq_getElem hlt]; rfl)
          obtain ⟨v, hv⟩ : ∃ v, L[m]?.getD 0 = v := ⟨_, rfl⟩
          rw [hv] at k0 hkk HTM
          obtain ⟨c, rfl⟩ : ∃ c : Nat, v = (c : Int) := ⟨v.toNat, by omega⟩
          rw [show ((c : Int)).toNat = c by omega] at HTM
          have CI := hide (IH.out c (by omega) (by omega) wr (Nat.lt_of_lt_of_le hbs hb.size) (pnRow_up (pnRow_go HR.out hbs hb) hb.size))
          obtain ⟨P, hP⟩ : ∃ P : ByteArray, (⟨(mt D c).toArray⟩ : ByteArray) = P := ⟨_, rfl⟩
          rw [hP] at CI
          have HPL : Hid (P.data.toList = TS[m]?.getD []) := hide (by rw [← hP, HTM.out])
          have HB := hide hb
          clear hc9 hv hP hb
          by_cases h0 : m = 0
          · have HG := hide (gr_first 2 TS (by rw [HTL.out]; omega))
            have hgl2 := gr_len 2 TS 1
            have hps : t.size + P.size ≤ 2001 := by
              have h1 := congrArg List.length HG.out
              have h3 := congrArg List.length HPL.out
              rw [h0, bl] at h3
              rw [List.length_append] at h1
              have h2 := congrArg List.length HT.out
              rw [h0, bl] at h2
              omega
            have s1 : ¬ 9223372036854775807 < t.size + P.size := by omega
            have hm0 : ¬ (0 : Int) < (m : Int) := by omega
            have HM0 := hide h0
            clear h0
            go_wp2_with (first | (go_at_call 27; refine CI.out.mono ?_; rintro e w2 ⟨rfl, hb2⟩; have HB2 := hide (HB.out.trans (hb2.mono HB.out.size)); have HN2 := hide (ndAt_go HN.out hb2); clear hb2))
            go_roundw
            case rel => exact ⟨m + 1, _, by omega, by go_num, rfl, hide (by have h9 := HM0.out; subst h9; rw [bl_app, HT.out, HPL.out, HG.out]), HN2, HB2.out⟩
            case measure => simp [intOf]; omega
          · have HG := hide (gr_next 2 TS m (by rw [HTL.out]; omega) h0)
            have hgl2 := gr_len 2 TS (m + 1)
            have hsp := sep_len 2
            have hps : t.size + 1 + P.size ≤ 2001 := by
              have h1 := congrArg List.length HG.out
              rw [List.length_append, List.length_append, ← HPL.out, bl, hsp, ← HT.out, bl] at h1
              omega
            have s1 : ¬ 9223372036854775807 < t.size + 1 := by omega
            have s2 : ¬ 9223372036854775807 < t.size + 1 + P.size := by omega
            have hm0 : (0 : Int) < (m : Int) := by omega
            clear h0
            go_wp2_with (first | (go_at_call 27; refine CI.out.mono ?_; rintro e w2 ⟨rfl, hb2⟩; have HB2 := hide (HB.out.trans (hb2.mono HB.out.size)); have HN2 := hide (ndAt_go HN.out hb2); clear hb2))
            go_roundw
            case rel => exact ⟨m + 1, _, by omega, by go_num, rfl, hide (by rw [bl_app, bl_app, HT.out, HPL.out, HG.out]; rfl), HN2, HB2.out⟩
            case measure => simp [intOf]; omega
        · have hml : m = L.length := by omega
          subst hml
          have HT2 : Hid (t.data.toList = grP 2 TS TS.length) := hide (by rw [HTL.out]; exact HT.out)
          have s1 : ¬ 9223372036854775807 < t.size + 1 := by omega
          have s2 : ¬ 9223372036854775807 < t.size + 1 + SG.size := by omega
          have HB := hide hb
          clear hb
          go_wp2_with (first | (go_at_call 55; refine (CSG.out _).mono ?_; rintro e w2 ⟨rfl, rfl⟩))
          go_ret
          refine ⟨ret_s9 (Go.WideShapes.bytes_inj ?_), HB.out⟩
          rw [HEQ2.out, bl_app, bl_app, HT2.out, HSG.out]
    · obtain ⟨TS, hTS⟩ : ∃ TS, (L.map fun k => mt D k.toNat) = TS := ⟨_, rfl⟩
      rw [hTS] at HEQ htot
      have HTS := hide hTS
      have hTl : TS.length = L.length := by rw [← hTS, List.length_map]
      have HTL := hide hTl
      have HEQ2 : Hid (mt D i = grP 3 TS TS.length ++ [41] ++ sgP OC) := hide (by rw [HEQ.out]; unfold bdP grP; rw [if_neg (by decide), if_neg (by decide), List.take_length])
      clear hnm hTS hTl
      go_enter Try.func27, Try.ntmps27
      go_wp2
      go_loopw [6, 7] (fun sv mv wr => ∃ (m : Nat) (t : ByteArray), m ≤ L.length ∧ mv = .int .i64 m ∧ sv = .string t ∧ Hid (t.data.toList = grP 3 TS m) ∧ Hid (NdAt wr w.heap.size 3 NM ad L.length cp OC) ∧ Below w.heap.size w wr) (fun _ mv _ => L.length - (intOf mv).toNat)
      case atStart => exact ⟨0, _, Nat.zero_le _, rfl, rfl, hide rfl, hide (ndAt_new w _ _ _ _ _ _ _), HST.out _⟩
      case round =>
        obtain ⟨m, t, hm, rfl, rfl, HT, HN, hb⟩ := hrel
        obtain ⟨a0, a1, a2, a3⟩ := ndAt_cells HN.out
        have hgl := gr_len 3 TS m
        have hts : t.size ≤ 2001 := by rw [← bl, HT.out]; omega
        by_cases hlt : m < L.length
        · obtain ⟨b9, off9, rfl, hb9, hc9⟩ := HAT.out (fun h => by rw [h] at hlt; exact absurd hlt (Nat.not_lt_zero _))
          have k0 := (hb.cell (p := ⟨b9, off9 + m, none⟩) hb9).trans (hc9 m hlt)
          have hmi : (m : Int) < (L.length : Int) := by omega
          have hkk := HKID.out (L[m]?.getD 0) (by rw [List.getElem?_eq_getElem hlt]; exact List.getElem_mem hlt)
          have HTM : Hid (TS[m]?.getD [] = mt D (L[m]?.getD 0).toNat) := hide (by rw [← HTS.out, List.getElem?_map, List.getElem?_eq_getElem hlt]; rfl)
          obtain ⟨v, hv⟩ : ∃ v, L[m]?.getD 0 = v := ⟨_, rfl⟩
          rw [hv] at k0 hkk HTM
          obtain ⟨c, rfl⟩ : ∃ c : Nat, v = (c : Int) := ⟨v.toNat, by omega⟩
          rw [show ((c : Int)).toNat = c by omega] at HTM
          have CI := hide (IH.out c (by omega) (by omega) wr (Nat.lt_of_lt_of_le hbs hb.size) (pnRow_up (pnRow_go HR.out hbs hb) hb.size))
          obtain ⟨P, hP⟩ : ∃ P : ByteArray, (⟨(mt D c).toArray⟩ : ByteArray) = P := ⟨_, rfl⟩
          rw [hP] at CI
          have HPL : Hid (P.data.toList = TS[m]?.getD []) := hide (by rw [← hP, HTM.out])
          have HB := hide hb
          clear hc9 hv hP hb
          by_cases h0 : m = 0
          · have HG := hide (gr_first 3 TS (by rw [HTL.out]; omega))
            have hgl2 := gr_len 3 TS 1
            have hps : t.size + P.size ≤ 2001 := by
              have h1 := congrArg List.length HG.out
              have h3 := congrArg List.length HPL.out
              rw [h0, bl] at h3
              rw [List.length_append] at h1
              have h2 := congrArg List.length HT.out
              rw [h0, bl] at h2
              omega
            have s1 : ¬ 9223372036854775807 < t.size + P.size := by omega
            have hm0 : ¬ (0 : Int) < (m : Int) := by omega
            have HM0 := hide h0
            clear h0
            go_wp2_with (first | (go_at_call 27; refine CI.out.mono ?_; rintro e w2 ⟨rfl, hb2⟩; have HB2 := hide (HB.out.trans (hb2.mono HB.out.size)); have HN2 := hide (ndAt_go HN.out hb2); clear hb2))
            go_roundw
            case rel => exact ⟨m + 1, _, by omega, by go_num, rfl, hide (by have h9 := HM0.out; subst h9; rw [bl_app, HT.out, HPL.out, HG.out]), HN2, HB2.out⟩
            case measure => simp [intOf]; omega
          · have HG := hide (gr_next 3 TS m (by rw [HTL.out]; omega) h0)
            have hgl2 := gr_len 3 TS (m + 1)
            have hsp := sep_len 3
            have hps : t.size + 1 + P.size ≤ 2001 := by
              have h1 := congrArg List.length HG.out
              rw [List.length_append, List.length_append, ← HPL.out, bl, hsp, ← HT.out, bl] at h1
              omega
            have s1 : ¬ 9223372036854775807 < t.size + 1 := by omega
            have s2 : ¬ 9223372036854775807 < t.size + 1 + P.size := by omega
            have hm0 : (0 : Int) < (m : Int) := by omega
            clear h0
            go_wp2_with (first | (go_at_call 27; refine CI.out.mono ?_; rintro e w2 ⟨rfl, hb2⟩; have HB2 := hide (HB.out.trans (hb2.mono HB.out.size)); have HN2 := hide (ndAt_go HN.out hb2); clear hb2))
            go_roundw
            case rel => exact ⟨m + 1, _, by omega, by go_num, rfl, hide (by rw [bl_app, bl_app, HT.out, HPL.out, HG.out]; rfl), HN2, HB2.out⟩
            case measure => simp [intOf]; omega
        · have hml : m = L.length := by omega
          subst hml
          have HT2 : Hid (t.data.toList = grP 3 TS TS.length) := hide (by rw [HTL.out]; exact HT.out)
          have s1 : ¬ 9223372036854775807 < t.size + 1 := by omega
          have s2 : ¬ 9223372036854775807 < t.size + 1 + SG.size := by omega
          have HB := hide hb
          clear hb
          go_wp2_with (first | (go_at_call 55; refine (CSG.out _).mono ?_; rintro e w2 ⟨rfl, rfl⟩))
          go_ret
          refine ⟨ret_s9 (Go.WideShapes.bytes_inj ?_), HB.out⟩
          rw [HEQ2.out, bl_app, bl_app, HT2.out, HSG.out]
    · have s1 : ¬ 9223372036854775807 < 1 + SG.size := by omega
      clear hnm
      go_enter Try.func27, Try.ntmps27
      go_wp2_with (first | (go_at_call 55; refine (CSG.out _).mono ?_; rintro e w2 ⟨rfl, rfl⟩))
      go_ret
      refine ⟨ret_s9 (Go.WideShapes.bytes_inj ?_), HST.out _⟩
      rw [HEQ.out, bl_app, HSG.out]
      rfl
end Go.Proofs.Ytfohfljdgmlibaa
