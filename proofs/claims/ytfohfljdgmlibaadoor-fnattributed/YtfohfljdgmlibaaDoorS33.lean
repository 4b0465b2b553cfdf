/-
  Contract: the shortest row of a node, by the specification.
-/
import Derived.Test.YtfohfljdgmlibaaDoorS31
import Derived.Test.YtfohfljdgmlibaaDoorS32
import Derived.Test.YtfohfljdgmlibaaDoorS13
namespace Go.Proofs.YtfohfljdgmlibaaDoor
open Go.RowKit Go.Joins
set_option linter.unusedVariables false
set_option linter.unusedSimpArgs false
theorem strR_low {B B' : Nat} {w : World} {ad : Option Addr} {c : Nat} {L : List ByteArray} (h : StrR B w ad c L) (hb : B' ≤ B) : StrR B' w ad c L := gOwn_lower h hb
theorem strs_one (L : List ByteArray) : ∀ u ∈ L.map Value.string, u.oneCell' = true := by
  intro u hu
  obtain ⟨z, -, rfl⟩ := List.mem_map.1 hu
  rfl
theorem strR_src {B : Nat} {w : World} {ad : Option Addr} {c : Nat} {L : List ByteArray} (h : StrR B w ad c L) (hp : 0 < L.length) : ∃ a, ad = some a ∧ ∀ j u, (L.map Value.string)[j]? = some u → w.cell? (a.add j) = some u := by
  obtain ⟨g, rfl, -, -, hc⟩ := strR_cells h (fun e => by rw [e] at hp; exact absurd hp (Nat.lt_irrefl _))
  refine ⟨_, rfl, fun j u hu => ?_⟩
  have hadd : (⟨g, 0, none⟩ : Addr).add j = ⟨g, 0 + j, none⟩ := by unfold Addr.add; split <;> simp_all
  rw [List.getElem?_map] at hu
  cases hj : L[j]? with
  | none => rw [hj] at hu; cases hu
  | some x =>
    rw [hj] at hu
    cases hu
    rw [hadd]
    exact hc j x hj
theorem strR_one (w : World) (s : ByteArray) (B : Nat) (hB : B ≤ w.heap.size) : StrR B (w.alloc (.cells #[.string s] 9)) (some ⟨w.heap.size, 0, none⟩) 1 [s] :=
  ⟨rfl, .inr ⟨w.heap.size, 1, #[.string s], rfl, hB, heap_alloc_new w _, Nat.le_refl _, by unfold maxLen; omega, rfl, rfl⟩⟩
theorem strR_zero (w : World) (B : Nat) (hB : B ≤ w.heap.size) : StrR B (w.alloc (.cells #[] 9)) (some ⟨w.heap.size, 0, none⟩) 0 [] := World.ownsRow_made (base := B) (e := 9) (size := 1) w #[] 0 hB (Nat.zero_le _) rfl
theorem size_alloc (w : World) (o : Obj) : (w.alloc o).heap.size = w.heap.size + 1 := by simp
theorem strR_zero2 (w : World) (o : Obj) : StrR w.heap.size ((w.alloc o).alloc (.cells #[] 9)) (some ⟨w.heap.size + 1, 0, none⟩) 0 [] := by
  have h := strR_zero (w.alloc o) w.heap.size (by simp)
  rw [size_alloc] at h
  exact h
theorem strR_one2 (w : World) (o : Obj) (s : ByteArray) : StrR w.heap.size ((w.alloc o).alloc (.cells #[.string s] 9)) (some ⟨w.heap.size + 1, 0, none⟩) 1 [s] := by
  have h := strR_one (w.alloc o) s w.heap.size (by simp)
  rw [size_alloc] at h
  exact h
def SmAns (L : List ByteArray) (w : World) (r : Ending) (w' : World) : Prop := ∃ ad c, r = .returned (.slice ad L.length c) ∧ StrR w.heap.size w' ad c L ∧ Below w.heap.size w w'
theorem rm_sm {D : Pn} {n : Nat} (h : RM D n) {i : Nat} (hi : i < n) : sm D i = bdS (D.OC i) (D.K i) (D.NM i) ((D.KL i).map fun k => sm D k.toNat) := sm_eq (fun j hj => h.2.2.2.1 j (by omega))
theorem rm_smL {D : Pn} {n : Nat} (h : RM D n) {i : Nat} (hi : i < n) : ((D.KL i).map fun k => sm D k.toNat).flatten.length ≤ 40 := by
  obtain ⟨h1, h2, h3, h4, h5, -⟩ := h
  obtain ⟨c, hc⟩ := h5 i hi
  have := (sm_len (fun j hj => h4 j (by omega)) (i + 1) i c (by omega) (by omega) hc).2
  omega
theorem rm_three {D : Pn} {n : Nat} (h : RM D n) {i : Nat} (hi : i < n) (hk : D.K i = 3) : 2 ≤ (D.KL i).length := by
  have h2 := h.2.2.1 i hi
  unfold nodeB ndB at h2
  rw [hk] at h2
  simp at h2
  omega
set_option maxRecDepth 100000 in
set_option maxHeartbeats 8000000 in
theorem s_short (D : Pn) (n b0 off cap : Nat) (hRM : RM D n) : ∀ (k i : Nat), i < k → i < n → ∀ w : World, b0 < w.heap.size → PnRow w b0 off D w.heap.size →
    Calls Tryd.prog 55 #[.slice (some ⟨b0, off, none⟩) n cap, .int .i64 i] w (SmAns (sm D i) w)
  | 0, i, hk, hi => by omega
  | k + 1, i, hk, hi => by
    intro w hbs hr
    obtain ⟨i0, hi0, hz0, hz1, hz2⟩ := info_parts infoStr
    have IH := hide (s_short D n b0 off cap hRM k)
    have HR := hide hr
    have HKID := hide (hRM.2.2.2.1 i hi)
    obtain ⟨ad, cp, hc, hat, hcp⟩ := hr i (by rw [hRM.1]; exact hi)
    obtain ⟨c0, c1, c2, c3⟩ := hc
    have hin : (i : Int) < (n : Int) := by omega
    have hi00 : (0 : Int) ≤ (i : Int) := by omega
    have hn40 := hRM.2.1
    have HEQ := hide (rm_sm hRM hi)
    have htot := rm_smL hRM hi
    have hll := hRM.2.2.2.2.2 i hi
    have HST := hide (fun (o : Obj) => (Below.refl w.heap.size w).alloc (Nat.le_refl _) o)
    have hkinds := rm_kinds hRM hi
    obtain ⟨K, hK⟩ : ∃ K, D.K i = K := ⟨_, rfl⟩
    obtain ⟨NM, hNM⟩ : ∃ NM, D.NM i = NM := ⟨_, rfl⟩
    obtain ⟨OC, hOC⟩ : ∃ OC, D.OC i = OC := ⟨_, rfl⟩
    obtain ⟨L, hL⟩ : ∃ L, D.KL i = L := ⟨_, rfl⟩
    rw [hK] at c0 HEQ hkinds
    rw [hNM] at c1 HEQ
    rw [hL] at c2 HEQ HKID hat htot hll
    rw [hOC] at c3 HEQ
    have HAT := hide hat
    have hwb : w.heap.size + 1 = (w.alloc (.cells #[.int .i64 K, .string NM, .slice ad L.length cp, .int .i64 OC] 34)).heap.size := by simp
    have HWB := hide hwb
    clear hr hat hK hNM hOC hL hRM hcp hwb
    by_cases ho : OC = 1 ∨ OC = 2
    · have HE : Hid (sm D i = []) := hide (by rw [HEQ.out]; unfold bdS; rw [if_pos ho])
      rcases ho with rfl | rfl
      all_goals
        go_enter Tryd.func55, Tryd.ntmps55
        go_wp2
        go_ret
        refine ⟨_, 0, by rw [HE.out]; rfl, ?_, (HST.out _).alloc (by simp) _⟩
        rw [HE.out]
        exact strR_zero2 _ _
    · have f1 : (OC == 1) = false := by simp; omega
      have f2 : (OC == 2) = false := by simp; omega
      have HE : Hid (sm D i = if K = 1 then [NM] else if K = 4 then [anyT] else if K = 2 then (L.map fun k => sm D k.toNat).flatten else lsL (L.map fun k => sm D k.toNat)) := hide (by rw [HEQ.out]; unfold bdS; rw [if_neg ho])
      clear ho HEQ
      rcases hkinds with rfl | rfl | rfl | rfl
      · go_enter Tryd.func55, Tryd.ntmps55
        go_wp2
        go_ret
        refine ⟨_, 1, by rw [HE.out]; rfl, ?_, (HST.out _).alloc (by simp) _⟩
        rw [HE.out]
        exact strR_one2 _ _ _
      · obtain ⟨TS, hTS⟩ : ∃ TS, (L.map fun k => sm D k.toNat) = TS := ⟨_, rfl⟩
        rw [hTS] at HE htot
        have HTS := hide hTS
        have HTL : Hid (TS.length = L.length) := hide (by rw [← hTS, List.length_map])
        have HE2 : Hid (sm D i = (TS.take L.length).flatten) := hide (by rw [HE.out, ← HTL.out, List.take_length]; rfl)
        clear hTS HE
        go_enter Tryd.func55, Tryd.ntmps55
        go_wp2
        go_loopw [6, 7] (fun sv mv wr => ∃ (m : Nat) (sa : Option Addr) (sc : Nat), m ≤ L.length ∧ mv = .int .i64 m ∧ sv = .slice sa ((TS.take m).flatten).length sc ∧ Hid (StrR (w.heap.size + 1) wr sa sc ((TS.take m).flatten)) ∧ Hid (NdAt wr w.heap.size 2 NM ad L.length cp OC) ∧ Hid (Below w.heap.size w wr) ∧ w.heap.size + 1 ≤ wr.heap.size) (fun _ mv _ => L.length - (intOf mv).toNat)
        case atStart => exact ⟨0, some ⟨w.heap.size + 1, 0, none⟩, 0, Nat.zero_le _, rfl, by first | rfl | simp [lsL], hide (by have h := strR_zero (w.alloc (.cells #[.int .i64 2, .string NM, .slice ad L.length cp, .int .i64 OC] 34)) (w.heap.size + 1) (by simp); rw [← HWB.out] at h; simpa [lsL] using h), hide (ndAt_go (ndAt_new w _ _ _ _ _ _ _) ((Below.refl _ _).alloc (Nat.le_refl _) _)), hide ((HST.out _).alloc (by simp) _), by first | (simp; done) | (simp; omega)⟩
        case round =>
          obtain ⟨m, sa, sc, hm, rfl, rfl, HS, HN, HB, hsz⟩ := hrel
          obtain ⟨a0, a1, a2, a3⟩ := ndAt_cells HN.out
          by_cases hlt : m < L.length
          · obtain ⟨b9, off9, rfl, hb9, hc9⟩ := HAT.out (fun h => by rw [h] at hlt; exact absurd hlt (Nat.not_lt_zero _))
            have k0 := (HB.out.cell (p := ⟨b9, off9 + m, none⟩) hb9).trans (hc9 m hlt)
            have hmi : (m : Int) < (L.length : Int) := by omega
            have hm0 : (0 : Int) ≤ (m : Int) := by omega
            have hkk := HKID.out (L[m]?.getD 0) (by rw [List.getElem?_eq_getElem hlt]; exact List.getElem_mem hlt)
            have HTM : Hid (TS[m]?.getD [] = sm D (L[m]?.getD 0).toNat) := hide (by rw [← HTS.out, List.getElem?_map, List.getElem?_eq_getElem hlt]; rfl)
            obtain ⟨v, hv⟩ : ∃ v, L[m]?.getD 0 = v := ⟨_, rfl⟩
            rw [hv] at k0 hkk HTM
            obtain ⟨c, rfl⟩ : ∃ c : Nat, v = (c : Int) := ⟨v.toNat, by omega⟩
            rw [show ((c : Int)).toNat = c by omega] at HTM
            have CI := hide (IH.out c (by omega) (by omega) wr (Nat.lt_of_lt_of_le hbs HB.out.size) (pnRow_up (pnRow_go HR.out hbs HB.out) HB.out.size))
            rw [← HTM.out] at CI
            have hmT : m < TS.length := by rw [HTL.out]; exact hlt
            clear hc9 hv
            have HNX := hide (fl_next TS m hmT)
            have hfl := fl_take TS (m + 1)
            rw [HNX.out, List.length_append] at hfl
            obtain ⟨F, hF⟩ : ∃ F, (TS.take m).flatten = F := ⟨_, rfl⟩
            obtain ⟨P, hP⟩ : ∃ P, TS[m]?.getD [] = P := ⟨_, rfl⟩
            rw [hP] at CI HNX hfl
            rw [hF] at HNX HS hfl ⊢
            clear hF hP HTM
            go_wp2_with fail
            refine CI.out.mono ?_
            rintro e w2 ⟨ad2, c2, rfl, ho2, hb2⟩
            have HP2 := hide ho2
            have HS2 := hide (show StrR (w.heap.size + 1) w2 sa sc F from gOwn_after HS.out hb2)
            have HB2 := hide (HB.out.trans (hb2.mono HB.out.size))
            have HN2 := hide (ndAt_go HN.out hb2)
            obtain ⟨p0, p1, p2, p3⟩ := ndAt_cells HN2.out
            have hsz2 : w.heap.size + 1 ≤ w2.heap.size := Nat.le_trans hsz hb2.size
            clear ho2 hb2 a0 a1 a2 a3 k0
            go_wp2_with (at_builtin; refine wpList_append_src (by rfl) (.tmp 50) (.tmp 51) 25 (by rfl) (w.heap.size + 1) 9 i0 (.string ByteArray.empty) 1 16 Tryd.underlying25 hi0 hz0 hz1 hz2 rfl (by decide) (.slice sa F.length sc) F.length (F.map Value.string) (by rfl) HS2.out ad2 P.length c2 (P.map Value.string) (by rfl) (by rw [List.length_map, Nat.mul_one]) (fun hp => strR_src HP2.out hp) (strs_one _) (by unfold maxLen; omega) (by omega) hsz2 ?_; intro a9 c9 w9 hown9 hgr9)
            have HO9 := hide hown9
            have HB9 := hide (HB2.out.grown hgr9 (by omega) (fun k hk => by have := (HS2.out.lt k hk).1; omega))
            have HN9 : Hid (NdAt w9 w.heap.size 2 NM (some ⟨b9, off9, none⟩) L.length cp OC) := hide (by
              obtain ⟨T, hT⟩ := HN2.out
              exact ⟨T, (hgr9.block w.heap.size (by omega) (fun e => by have := (HS2.out.lt w.heap.size e.symm).1; omega)).trans hT⟩)
            have hs9 : w.heap.size + 1 ≤ w9.heap.size := Nat.le_trans hsz2 hgr9.size
            clear hown9 hgr9 p0 p1 p2 p3
            go_wp2
            go_roundw
            case rel => exact ⟨m + 1, a9, c9, by omega, by go_num, by rw [HNX.out, List.length_append], hide (by rw [HNX.out]; unfold StrR; rw [List.length_append, List.map_append]; exact HO9.out), HN9, HB9, hs9⟩
            case measure => simp [intOf]; omega
          · have hml : m = L.length := by omega
            subst hml
            rw [← HE2.out] at HS ⊢
            go_wp2
            go_ret
            exact ⟨sa, sc, rfl, strR_low HS.out (Nat.le_succ _), HB.out⟩
      · obtain ⟨TS, hTS⟩ : ∃ TS, (L.map fun k => sm D k.toNat) = TS := ⟨_, rfl⟩
        rw [hTS] at HE htot
        have HTS := hide hTS
        have HTL : Hid (TS.length = L.length) := hide (by rw [← hTS, List.length_map])
        have HE2 : Hid (sm D i = lsL (TS.take L.length)) := hide (by rw [HE.out, ← HTL.out, List.take_length]; rfl)
        clear hTS HE
        go_enter Tryd.func55, Tryd.ntmps55
        go_wp2
        go_loopw [6, 7] (fun sv mv wr => ∃ (m : Nat) (sa : Option Addr) (sc : Nat), m ≤ L.length ∧ mv = .int .i64 m ∧ sv = .slice sa (lsL (TS.take m)).length sc ∧ Hid (StrR (w.heap.size + 1) wr sa sc (lsL (TS.take m))) ∧ Hid (NdAt wr w.heap.size 3 NM ad L.length cp OC) ∧ Hid (Below w.heap.size w wr) ∧ w.heap.size + 1 ≤ wr.heap.size) (fun _ mv _ => L.length - (intOf mv).toNat)
        case atStart => exact ⟨0, some ⟨w.heap.size + 1, 0, none⟩, 0, Nat.zero_le _, rfl, by first | rfl | simp [lsL], hide (by have h := strR_zero (w.alloc (.cells #[.int .i64 3, .string NM, .slice ad L.length cp, .int .i64 OC] 34)) (w.heap.size + 1) (by simp); rw [← HWB.out] at h; simpa [lsL] using h), hide (ndAt_go (ndAt_new w _ _ _ _ _ _ _) ((Below.refl _ _).alloc (Nat.le_refl _) _)), hide ((HST.out _).alloc (by simp) _), by first | (simp; done) | (simp; omega)⟩
        case round =>
          obtain ⟨m, sa, sc, hm, rfl, rfl, HS, HN, HB, hsz⟩ := hrel
          obtain ⟨a0, a1, a2, a3⟩ := ndAt_cells HN.out
          by_cases hlt : m < L.length
          · obtain ⟨b9, off9, rfl, hb9, hc9⟩ := HAT.out (fun h => by rw [h] at hlt; exact absurd hlt (Nat.not_lt_zero _))
            have k0 := (HB.out.cell (p := ⟨b9, off9 + m, none⟩) hb9).trans (hc9 m hlt)
            have hmi : (m : Int) < (L.length : Int) := by omega
            have hm0 : (0 : Int) ≤ (m : Int) := by omega
            have hkk := HKID.out (L[m]?.getD 0) (by rw [List.getElem?_eq_getElem hlt]; exact List.getElem_mem hlt)
            have HTM : Hid (TS[m]?.getD [] = sm D (L[m]?.getD 0).toNat) := hide (by rw [← HTS.out, List.getElem?_map, List.getElem?_eq_getElem hlt]; rfl)
            obtain ⟨v, hv⟩ : ∃ v, L[m]?.getD 0 = v := ⟨_, rfl⟩
            rw [hv] at k0 hkk HTM
            obtain ⟨c, rfl⟩ : ∃ c : Nat, v = (c : Int) := ⟨v.toNat, by omega⟩
            rw [show ((c : Int)).toNat = c by omega] at HTM
            have CI := hide (IH.out c (by omega) (by omega) wr (Nat.lt_of_lt_of_le hbs HB.out.size) (pnRow_up (pnRow_go HR.out hbs HB.out) HB.out.size))
            rw [← HTM.out] at CI
            have hmT : m < TS.length := by rw [HTL.out]; exact hlt
            clear hc9 hv
            obtain ⟨P, hP⟩ : ∃ P, TS[m]?.getD [] = P := ⟨_, rfl⟩
            rw [hP] at CI
            by_cases h0 : m = 0
            · have HNX : Hid (lsL (TS.take (m + 1)) = P) := hide (by rw [h0] at hP ⊢; rw [← hP]; exact ls_first TS (by omega))
              have hme : ((m : Int) == 0) = true := by rw [beq_iff_eq]; omega
              obtain ⟨F, hF⟩ : ∃ F, lsL (TS.take m) = F := ⟨_, rfl⟩
              rw [hF] at HS ⊢
              clear hF hP HTM h0
              go_wp2_with fail
              refine CI.out.mono ?_
              rintro e w2 ⟨ad2, c2, rfl, ho2, hb2⟩
              have HP2 := hide (strR_low ho2 hsz)
              have HB2 := hide (HB.out.trans (hb2.mono HB.out.size))
              have HN2 := hide (ndAt_go HN.out hb2)
              obtain ⟨p0, p1, p2, p3⟩ := ndAt_cells HN2.out
              have hsz2 : w.heap.size + 1 ≤ w2.heap.size := Nat.le_trans hsz hb2.size
              clear ho2 hb2 a0 a1 a2 a3 k0
              go_wp2
              go_roundw
              case rel => exact ⟨m + 1, ad2, c2, by omega, by go_num, by rw [HNX.out], hide (by rw [HNX.out]; exact HP2.out), HN2, HB2, hsz2⟩
              case measure => simp [intOf]; omega
            · have hnx := ls_next TS m hmT (by omega)
              rw [hP] at hnx
              have hme : ((m : Int) == 0) = false := by rw [beq_eq_false_iff_ne]; omega
              obtain ⟨F, hF⟩ : ∃ F, lsL (TS.take m) = F := ⟨_, rfl⟩
              rw [hF] at HS hnx ⊢
              clear hF hP HTM h0
              by_cases hpf : P.length < F.length
              · have HNX : Hid (lsL (TS.take (m + 1)) = P) := hide (by rw [hnx, if_pos hpf])
                have hpi : (P.length : Int) < (F.length : Int) := by omega
                clear hnx
                go_wp2_with fail
                refine CI.out.mono ?_
                rintro e w2 ⟨ad2, c2, rfl, ho2, hb2⟩
                have HP2 := hide (strR_low ho2 hsz)
                have HB2 := hide (HB.out.trans (hb2.mono HB.out.size))
                have HN2 := hide (ndAt_go HN.out hb2)
                obtain ⟨p0, p1, p2, p3⟩ := ndAt_cells HN2.out
                have hsz2 : w.heap.size + 1 ≤ w2.heap.size := Nat.le_trans hsz hb2.size
                clear ho2 hb2 a0 a1 a2 a3 k0
                go_wp2
                go_roundw
                case rel => exact ⟨m + 1, ad2, c2, by omega, by go_num, by rw [HNX.out], hide (by rw [HNX.out]; exact HP2.out), HN2, HB2, hsz2⟩
                case measure => simp [intOf]; omega
              · have HNX : Hid (lsL (TS.take (m + 1)) = F) := hide (by rw [hnx, if_neg hpf])
                have hpi : ¬ (P.length : Int) < (F.length : Int) := by omega
                clear hnx
                go_wp2_with fail
                refine CI.out.mono ?_
                rintro e w2 ⟨ad2, c2, rfl, ho2, hb2⟩
                have HS2 := hide (show StrR (w.heap.size + 1) w2 sa sc F from gOwn_after HS.out hb2)
                have HB2 := hide (HB.out.trans (hb2.mono HB.out.size))
                have HN2 := hide (ndAt_go HN.out hb2)
                obtain ⟨p0, p1, p2, p3⟩ := ndAt_cells HN2.out
                have hsz2 : w.heap.size + 1 ≤ w2.heap.size := Nat.le_trans hsz hb2.size
                clear ho2 hb2 a0 a1 a2 a3 k0
                go_wp2
                go_roundw
                case rel => exact ⟨m + 1, sa, sc, by omega, by go_num, by rw [HNX.out], hide (by rw [HNX.out]; exact HS2.out), HN2, HB2, hsz2⟩
                case measure => simp [intOf]; omega
          · have hml : m = L.length := by omega
            subst hml
            rw [← HE2.out] at HS ⊢
            go_wp2
            go_ret
            exact ⟨sa, sc, rfl, strR_low HS.out (Nat.le_succ _), HB.out⟩
      · go_enter Tryd.func55, Tryd.ntmps55
        go_wp2
        go_ret
        refine ⟨_, 1, by rw [HE.out]; rfl, ?_, (HST.out _).alloc (by simp) _⟩
        rw [HE.out]
        exact strR_one2 _ _ _
end Go.Proofs.YtfohfljdgmlibaaDoor
