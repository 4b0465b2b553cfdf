/-
  Contract: whether a node takes no names at all, by the specification.
-/
import Derived.Test.YtfohfljdgmlibaaDoorPkS2
namespace Go.Proofs.YtfohfljdgmlibaaDoor
open Go.RowKit Go.Joins
set_option linter.unusedVariables false
set_option linter.unusedSimpArgs false
def bdN (oc k : Int) (R : List Bool) : Bool := decide (oc = 1 ∨ oc = 2) || (if k = 2 then R.all id else if k = 3 then R.any id else false)
def nlF (D : Pn) : Nat → Nat → Bool
  | 0, _ => false
  | f + 1, i => bdN (D.OC i) (D.K i) ((D.KL i).map fun k => nlF D f k.toNat)
theorem nlF_more {D : Pn} : ∀ (f g i : Nat), Lo D i → i < f → i < g → nlF D f i = nlF D g i
  | 0, g, i, hl, hf, hg => by omega
  | f + 1, 0, i, hl, hf, hg => by omega
  | f + 1, g + 1, i, hl, hf, hg => by
    have : ((D.KL i).map fun k => nlF D f k.toNat) = (D.KL i).map fun k => nlF D g k.toNat := List.map_congr_left (fun k hk => by
      have := hl i (Nat.le_refl _) k hk
      exact nlF_more f g k.toNat (lo_less hl (by omega)) (by omega) (by omega))
    rw [nlF, nlF, this]
/-- A node takes no names at all. -/
def nl (D : Pn) (i : Nat) : Bool := nlF D (i + 1) i
theorem nl_eq {D : Pn} {i : Nat} (hl : Lo D i) : nl D i = bdN (D.OC i) (D.K i) ((D.KL i).map fun k => nl D k.toNat) := by
  have : ((D.KL i).map fun k => nlF D i k.toNat) = (D.KL i).map fun k => nl D k.toNat := List.map_congr_left (fun k hk => by
    have := hl i (Nat.le_refl _) k hk
    exact nlF_more i (k.toNat + 1) k.toNat (lo_less hl (by omega)) (by omega) (by omega))
  show nlF D (i + 1) i = _
  rw [nlF, this]
/-- What the sets of a right model lean on. -/
def RN (D : Pn) (n : Nat) : Prop := D.n = n ∧ n ≤ 40 ∧ (∀ j, j < n → nodeB D j = true) ∧ (∀ j, j < n → ∀ k, k ∈ D.KL j → 0 ≤ k ∧ k < (j : Int)) ∧ (∀ j, j < n → ∃ c, tr D j = some c) ∧ ∀ j, j < n → (D.KL j).length ≤ 1048576
theorem rn_of {D : Pn} {n : Nat} (hD : D.n = n) (h : pkB D = true) (hz : pnTot D ≤ 1048576) : RN D n := by
  obtain ⟨h1, h2, -⟩ := pk_facts h
  have h3 := pk_lo h
  rw [hD] at h1 h2 h3
  exact ⟨hD, h1.2, h2, fun j hj => (h3 j hj).2, fun j hj => (h3 j hj).1, fun j hj => ((pn_sz hz).2 j (by rw [hD]; exact hj)).2⟩
theorem rn_kinds {D : Pn} {n : Nat} (h : RN D n) {i : Nat} (hi : i < n) : D.K i = 1 ∨ D.K i = 2 ∨ D.K i = 3 ∨ D.K i = 4 := nd_kinds (h.2.2.1 i hi)
theorem all_no {R : List Bool} {m : Nat} (hm : m < R.length) (h : R[m]?.getD false = false) : R.all id = false := by
  rw [List.all_eq_false]
  rw [List.getElem?_eq_getElem hm] at h
  exact ⟨R[m], List.getElem_mem hm, by have : R[m] = false := h; rw [this]; decide⟩
theorem all_yes {R : List Bool} (h : ∀ m, m < R.length → R[m]?.getD false = true) : R.all id = true := by
  rw [List.all_eq_true]
  intro b hb
  obtain ⟨m, hm, rfl⟩ := List.mem_iff_getElem.1 hb
  have := h m hm
  rw [List.getElem?_eq_getElem hm] at this
  exact this
theorem any_yes {R : List Bool} {m : Nat} (hm : m < R.length) (h : R[m]?.getD false = true) : R.any id = true := by
  rw [List.any_eq_true]
  rw [List.getElem?_eq_getElem hm] at h
  exact ⟨R[m], List.getElem_mem hm, h⟩
theorem any_no {R : List Bool} (h : ∀ m, m < R.length → R[m]?.getD false = false) : R.any id = false := by
  rw [List.any_eq_false]
  intro b hb
  obtain ⟨m, hm, rfl⟩ := List.mem_iff_getElem.1 hb
  have := h m hm
  rw [List.getElem?_eq_getElem hm] at this
  have h2 : R[m] = false := this
  rw [h2]
  decide
set_option maxRecDepth 100000 in
set_option maxHeartbeats 8000000 in
theorem s_null (D : Pn) (n b0 off cap : Nat) (hRN : RN D n) : ∀ (k i : Nat), i < k → i < n → ∀ w : World, b0 < w.heap.size → PnRow w b0 off D w.heap.size →
    Calls Tryd.prog 80 #[.slice (some ⟨b0, off, none⟩) n cap, .int .i64 i] w fun r w' => r = .returned (.bool (nl D i)) ∧ Below w.heap.size w w'
  | 0, i, hk, hi => by omega
  | k + 1, i, hk, hi => by
    intro w hbs hr
    have IH := hide (s_null D n b0 off cap hRN k)
    have HR := hide hr
    have HKID := hide (hRN.2.2.2.1 i hi)
    obtain ⟨ad, cp, hc, hat, hcp⟩ := hr i (by rw [hRN.1]; exact hi)
    obtain ⟨c0, c1, c2, c3⟩ := hc
    have hin : (i : Int) < (n : Int) := by omega
    have hi00 : (0 : Int) ≤ (i : Int) := by omega
    have HEQ := hide (nl_eq (D := D) (i := i) (fun j hj => hRN.2.2.2.1 j (by omega)))
    have hll := hRN.2.2.2.2.2 i hi
    have HST := hide (fun (o : Obj) => (Below.refl w.heap.size w).alloc (Nat.le_refl _) o)
    have hkinds := rn_kinds hRN hi
    obtain ⟨K, hK⟩ : ∃ K, D.K i = K := ⟨_, rfl⟩
    obtain ⟨NM, hNM⟩ : ∃ NM, D.NM i = NM := ⟨_, rfl⟩
    obtain ⟨OC, hOC⟩ : ∃ OC, D.OC i = OC := ⟨_, rfl⟩
    obtain ⟨L, hL⟩ : ∃ L, D.KL i = L := ⟨_, rfl⟩
    rw [hK] at c0 HEQ hkinds
    rw [hNM] at c1
    rw [hL] at c2 HEQ HKID hat hll
    rw [hOC] at c3 HEQ
    have HAT := hide hat
    clear hr hat hK hNM hOC hL hRN hcp
    by_cases ho : OC = 1 ∨ OC = 2
    · have HE : Hid (nl D i = true) := hide (by rw [HEQ.out]; unfold bdN; rw [decide_eq_true ho]; rfl)
      rcases ho with rfl | rfl
      all_goals
        go_enter Tryd.func80, Tryd.ntmps80
        go_wp2
        go_ret
        exact ⟨ret_bool HE.out.symm, HST.out _⟩
    · have f1 : (OC == 1) = false := by simp; omega
      have f2 : (OC == 2) = false := by simp; omega
      obtain ⟨TS, hTS⟩ : ∃ TS, (L.map fun k => nl D k.toNat) = TS := ⟨_, rfl⟩
      have HE : Hid (nl D i = if K = 2 then TS.all id else if K = 3 then TS.any id else false) := hide (by rw [HEQ.out, hTS]; unfold bdN; rw [decide_eq_false ho]; rfl)
      have HTS := hide hTS
      have HTL : Hid (TS.length = L.length) := hide (by rw [← hTS, List.length_map])
      clear ho HEQ hTS
      rcases hkinds with rfl | rfl | rfl | rfl
      · go_enter Tryd.func80, Tryd.ntmps80
        go_wp2
        go_ret
        exact ⟨ret_bool (by rw [HE.out]; rfl), HST.out _⟩
      · go_enter Tryd.func80, Tryd.ntmps80
        go_wp2
        go_loopw [6] (fun mv wr => ∃ (m : Nat), m ≤ L.length ∧ mv = .int .i64 m ∧ Hid (NdAt wr w.heap.size 2 NM ad L.length cp OC) ∧ Hid (Below w.heap.size w wr) ∧ Hid (∀ j, j < m → TS[j]?.getD false = true)) (fun mv _ => L.length - (intOf mv).toNat)
        case atStart => exact ⟨0, Nat.zero_le _, rfl, hide (ndAt_new w _ _ _ _ _ _ _), hide (HST.out _), hide (fun j hj => by omega)⟩
        case round =>
          obtain ⟨m, hm, rfl, HN, HB, HA⟩ := hrel
          obtain ⟨a0, a1, a2, a3⟩ := ndAt_cells HN.out
          by_cases hlt : m < L.length
          · obtain ⟨b9, off9, rfl, hb9, hc9⟩ := HAT.out (fun h => by rw [h] at hlt; exact absurd hlt (Nat.not_lt_zero _))
            have k0 := (HB.out.cell (p := ⟨b9, off9 + m, none⟩) hb9).trans (hc9 m hlt)
            have hmi : (m : Int) < (L.length : Int) := by omega
            have hm0 : (0 : Int) ≤ (m : Int) := by omega
            have hkk := HKID.out (L[m]?.getD 0) (by rw [List.getElem?_eq_getElem hlt]; exact List.getElem_mem hlt)
            have HTM : Hid (TS[m]?.getD false = nl D (L[m]?.getD 0).toNat) := hide (by rw [← HTS.out, List.getElem?_map, List.getElem?_eq_getElem hlt]; rfl)
            obtain ⟨v, hv⟩ : ∃ v, L[m]?.getD 0 = v := ⟨_, rfl⟩
            rw [hv] at k0 hkk HTM
            obtain ⟨c, rfl⟩ : ∃ c : Nat, v = (c : Int) := ⟨v.toNat, by omega⟩
            rw [show ((c : Int)).toNat = c by omega] at HTM
            have CI := hide (IH.out c (by omega) (by omega) wr (Nat.lt_of_lt_of_le hbs HB.out.size) (pnRow_up (pnRow_go HR.out hbs HB.out) HB.out.size))
            rw [← HTM.out] at CI
            clear hc9 hv HTM
            cases ht : TS[m]?.getD false
            · have HV : Hid (nl D i = false) := hide (by rw [HE.out]; exact (if_pos trivial).trans (all_no (by rw [HTL.out]; exact hlt) ht))
              rw [ht] at CI
              clear ht
              go_wp2_with (first | (go_at_call 80; refine CI.out.mono ?_; rintro e w2 ⟨rfl, hb2⟩; have HB2 := hide (HB.out.trans (hb2.mono HB.out.size)); clear hb2))
              go_ret
              exact ⟨ret_bool HV.out.symm, HB2.out⟩
            · have HA2 : Hid (∀ j, j < m + 1 → TS[j]?.getD false = true) := hide (fun j hj => by
                by_cases e : j = m
                · subst e; exact ht
                · exact HA.out j (by omega))
              rw [ht] at CI
              clear ht
              go_wp2_with (first | (go_at_call 80; refine CI.out.mono ?_; rintro e w2 ⟨rfl, hb2⟩; have HB2 := hide (HB.out.trans (hb2.mono HB.out.size)); have HN2 := hide (ndAt_go HN.out hb2); clear hb2))
              go_roundw
              case rel => exact ⟨m + 1, by omega, by go_num, HN2, HB2, HA2⟩
              case measure => simp [intOf]; omega
          · have HV : Hid (nl D i = true) := hide (by rw [HE.out]; exact (if_pos trivial).trans (all_yes (fun j hj => HA.out j (by rw [HTL.out] at hj; omega))))
            go_wp2
            go_ret
            exact ⟨ret_bool HV.out.symm, HB.out⟩
      · go_enter Tryd.func80, Tryd.ntmps80
        go_wp2
        go_loopw [7] (fun mv wr => ∃ (m : Nat), m ≤ L.length ∧ mv = .int .i64 m ∧ Hid (NdAt wr w.heap.size 3 NM ad L.length cp OC) ∧ Hid (Below w.heap.size w wr) ∧ Hid (∀ j, j < m → TS[j]?.getD false = false)) (fun mv _ => L.length - (intOf mv).toNat)
        case atStart => exact ⟨0, Nat.zero_le _, rfl, hide (ndAt_new w _ _ _ _ _ _ _), hide (HST.out _), hide (fun j hj => by omega)⟩
        case round =>
          obtain ⟨m, hm, rfl, HN, HB, HA⟩ := hrel
          obtain ⟨a0, a1, a2, a3⟩ := ndAt_cells HN.out
          by_cases hlt : m < L.length
          · obtain ⟨b9, off9, rfl, hb9, hc9⟩ := HAT.out (fun h => by rw [h] at hlt; exact absurd hlt (Nat.not_lt_zero _))
            have k0 := (HB.out.cell (p := ⟨b9, off9 + m, none⟩) hb9).trans (hc9 m hlt)
            have hmi : (m : Int) < (L.length : Int) := by omega
            have hm0 : (0 : Int) ≤ (m : Int) := by omega
            have hkk := HKID.out (L[m]?.getD 0) (by rw [List.getElem?_eq_getElem hlt]; exact List.getElem_mem hlt)
            have HTM : Hid (TS[m]?.getD false = nl D (L[m]?.getD 0).toNat) := hide (by rw [← HTS.out, List.getElem?_map, List.getElem?_eq_getElem hlt]; rfl)
            obtain ⟨v, hv⟩ : ∃ v, L[m]?.getD 0 = v := ⟨_, rfl⟩
            rw [hv] at k0 hkk HTM
            obtain ⟨c, rfl⟩ : ∃ c : Nat, v = (c : Int) := ⟨v.toNat, by omega⟩
            rw [show ((c : Int)).toNat = c by omega] at HTM
            have CI := hide (IH.out c (by omega) (by omega) wr (Nat.lt_of_lt_of_le hbs HB.out.size) (pnRow_up (pnRow_go HR.out hbs HB.out) HB.out.size))
            rw [← HTM.out] at CI
            clear hc9 hv HTM
            cases ht : TS[m]?.getD false
            · have HA2 : Hid (∀ j, j < m + 1 → TS[j]?.getD false = false) := hide (fun j hj => by
                by_cases e : j = m
                · subst e; exact ht
                · exact HA.out j (by omega))
              rw [ht] at CI
              clear ht
              go_wp2_with (first | (go_at_call 80; refine CI.out.mono ?_; rintro e w2 ⟨rfl, hb2⟩; have HB2 := hide (HB.out.trans (hb2.mono HB.out.size)); have HN2 := hide (ndAt_go HN.out hb2); clear hb2))
              go_roundw
              case rel => exact ⟨m + 1, by omega, by go_num, HN2, HB2, HA2⟩
              case measure => simp [intOf]; omega
            · have HV : Hid (nl D i = true) := hide (by rw [HE.out, if_neg (by decide)]; exact (if_pos trivial).trans (any_yes (by rw [HTL.out]; exact hlt) ht))
              rw [ht] at CI
              clear ht
              go_wp2_with (first | (go_at_call 80; refine CI.out.mono ?_; rintro e w2 ⟨rfl, hb2⟩; have HB2 := hide (HB.out.trans (hb2.mono HB.out.size)); clear hb2))
              go_ret
              exact ⟨ret_bool HV.out.symm, HB2.out⟩
          · have HV : Hid (nl D i = false) := hide (by rw [HE.out, if_neg (by decide)]; exact (if_pos trivial).trans (any_no (fun j hj => HA.out j (by rw [HTL.out] at hj; omega))))
            go_wp2
            go_ret
            exact ⟨ret_bool HV.out.symm, HB.out⟩
      · go_enter Tryd.func80, Tryd.ntmps80
        go_wp2
        go_ret
        exact ⟨ret_bool (by rw [HE.out]; rfl), HST.out _⟩
end Go.Proofs.YtfohfljdgmlibaaDoor
