/-
  Texts put together: NuS, TkMath.
-/
import Derived.Test.YtfohfljdgmlibaaDoorU5
import Derived.Test.YtfohfljdgmlibaaDoorU1
/-
  Contract: whether a node takes no names at all, by the specification.
-/
namespace Go.Proofs.YtfohfljdgmlibaaDoor
open Go.RowKit Go.Joins
set_option linter.unusedVariables false
set_option linter.unusedSimpArgs false
def bdN (oc k : Int) (R : List Bool) : Bool := decide (oc = 1 ∨ oc = 2) || (if k = 2 then R.all id else if k = 3 then R.any id else false)
def nlF (D : Pn) : Nat → Nat → Bool
  | 0, _ => false
  | f + 1, i => bdN (D.OC i) (D.K i) ((D.KL i).map fun k => nlF D f k.toNat)
theorem nlF_more {D : Pn} : ∀ (f g i : Nat), Lo D i → i < f → i < g → nlF D f i = nlF D g i
  | 0, g, i, hl, hf, hg => by omega
  | f + 1, 0, i, hl, hf, hg => by omega
  | f + 1, g + 1, i, hl, hf, hg => by
    have : ((D.KL i).map fun k => nlF D f k.toNat) = (D.KL i).map fun k => nlF D g k.toNat := List.map_congr_left (fun k hk => by
      have := hl i (Nat.le_refl _) k hk
      exact nlF_more f g k.toNat (lo_less hl (by omega)) (by omega) (by omega))
    rw [nlF, nlF, this]
/-- A node takes no names at all. -/
def nl (D : Pn) (i : Nat) : Bool := nlF D (i + 1) i
theorem nl_eq {D : Pn} {i : Nat} (hl : Lo D i) : nl D i = bdN (D.OC i) (D.K i) ((D.KL i).map fun k => nl D k.toNat) := by
  have : ((D.KL i).map fun k => nlF D i k.toNat) = (D.KL i).map fun k => nl D k.toNat := List.map_congr_left (fun k hk => by
    have := hl i (Nat.le_refl _) k hk
    exact nlF_more i (k.toNat + 1) k.toNat (lo_less hl (by omega)) (by omega) (by omega))
  show nlF D (i + 1) i = _
  rw [nlF, this]
/-- What the sets of a right model lean on. -/
def RN (D : Pn) (n : Nat) : Prop := D.n = n ∧ n ≤ 40 ∧ (∀ j, j < n → nodeB D j = true) ∧ (∀ j, j < n → ∀ k, k ∈ D.KL j → 0 ≤ k ∧ k < (j : Int)) ∧ (∀ j, j < n → ∃ c, tr D j = some c) ∧ ∀ j, j < n → (D.KL j).length ≤ 1048576
theorem rn_of {D : Pn} {n : Nat} (hD : D.n = n) (h : pkB D = true) (hz : pnTot D ≤ 1048576) : RN D n := by
  obtain ⟨h1, h2, -⟩ := pk_facts h
  have h3 := pk_lo h
  rw [hD] at h1 h2 h3
  exact ⟨hD, h1.2, h2, fun j hj => (h3 j hj).2, fun j hj => (h3 j hj).1, fun j hj => ((pn_sz hz).2 j (by rw [hD]; exact hj)).2⟩
theorem rn_kinds {D : Pn} {n : Nat} (h : RN D n) {i : Nat} (hi : i < n) : D.K i = 1 ∨ D.K i = 2 ∨ D.K i = 3 ∨ D.K i = 4 := nd_kinds (h.2.2.1 i hi)
theorem all_no {R : List Bool} {m : Nat} (hm : m < R.length) (h : R[m]?.getD false = false) : R.all id = false := by
  rw [List.all_eq_false]
  rw [List.getElem?_eq_getElem hm] at h
  exact ⟨R[m], List.getElem_mem hm, by have : R[m] = false := h; rw [this]; decide⟩
theorem all_yes {R : List Bool} (h : ∀ m, m < R.length → R[m]?.getD false = true) : R.all id = true := by
  rw [List.all_eq_true]
  intro b hb
  obtain ⟨m, hm, rfl⟩ := List.mem_iff_getElem.1 hb
  have := h m hm
  rw [List.getElem?_eq_getElem hm] at this
  exact this
theorem any_yes {R : List Bool} {m : Nat} (hm : m < R.length) (h : R[m]?.getD false = true) : R.any id = true := by
  rw [List.any_eq_true]
  rw [List.getElem?_eq_getElem hm] at h
  exact ⟨R[m], List.getElem_mem hm, h⟩
theorem any_no {R : List Bool} (h : ∀ m, m < R.length → R[m]?.getD false = false) : R.any id = false := by
  rw [List.any_eq_false]
  intro b hb
  obtain ⟨m, hm, rfl⟩ := List.mem_iff_getElem.1 hb
  have := h m hm
  rw [List.getElem?_eq_getElem hm] at this
  have h2 : R[m] = false := this
  rw [h2]
  decide
set_option maxRecDepth 100000 in
set_option maxHeartbeats 8000000 in
theorem s_null (D : Pn) (n b0 off cap : Nat) (hRN : RN D n) : ∀ (k i : Nat), i < k → i < n → ∀ w : World, b0 < w.heap.size → PnRow w b0 off D w.heap.size →
    Calls Tryd.prog 80 #[.slice (some ⟨b0, off, none⟩) n cap, .int .i64 i] w fun r w' => r = .returned (.bool (nl D i)) ∧ Below w.heap.size w w'
  | 0, i, hk, hi => by omega
  | k + 1, i, hk, hi => by
    intro w hbs hr
    have IH := hide (s_null D n b0 off cap hRN k)
    have HR := hide hr
    have HKID := hide (hRN.2.2.2.1 i hi)
    obtain ⟨ad, cp, hc, hat, hcp⟩ := hr i (by rw [hRN.1]; exact hi)
    obtain ⟨c0, c1, c2, c3⟩ := hc
    have hin : (i : Int) < (n : Int) := by omega
    have hi00 : (0 : Int) ≤ (i : Int) := by omega
    have HEQ := hide (nl_eq (D := D) (i := i) (fun j hj => hRN.2.2.2.1 j (by omega)))
    have hll := hRN.2.2.2.2.2 i hi
    have HST := hide (fun (o : Obj) => (Below.refl w.heap.size w).alloc (Nat.le_refl _) o)
    have hkinds := rn_kinds hRN hi
    obtain ⟨K, hK⟩ : ∃ K, D.K i = K := ⟨_, rfl⟩
    obtain ⟨NM, hNM⟩ : ∃ NM, D.NM i = NM := ⟨_, rfl⟩
    obtain ⟨OC, hOC⟩ : ∃ OC, D.OC i = OC := ⟨_, rfl⟩
    obtain ⟨L, hL⟩ : ∃ L, D.KL i = L := ⟨_, rfl⟩
    rw [hK] at c0 HEQ hkinds
    rw [hNM] at c1
    rw [hL] at c2 HEQ HKID hat hll
    rw [hOC] at c3 HEQ
    have HAT := hide hat
    clear hr hat hK hNM hOC hL hRN hcp
    by_cases ho : OC = 1 ∨ OC = 2
    · have HE : Hid (nl D i = true) := hide (by rw [HEQ.out]; unfold bdN; rw [decide_eq_true ho]; rfl)
      rcases ho with rfl | rfl
      all_goals
        go_enter Tryd.func80, Tryd.ntmps80
        go_wp2
        go_ret
        exact ⟨ret_bool HE.out.symm, HST.out _⟩
    · have f1 : (OC == 1) = false := by simp; omega
      have f2 : (OC == 2) = false := by simp; omega
      obtain ⟨TS, hTS⟩ : ∃ TS, (L.map fun k => nl D k.toNat) = TS := ⟨_, rfl⟩
      have HE : Hid (nl D i = if K = 2 then TS.all id else if K = 3 then TS.any id else false) := hide (by rw [HEQ.out, hTS]; unfold bdN; rw [decide_eq_false ho]; rfl)
      have HTS := hide hTS
      have HTL : Hid (TS.length = L.length) := hide (by rw [← hTS, List.length_map])
      clear ho HEQ hTS
      rcases hkinds with rfl | rfl | rfl | rfl
      · go_enter Tryd.func80, Tryd.ntmps80
        go_wp2
        go_ret
        exact ⟨ret_bool (by rw [HE.out]; rfl), HST.out _⟩
      · go_enter Tryd.func80, Tryd.ntmps80
        go_wp2
        go_loopw [6] (fun mv wr => ∃ (m : Nat), m ≤ L.length ∧ mv = .int .i64 m ∧ Hid (NdAt wr w.heap.size 2 NM ad L.length cp OC) ∧ Hid (Below w.heap.size w wr) ∧ Hid (∀ j, j < m → TS[j]?.getD false = true)) (fun mv _ => L.length - (intOf mv).toNat)
        case atStart => exact ⟨0, Nat.zero_le _, rfl, hide (ndAt_new w _ _ _ _ _ _ _), hide (HST.out _), hide (fun j hj => by omega)⟩
        case round =>
          obtain ⟨m, hm, rfl, HN, HB, HA⟩ := hrel
          obtain ⟨a0, a1, a2, a3⟩ := ndAt_cells HN.out
          by_cases hlt : m < L.length
          · obtain ⟨b9, off9, rfl, hb9, hc9⟩ := HAT.out (fun h => by rw [h] at hlt; exact absurd hlt (Nat.not_lt_zero _))
            have k0 := (HB.out.cell (p := ⟨b9, off9 + m, none⟩) hb9).trans (hc9 m hlt)
            have hmi : (m : Int) < (L.length : Int) := by omega
            have hm0 : (0 : Int) ≤ (m : Int) := by omega
            have hkk := HKID.out (L[m]?.getD 0) (by rw [List.getElem?_eq_getElem hlt]; exact List.getElem_mem hlt)
            have HTM : Hid (TS[m]?.getD false = nl D (L[m]?.getD 0).toNat) := hide (by rw [← HTS.out, List.getElem?_map, List.getElem?_eq_getElem hlt]; rfl)
            obtain ⟨v, hv⟩ : ∃ v, L[m]?.getD 0 = v := ⟨_, rfl⟩
            rw [hv] at k0 hkk HTM
            obtain ⟨c, rfl⟩ : ∃ c : Nat, v = (c : Int) := ⟨v.toNat, by omega⟩
            rw [show ((c : Int)).toNat = c by omega] at HTM
            have CI := hide (IH.out c (by omega) (by omega) wr (Nat.lt_of_lt_of_le hbs HB.out.size) (pnRow_up (pnRow_go HR.out hbs HB.out) HB.out.size))
            rw [← HTM.out] at CI
            clear hc9 hv HTM
            cases ht : TS[m]?.getD false
            · have HV : Hid (nl D i = false) := hide (by rw [HE.out]; exact (if_pos trivial).trans (all_no (by rw [HTL.out]; exact hlt) ht))
              rw [ht] at CI
              clear ht
              go_wp2_with (first | (go_at_call 80; refine CI.out.mono ?_; rintro e w2 ⟨rfl, hb2⟩; have HB2 := hide (HB.out.trans (hb2.mono HB.out.size)); clear hb2))
              go_ret
              exact ⟨ret_bool HV.out.symm, HB2.out⟩
            · have HA2 : Hid (∀ j, j < m + 1 → TS[j]?.getD false = true) := hide (fun j hj => by
                by_cases e : j = m
                · subst e; exact ht
                · exact HA.out j (by omega))
              rw [ht] at CI
              clear ht
              go_wp2_with (first | (go_at_call 80; refine CI.out.mono ?_; rintro e w2 ⟨rfl, hb2⟩; have HB2 := hide (HB.out.trans (hb2.mono HB.out.size)); have HN2 := hide (ndAt_go HN.out hb2); clear hb2))
              go_roundw
              case rel => exact ⟨m + 1, by omega, by go_num, HN2, HB2, HA2⟩
              case measure => simp [intOf]; omega
          · have HV : Hid (nl D i = true) := hide (by rw [HE.out]; exact (if_pos trivial).trans (all_yes (fun j hj => HA.out j (by rw [HTL.out] at hj; omega))))
            go_wp2
            go_ret
            exact ⟨ret_bool HV.out.symm, HB.out⟩
      · go_enter Tryd.func80, Tryd.ntmps80
        go_wp2
        go_loopw [7] (fun mv wr => ∃ (m : Nat), m ≤ L.length ∧ mv = .int .i64 m ∧ Hid (NdAt wr w.heap.size 3 NM ad L.length cp OC) ∧ Hid (Below w.heap.size w wr) ∧ Hid (∀ j, j < m → TS[j]?.getD false = false)) (fun mv _ => L.length - (intOf mv).toNat)
        case atStart => exact ⟨0, Nat.zero_le _, rfl, hide (ndAt_new w _ _ _ _ _ _ _), hide (HST.out _), hide (fun j hj => by omega)⟩
        case round =>
          obtain ⟨m, hm, rfl, HN, HB, HA⟩ := hrel
          obtain ⟨a0, a1, a2, a3⟩ := ndAt_cells HN.out
          by_cases hlt : m < L.length
          · obtain ⟨b9, off9, rfl, hb9, hc9⟩ := HAT.out (fun h => by rw [h] at hlt; exact absurd hlt (Nat.not_lt_zero _))
            have k0 := (HB.out.cell (p := ⟨b9, off9 + m, none⟩) hb9).trans (hc9 m hlt)
            have hmi : (m : Int) < (L.length : Int) := by omega
            have hm0 : (0 : Int) ≤ (m : Int) := by omega
            have hkk := HKID.out (L[m]?.getD 0) (by rw [List.getElem?_eq_getElem hlt]; exact List.getElem_mem hlt)
            have HTM : Hid (TS[m]?.getD false = nl D (L[m]?.getD 0).toNat) := hide (by rw [← HTS.out, List.getElem?_map, List.getElem?_eq_getElem hlt]; rfl)
            obtain ⟨v, hv⟩ : ∃ v, L[m]?.getD 0 = v := ⟨_, rfl⟩
            rw [hv] at k0 hkk HTM
            obtain ⟨c, rfl⟩ : ∃ c : Nat, v = (c : Int) := ⟨v.toNat, by omega⟩
            rw [show ((c : Int)).toNat = c by omega] at HTM
            have CI := hide (IH.out c (by omega) (by omega) wr (Nat.lt_of_lt_of_le hbs HB.out.size) (pnRow_up (pnRow_go HR.out hbs HB.out) HB.out.size))
            rw [← HTM.out] at CI
            clear hc9 hv HTM
            cases ht : TS[m]?.getD false
            · have HA2 : Hid (∀ j, j < m + 1 → TS[j]?.getD false = false) := hide (fun j hj => by
                by_cases e : j = m
                · subst e; exact ht
                · exact HA.out j (by omega))
              rw [ht] at CI
              clear ht
              go_wp2_with (first | (go_at_call 80; refine CI.out.mono ?_; rintro e w2 ⟨rfl, hb2⟩; have HB2 := hide (HB.out.trans (hb2.mono HB.out.size)); have HN2 := hide (ndAt_go HN.out hb2); clear hb2))
              go_roundw
              case rel => exact ⟨m + 1, by omega, by go_num, HN2, HB2, HA2⟩
              case measure => simp [intOf]; omega
            · have HV : Hid (nl D i = true) := hide (by rw [HE.out, if_neg (by decide)]; exact (if_pos trivial).trans (any_yes (by rw [HTL.out]; exact hlt) ht))
              rw [ht] at CI
              clear ht
              go_wp2_with (first | (go_at_call 80; refine CI.out.mono ?_; rintro e w2 ⟨rfl, hb2⟩; have HB2 := hide (HB.out.trans (hb2.mono HB.out.size)); clear hb2))
              go_ret
              exact ⟨ret_bool HV.out.symm, HB2.out⟩
          · have HV : Hid (nl D i = false) := hide (by rw [HE.out, if_neg (by decide)]; exact (if_pos trivial).trans (any_no (fun j hj => HA.out j (by rw [HTL.out] at hj; omega))))
            go_wp2
            go_ret
            exact ⟨ret_bool HV.out.symm, HB.out⟩
      · go_enter Tryd.func80, Tryd.ntmps80
        go_wp2
        go_ret
        exact ⟨ret_bool (by rw [HE.out]; rfl), HST.out _⟩
end Go.Proofs.YtfohfljdgmlibaaDoor

/-
  Plain facts on the positions of a model, of no program's run: where rows of a node begin and end, what may follow what.
-/
namespace Go.Proofs.YtfohfljdgmlibaaDoor
set_option linter.unusedVariables false
set_option linter.unusedSimpArgs false
/-- What is told of kids in a row, up to the first that a row does not pass by. -/
def seqE (g : Int → List Int) (nul : Int → Bool) : List Int → List Int
  | [] => []
  | k :: ks => g k ++ (if nul k = true then seqE g nul ks else [])
theorem seqE_congr {g h : Int → List Int} {nul : Int → Bool} : ∀ {L : List Int}, (∀ k ∈ L, g k = h k) → seqE g nul L = seqE h nul L
  | [], _ => rfl
  | k :: ks, hk => by
    rw [seqE, seqE, hk k (List.mem_cons_self ..), seqE_congr (L := ks) (fun j hj => hk j (List.mem_cons_of_mem _ hj))]
theorem mem_seqE {g : Int → List Int} {nul : Int → Bool} {x : Int} : ∀ {L : List Int}, x ∈ seqE g nul L ↔ ∃ L1 k L2, L = L1 ++ k :: L2 ∧ (∀ j ∈ L1, nul j = true) ∧ x ∈ g k
  | [] => by
    constructor
    · intro h; exact absurd h (List.not_mem_nil)
    · rintro ⟨L1, k, L2, h, -⟩; simp at h
  | k :: ks => by
    rw [seqE, List.mem_append]
    constructor
    · rintro (h | h)
      · exact ⟨[], k, ks, rfl, fun j hj => absurd hj (List.not_mem_nil), h⟩
      · by_cases hn : nul k = true
        · rw [if_pos hn] at h
          obtain ⟨L1, j, L2, e, h1, h2⟩ := mem_seqE.1 h
          refine ⟨k :: L1, j, L2, by rw [e]; rfl, fun i hi => ?_, h2⟩
          rcases List.mem_cons.1 hi with rfl | hi
          · exact hn
          · exact h1 i hi
        · rw [if_neg hn] at h; exact absurd h (List.not_mem_nil)
    · rintro ⟨L1, j, L2, e, h1, h2⟩
      match L1, e, h1 with
      | [], e, h1 =>
        simp only [List.nil_append, List.cons.injEq] at e
        exact .inl (by rw [e.1]; exact h2)
      | i :: L1, e, h1 =>
        simp only [List.cons_append, List.cons.injEq] at e
        obtain ⟨rfl, rfl⟩ := e
        rw [if_pos (h1 k (List.mem_cons_self ..))]
        exact .inr (mem_seqE.2 ⟨L1, j, L2, rfl, fun i hi => h1 i (List.mem_cons_of_mem _ hi), h2⟩)
theorem seqE_snoc {g : Int → List Int} {nul : Int → Bool} (k : Int) : ∀ (L : List Int), seqE g nul (L ++ [k]) = seqE g nul L ++ (if L.all nul = true then g k else [])
  | [] => by simp [seqE]
  | j :: L => by
    rw [List.cons_append, seqE, seqE, seqE_snoc k L, List.all_cons]
    cases hn : nul j with
    | true => simp
    | false => simp
theorem seqE_len {g : Int → List Int} {nul : Int → Bool} : ∀ (L : List Int), (seqE g nul L).length ≤ (L.map g).flatten.length
  | [] => Nat.le_refl _
  | k :: ks => by
    have := seqE_len (g := g) (nul := nul) ks
    rw [seqE, List.map_cons, List.flatten_cons, List.length_append, List.length_append]
    split
    · omega
    · simp
def ordL (rev : Bool) (L : List Int) : List Int := if rev = true then L.reverse else L
theorem mem_ordL {rev : Bool} {L : List Int} {k : Int} : k ∈ ordL rev L ↔ k ∈ L := by unfold ordL; split <;> simp
theorem ordL_len (rev : Bool) (L : List Int) : (ordL rev L).length = L.length := by unfold ordL; split <;> simp
def bdE (k : Int) (i : Nat) (nul : Int → Bool) (g : Int → List Int) (L : List Int) : List Int := if k = 2 ∨ k = 3 then seqE g (fun j => decide (k ≠ 2) || nul j) L else [(i : Int)]
def edF (D : Pn) (rev : Bool) : Nat → Nat → List Int
  | 0, _ => []
  | f + 1, i => bdE (D.K i) i (fun k => nl D k.toNat) (fun k => edF D rev f k.toNat) (ordL rev (D.KL i))
theorem bdE_congr {k : Int} {i : Nat} {nul : Int → Bool} {g h : Int → List Int} {L : List Int} (hk : ∀ k ∈ L, g k = h k) : bdE k i nul g L = bdE k i nul h L := by
  unfold bdE
  split
  · exact seqE_congr hk
  · rfl
theorem edF_more {D : Pn} {rev : Bool} : ∀ (f g i : Nat), Lo D i → i < f → i < g → edF D rev f i = edF D rev g i
  | 0, g, i, hl, hf, hg => by omega
  | f + 1, 0, i, hl, hf, hg => by omega
  | f + 1, g + 1, i, hl, hf, hg => bdE_congr (fun k hk => by
      have := hl i (Nat.le_refl _) k (mem_ordL.1 hk)
      exact edF_more f g k.toNat (lo_less hl (by omega)) (by omega) (by omega))
/-- The positions at which a row of a node begins (or, turned round, ends). -/
def ed (D : Pn) (rev : Bool) (i : Nat) : List Int := edF D rev (i + 1) i
theorem ed_eq {D : Pn} {rev : Bool} {i : Nat} (hl : Lo D i) : ed D rev i = bdE (D.K i) i (fun k => nl D k.toNat) (fun k => ed D rev k.toNat) (ordL rev (D.KL i)) :=
  bdE_congr (fun k hk => by
    have := hl i (Nat.le_refl _) k (mem_ordL.1 hk)
    exact edF_more i (k.toNat + 1) k.toNat (lo_less hl (by omega)) (by omega) (by omega))
theorem ed_range {D : Pn} {rev : Bool} : ∀ (m i : Nat), i < m → Lo D i → ∀ x ∈ ed D rev i, 0 ≤ x ∧ x ≤ (i : Int)
  | 0, i, hm, _ => by omega
  | m + 1, i, hm, hl => by
    intro x hx
    rw [ed_eq hl] at hx
    unfold bdE at hx
    split at hx
    · obtain ⟨L1, k, L2, e, -, hx⟩ := mem_seqE.1 hx
      have hk := hl i (Nat.le_refl _) k (mem_ordL.1 (by rw [e]; simp))
      have := ed_range m k.toNat (by omega) (lo_less hl (by omega)) x hx
      omega
    · simp at hx; omega
theorem flat_rev (g : Int → List Int) : ∀ (L : List Int), (L.reverse.map g).flatten.length = (L.map g).flatten.length
  | [] => rfl
  | r :: t => by rw [List.reverse_cons, List.map_append, List.flatten_append, List.length_append, flat_rev g t, List.map_cons, List.flatten_cons, List.length_append]; simp; omega
theorem fd_ed {D : Pn} {rev : Bool} : ∀ (ks : List Int) (a f : Nat), (∀ j c, j < a → tr D j = some c → (ed D rev j).length ≤ j + 1 - c) → fd (tr D) ks a = some f → (ks.map fun k => ed D rev k.toNat).flatten.length ≤ a - f ∧ f ≤ a
  | [], a, f, ih, h => by
    simp [fd] at h
    subst h
    exact ⟨Nat.zero_le _, Nat.le_refl _⟩
  | k :: ks, a, f, ih, h => by
    by_cases hc : 0 < a ∧ k = (a : Int) - 1
    · cases hg : tr D (a - 1) with
      | none => rw [fd_none hc hg] at h; cases h
      | some c =>
        have hca := tr_le hg
        rw [fd_yes hc hg] at h
        obtain ⟨h1, h2⟩ := fd_ed ks c f (fun j d hj => ih j d (by omega)) h
        have h3 := ih (a - 1) c (by omega) hg
        rw [List.map_cons, List.flatten_cons, List.length_append, show k.toNat = a - 1 by omega]
        exact ⟨by omega, by omega⟩
    · rw [fd_no hc] at h; cases h
theorem ed_len {D : Pn} {rev : Bool} (hlo : ∀ j, j < D.n → ∀ k, k ∈ D.KL j → 0 ≤ k ∧ k < (j : Int)) : ∀ (m i c : Nat), i < m → i < D.n → tr D i = some c → (ed D rev i).length ≤ i + 1 - c ∧ ((D.KL i).map fun k => ed D rev k.toNat).flatten.length ≤ i
  | 0, i, c, hm, hi, h => by omega
  | m + 1, i, c, hm, hi, h => by
    have hc := tr_le h
    have ht := h
    rw [tr_eq] at ht
    obtain ⟨h2, h3⟩ := fd_ed (rev := rev) _ i c (fun j d hj hd => (ed_len hlo m j d (by omega) (by omega) hd).1) ht
    rw [flat_rev] at h2
    refine ⟨?_, by omega⟩
    rw [ed_eq (fun j hj => hlo j (by omega))]
    unfold bdE
    split
    · show (seqE (fun k => ed D rev k.toNat) (fun j => decide (D.K i ≠ 2) || nl D j.toNat) (ordL rev (D.KL i))).length ≤ _
      have h4 := seqE_len (g := fun k => ed D rev k.toNat) (nul := fun j => decide (D.K i ≠ 2) || (nl D j.toNat)) (ordL rev (D.KL i))
      have h5 : ((ordL rev (D.KL i)).map fun k => ed D rev k.toNat).flatten.length = ((D.KL i).map fun k => ed D rev k.toNat).flatten.length := by
        unfold ordL
        split
        · exact flat_rev _ _
        · rfl
      omega
    · simp; omega
/-- What a node itself lets follow: q behind p. -/
def OwP (D : Pn) (i : Nat) (p q : Int) : Prop :=
  (2 ≤ D.OC i ∧ p ∈ ed D true i ∧ q ∈ ed D false i) ∨ (D.K i = 2 ∧ ∃ L1 a L2 b L3, D.KL i = L1 ++ a :: (L2 ++ b :: L3) ∧ (∀ j ∈ L2, nl D j.toNat = true) ∧ p ∈ ed D true a.toNat ∧ q ∈ ed D false b.toNat)
/-- q may stand right behind p in rows of a node. -/
def lkF (D : Pn) (p q : Int) : Nat → Nat → Prop
  | 0, _ => False
  | f + 1, i => OwP D i p q ∨ ∃ k ∈ D.KL i, lkF D p q f k.toNat
theorem lkF_more {D : Pn} {p q : Int} : ∀ (f g i : Nat), Lo D i → i < f → i < g → (lkF D p q f i ↔ lkF D p q g i)
  | 0, g, i, hl, hf, hg => by omega
  | f + 1, 0, i, hl, hf, hg => by omega
  | f + 1, g + 1, i, hl, hf, hg => by
    have key : ∀ k, k ∈ D.KL i → (lkF D p q f k.toNat ↔ lkF D p q g k.toNat) := fun k hk => by
      have := hl i (Nat.le_refl _) k hk
      exact lkF_more f g k.toNat (lo_less hl (by omega)) (by omega) (by omega)
    rw [lkF, lkF]
    constructor
    · rintro (h | ⟨k, hk, h⟩)
      · exact .inl h
      · exact .inr ⟨k, hk, (key k hk).1 h⟩
    · rintro (h | ⟨k, hk, h⟩)
      · exact .inl h
      · exact .inr ⟨k, hk, (key k hk).2 h⟩
def lk (D : Pn) (i : Nat) (p q : Int) : Prop := lkF D p q (i + 1) i
theorem lk_iff {D : Pn} {i : Nat} {p q : Int} (hl : Lo D i) : lk D i p q ↔ OwP D i p q ∨ ∃ k ∈ D.KL i, lk D k.toNat p q := by
  have key : ∀ k, k ∈ D.KL i → (lkF D p q i k.toNat ↔ lk D k.toNat p q) := fun k hk => by
    have := hl i (Nat.le_refl _) k hk
    exact lkF_more i (k.toNat + 1) k.toNat (lo_less hl (by omega)) (by omega) (by omega)
  unfold lk
  rw [lkF]
  constructor
  · rintro (h | ⟨k, hk, h⟩)
    · exact .inl h
    · exact .inr ⟨k, hk, (key k hk).1 h⟩
  · rintro (h | ⟨k, hk, h⟩)
    · exact .inl h
    · exact .inr ⟨k, hk, (key k hk).2 h⟩
theorem lk_node {D : Pn} {p q : Int} : ∀ (m i : Nat), i < m → Lo D i → lk D i p q → ∃ j, j ≤ i ∧ OwP D j p q
  | 0, i, hm, _, _ => by omega
  | m + 1, i, hm, hl, h => by
    rcases (lk_iff hl).1 h with h | ⟨k, hk, h⟩
    · exact ⟨i, Nat.le_refl _, h⟩
    · have hk2 := hl i (Nat.le_refl _) k hk
      obtain ⟨j, hj, h2⟩ := lk_node m k.toNat (by omega) (lo_less hl (by omega)) h
      exact ⟨j, by omega, h2⟩
/-- Every node of a tree is reached from its root. -/
theorem fd_lk {D : Pn} {p q : Int} : ∀ (ks : List Int) (a f : Nat), (∀ j c, j < a → tr D j = some c → ∀ i, c ≤ i → i ≤ j → OwP D i p q → lk D j p q) → fd (tr D) ks a = some f → ∀ i, f ≤ i → i < a → OwP D i p q → ∃ k ∈ ks, lk D k.toNat p q
  | [], a, f, ih, h, i, h1, h2, h3 => by
    simp [fd] at h
    omega
  | k :: ks, a, f, ih, h, i, h1, h2, h3 => by
    by_cases hc : 0 < a ∧ k = (a : Int) - 1
    · cases hg : tr D (a - 1) with
      | none => rw [fd_none hc hg] at h; cases h
      | some c =>
        have hca := tr_le hg
        rw [fd_yes hc hg] at h
        by_cases hi : c ≤ i
        · exact ⟨k, List.mem_cons_self .., by rw [show k.toNat = a - 1 by omega]; exact ih (a - 1) c (by omega) hg i hi (by omega) h3⟩
        · obtain ⟨k2, hk2, h4⟩ := fd_lk ks c f (fun j d hj => ih j d (by omega)) h i h1 (by omega) h3
          exact ⟨k2, List.mem_cons_of_mem _ hk2, h4⟩
    · rw [fd_no hc] at h; cases h
theorem tr_lk {D : Pn} {p q : Int} : ∀ (m r c : Nat), r < m → Lo D r → tr D r = some c → ∀ i, c ≤ i → i ≤ r → OwP D i p q → lk D r p q
  | 0, r, c, hm, hl, h => by omega
  | m + 1, r, c, hm, hl, h => by
    intro i h1 h2 h3
    rw [lk_iff hl]
    by_cases e : i = r
    · subst e; exact .inl h3
    · have ht := h
      rw [tr_eq] at ht
      obtain ⟨k, hk, h4⟩ := fd_lk _ r c (fun j d hj hd => tr_lk m j d (by omega) (lo_less hl (by omega)) hd) ht i h1 (by omega) h3
      exact .inr ⟨k, List.mem_reverse.1 hk, h4⟩
/-- A row's links, as the program tells them: each kid behind what ends ahead of it. -/
theorem ow_prog {L : List Int} {nul : Int → Bool} {g h : Int → List Int} {p q : Int} : (∃ L1 a L2 b L3, L = L1 ++ a :: (L2 ++ b :: L3) ∧ (∀ j ∈ L2, nul j = true) ∧ p ∈ g a ∧ q ∈ h b) ↔ ∃ M b L3, L = M ++ b :: L3 ∧ p ∈ seqE g nul M.reverse ∧ q ∈ h b := by
  constructor
  · rintro ⟨L1, a, L2, b, L3, e, h1, h2, h3⟩
    refine ⟨L1 ++ a :: L2, b, L3, by rw [e]; simp, mem_seqE.2 ⟨L2.reverse, a, L1.reverse, by simp, fun j hj => h1 j (List.mem_reverse.1 hj), h2⟩, h3⟩
  · rintro ⟨M, b, L3, e, h1, h2⟩
    obtain ⟨R1, a, R2, e2, h3, h4⟩ := mem_seqE.1 h1
    have e3 : M = R2.reverse ++ a :: R1.reverse := by
      have := congrArg List.reverse e2
      rw [List.reverse_reverse] at this
      rw [this]
      simp
    exact ⟨R2.reverse, a, R1.reverse, b, L3, by rw [e, e3]; simp, fun j hj => h3 j (List.mem_reverse.1 hj), h4, h2⟩
/-- and as the specification tells them: what may begin behind a kid. -/
theorem ow_spec {L : List Int} {nul : Int → Bool} {g h : Int → List Int} {p q : Int} : (∃ L1 a L2 b L3, L = L1 ++ a :: (L2 ++ b :: L3) ∧ (∀ j ∈ L2, nul j = true) ∧ p ∈ g a ∧ q ∈ h b) ↔ ∃ L1 a R, L = L1 ++ a :: R ∧ p ∈ g a ∧ q ∈ seqE h nul R := by
  constructor
  · rintro ⟨L1, a, L2, b, L3, e, h1, h2, h3⟩
    exact ⟨L1, a, L2 ++ b :: L3, e, h2, mem_seqE.2 ⟨L2, b, L3, rfl, h1, h3⟩⟩
  · rintro ⟨L1, a, R, e, h1, h2⟩
    obtain ⟨L2, b, L3, e2, h3, h4⟩ := mem_seqE.1 h2
    exact ⟨L1, a, L2, b, L3, by rw [e, e2], h3, h1, h4⟩
/-- A set is told by its bits. -/
def BitS (x : Nat) (S : List Int) : Prop := x < 1099511627776 ∧ ∀ q : Nat, x.testBit q = true ↔ (q : Int) ∈ S
theorem bitS_nil : BitS 0 [] := ⟨by decide, fun q => by simp⟩
theorem or_lt40 {x y : Nat} (hx : x < 1099511627776) (hy : y < 1099511627776) : x ||| y < 1099511627776 := Nat.or_lt_two_pow (n := 40) hx hy
theorem bitS_app {x y : Nat} {S T : List Int} (h1 : BitS x S) (h2 : BitS y T) : BitS (x ||| y) (S ++ T) :=
  ⟨or_lt40 h1.1 h2.1, fun q => by rw [Nat.testBit_or, Bool.or_eq_true, h1.2 q, h2.2 q, List.mem_append]⟩
theorem bitS_congr {x : Nat} {S T : List Int} (h : BitS x S) (e : ∀ q : Nat, (q : Int) ∈ S ↔ (q : Int) ∈ T) : BitS x T := ⟨h.1, fun q => (h.2 q).trans (e q)⟩
theorem bitS_one {n : Nat} (hn : n < 40) : BitS (2 ^ n) [(n : Int)] := ⟨Nat.pow_lt_pow_right (a := 2) (n := 40) (by decide) hn, fun q => by
  rw [Nat.testBit_two_pow, decide_eq_true_eq]
  simp
  omega⟩
end Go.Proofs.YtfohfljdgmlibaaDoor
