/-
  Contract: the specification's turning of a node and all below it.
-/
import Derived.Test.YtfohfljdgmlibaaW28
import Derived.Test.YtfohfljdgmlibaaW26
import Derived.Deep.DeepCutAuto
import Derived.Deep.CutBlock
import Derived.Test.YtfohfljdgmlibaaW13
namespace Go.Proofs.Ytfohfljdgmlibaa
open Go.RowKit Go.Joins
set_option linter.unusedVariables false
set_option linter.unusedSimpArgs false
theorem infoPN9 : (Try.prog.info? 46).map (fun i => (i.zero, i.size, i.bytes)) = some (some (.agg #[.int .i64 0, .string ⟨#[]⟩, .slice none 0 0, .int .i64 0]), 4, 56) := by kernel_rfl
/-- The names of a right model's nodes are short. -/
theorem nd_short {k : Int} {nm : ByteArray} {n : Nat} {oc : Int} (h : ndB k nm n oc = true) : nm.size ≤ 40 := by
  have ho : 0 ≤ oc ∧ oc ≤ 3 := by
    unfold ndB at h
    rw [Bool.and_eq_true] at h
    exact of_decide_eq_true h.1
  have he : ∀ s : ByteArray, s.toList.isEmpty = true → s.size ≤ 40 := fun s hs => by
    rw [ByteArray.toList_eq, List.isEmpty_iff] at hs
    have := congrArg List.length hs
    simp at this
    have h2 : s.size = 0 := by simpa using this
    omega
  rcases nd_kinds h with e | e | e | e
  · rw [nd_1 ho e, Bool.and_eq_true] at h
    have := h.1
    unfold nameB at this
    simp only [Bool.and_eq_true, decide_eq_true_eq] at this
    exact this.2.1
  · rw [nd_2 ho e] at h; exact he nm h
  · rw [nd_3 ho e, Bool.and_eq_true] at h; exact he nm h.1
  · rw [nd_4 ho e, Bool.and_eq_true] at h; exact he nm h.1
theorem rn_tn {D : Pn} {n : Nat} (h : RN D n) {i : Nat} (hi : i < n) (O : Pn) : (tn D i O).n ≤ O.n + (i + 1) ∧ O.n < (tn D i O).n := by
  obtain ⟨h1, h2, h3, h4, h5, -⟩ := h
  obtain ⟨c, hc⟩ := h5 i hi
  have hl : Lo D i := fun j hj k hk => h4 j (by omega) k hk
  have := tn_n (i + 1) i c (by omega) hl hc (fun j hj => h5 j (by omega)) O
  have := tr_le hc
  omega
theorem kdsT_at {D : Pn} {i t : Nat} (h : t < (D.KL i).length) : (kdsT D i)[t]?.getD 0 = (D.KL i)[if D.K i = 2 then (D.KL i).length - 1 - t else t]?.getD 0 := by
  unfold kdsT
  split
  · rw [List.getElem?_reverse h]
  · rfl
theorem kids_in {D : Pn} {n : Nat} (h : RN D n) {i t : Nat} (hi : i < n) (ht : t < (D.KL i).length) : 0 ≤ (kdsT D i)[t]?.getD 0 ∧ (kdsT D i)[t]?.getD 0 < (i : Int) := by
  have hm : (kdsT D i)[t]?.getD 0 ∈ kdsT D i := by
    rw [List.getElem?_eq_getElem (by rw [kdsT_len]; exact ht)]
    exact List.getElem_mem _
  exact h.2.2.2.1 i hi _ (kdsT_mem.1 hm)
/-- Not too many nodes come of the kids. -/
theorem fT_n {D : Pn} {n : Nat} (h : RN D n) {i : Nat} (hi : i < n) (O : Pn) : ∀ t, t ≤ (kdsT D i).length → O.n ≤ (fT D i O t).1.n ∧ (fT D i O t).1.n ≤ (tn D i O).n - 1 ∧ (t < (kdsT D i).length → (tn D ((kdsT D i)[t]?.getD 0).toNat (fT D i O t).1).n ≤ (tn D i O).n - 1) := by
  have hl : Lo D i := fun j hj k hk => h.2.2.2.1 j (by omega) k hk
  have hend : (fT D i O (kdsT D i).length).1.n = (tn D i O).n - 1 := by
    rw [tn_fT hl]
    show _ = (_ + 1) - 1
    omega
  have up : ∀ t, t < (kdsT D i).length → (fT D i O t).1.n < (fT D i O (t + 1)).1.n := fun t ht => by
    rw [fT_next ht]
    have hk := kids_in h hi (t := t) (by rw [← kdsT_len]; exact ht)
    exact (rn_tn h (by omega) _).2
  have down : ∀ d t, t + d = (kdsT D i).length → (fT D i O t).1.n + d ≤ (tn D i O).n - 1 := by
    intro d
    induction d with
    | zero => intro t ht; have : t = (kdsT D i).length := by omega
              subst this; omega
    | succ d ih => intro t ht; have h1 := up t (by omega); have h2 := ih (t + 1) (by omega); omega
  have low : ∀ t, t ≤ (kdsT D i).length → O.n ≤ (fT D i O t).1.n := by
    intro t
    induction t with
    | zero => intro _; exact Nat.le_refl _
    | succ t ih => intro ht; have h1 := up t (by omega); have h2 := ih (by omega); omega
  intro t ht
  refine ⟨low t ht, ?_, fun ht2 => ?_⟩
  · have := down ((kdsT D i).length - t) t (by omega); omega
  · have e : (tn D ((kdsT D i)[t]?.getD 0).toNat (fT D i O t).1).n = (fT D i O (t + 1)).1.n := by rw [fT_next ht2]
    rw [e]
    have := down ((kdsT D i).length - (t + 1)) (t + 1) (by omega); omega
set_option maxRecDepth 100000 in
set_option maxHeartbeats 8000000 in
theorem s_turnF (D : Pn) (n b0 off cap : Nat) (hRN : RN D n) (i : Nat) (hi : i < n) (B : Nat) (S0 : Nat → Prop) (oa : Option Addr) (om ocp : Nat) (O : Pn) (w : World) (hbs : b0 < B) (hr : PnRow w b0 off D B) (hB : B ≤ w.heap.size) (hO : PO B S0 w oa om ocp O) (hlim : (tn D i O).n ≤ 100)
    (hI : ∀ q, q < i → ∀ (S0 : Nat → Prop) (oa : Option Addr) (om ocp : Nat) (O : Pn) (w : World), PnRow w b0 off D B → B ≤ w.heap.size → PO B S0 w oa om ocp O → (tn D q O).n ≤ 100 →
      Calls Try.prog 39 #[.slice (some ⟨b0, off, none⟩) n cap, .int .i64 q, .slice oa om ocp] w fun r w' => ∃ ad c, r = .returned (.slice ad (tn D q O).n c) ∧ TrnA (fun _ => False) B (tn D q O) (.slice oa om ocp) S0 w w' ad (tn D q O).n c) :
    Calls Try.prog 39 #[.slice (some ⟨b0, off, none⟩) n cap, .int .i64 i, .slice oa om ocp] w fun r w' => ∃ ad c, r = .returned (.slice ad (tn D i O).n c) ∧ TrnA (fun _ => False) B (tn D i O) (.slice oa om ocp) S0 w w' ad (tn D i O).n c := by
  obtain ⟨i0, hi0, hz0, hz1, hz2⟩ := info_parts info64
  obtain ⟨i1, hi1, hy0, hy1, hy2⟩ := info_parts infoPN9
  have hOn : O.n = om := (po_at hO).1
  have hDn := hRN.1
  have hl : Lo D i := fun j hj k hk => hRN.2.2.2.1 j (by omega) k hk
  have HTN := hide (tn_fT hl O)
  have hnm : (D.NM i).size ≤ 40 := nd_short (hRN.2.2.1 i hi)
  have hkl : (D.KL i).length ≤ 40 := by
    obtain ⟨c, hc⟩ := hRN.2.2.2.2.1 i hi
    rw [tr_eq] at hc
    have := fd_klen _ i c (fun j c _ hc => tr_le hc) hc
    rw [List.length_reverse] at this
    have := hRN.2.1
    omega
  have hkT : (kdsT D i).length = (D.KL i).length := kdsT_len
  have HFN := hide (fun t (ht : t ≤ (D.KL i).length) => fT_n hRN hi O t (by rw [hkT]; exact ht))
  rw [hkT] at HTN HFN
  have HKI := hide (fun t (ht : t < (D.KL i).length) => kids_in hRN hi ht)
  have HKA := hide (fun t (ht : t < (D.KL i).length) => kdsT_at (D := D) (i := i) ht)
  have HNX := hide (fun t (ht : t < (D.KL i).length) => fT_next (D := D) (i := i) (O := O) (m := t) (by rw [hkT]; exact ht))
  have HFL := hide (fun t (ht : t ≤ (D.KL i).length) => fT_len (D := D) (i := i) (O := O) (m := t) (by rw [hkT]; exact ht))
  obtain ⟨kad, kcp, ⟨c0, c1, c2, c3⟩, hkat, -⟩ := hr i (by omega)
  have cw : PnCells w b0 (off + i * 4) D i kad kcp := ⟨c0, c1, c2, c3⟩
  have HI := hide hI
  have HR := hide hr
  have HKAT := hide hkat
  have HOB : Hid (∀ j, (Value.slice oa om ocp).ownBlock = some j → B ≤ j) := hide (fun j hj => by obtain ⟨xs, h1, -⟩ := hO; exact (h1.lt j hj).1)
  have H0 := hide (tns_kids0 (tns_new (Rp := fun _ => False) hO (fun j hj => hj) (fun j hj => hj.elim) (D.K i) (D.NM i) kad (D.KL i).length kcp (D.OC i)))
  have hin : (i : Int) < (n : Int) := by omega
  have hi00 : (0 : Int) ≤ (i : Int) := by omega
  have hkindsb := hide (rn_kinds hRN hi)
  have hn40 := hRN.2.1
  clear hr hI hO hkat hkT hl cw hRN
  go_enter Try.func39, Try.ntmps39
  go_upto_block 0 with fail
  have hsz1 : (w.alloc (.cells #[.int .i64 (D.K i), .string (D.NM i), .slice kad (D.KL i).length kcp, .int .i64 (D.OC i)] 46)).heap.size = w.heap.size + 1 := by simp
  rw [hsz1] at H0
  obtain ⟨wy, hwy⟩ : ∃ wy, (w.alloc (.cells #[.int .i64 (D.K i), .string (D.NM i), .slice kad (D.KL i).length kcp, .int .i64 (D.OC i)] 46)).alloc (.cells #[] 2) = wy := ⟨_, rfl⟩
  rw [hwy] at H0
  rw [hwy]
  clear hwy hsz1 c0 c1 c2 c3
  go_wp2_with fail
  go_loopw [2, 8, 9, 10] (fun v2 v8 v9 v10 wr => ∃ (ad : Option Addr) (c : Nat) (kd : Option Addr) (kc t : Nat), v2 = .slice ad (fT D i O t).1.n c ∧ v8 = .slice kd (fT D i O t).2.length kc ∧ v9 = .int .i64 t ∧ t ≤ (D.KL i).length ∧ Hid (TnS (fun _ => False) B w S0 (Value.slice oa om ocp).ownBlock wr ad (fT D i O t).1.n c (fT D i O t).1 (D.K i) (D.NM i) kad (D.KL i).length kcp (D.OC i) kd (fT D i O t).2 kc)) (fun _ _ v9 _ _ => (D.KL i).length - (intOf v9).toNat)
  case atStart => exact ⟨oa, ocp, _, _, 0, by rw [fT_zero, hOn], rfl, rfl, Nat.zero_le _, by rw [fT_zero]; show Hid (TnS _ _ _ _ _ _ _ O.n _ _ _ _ _ _ _ _ _ [] _); rw [hOn]; exact H0⟩
  case round =>
    clear H0
    obtain ⟨ad, c, kd, kc, t, rfl, rfl, rfl, ht, HS⟩ := hrel
    obtain ⟨x0, x1, x2, x3⟩ := xn_cells HS.out.nd
    have HBel := hide (kp_below (B := B) HS.out.kp hB (fun j hj => by
      rcases hj with e | e
      · exact e.elim
      · exact HOB.out j e))
    have hBw : B ≤ wr.heap.size := Nat.le_trans hB HS.out.kp.size
    obtain ⟨hf1, hf2, hf3⟩ := HFN.out t ht
    have HFL1 := hide (HFL.out t ht)
    have hfl : (fT D i O t).2.length ≤ 40 := by rw [HFL1.out]; omega
    by_cases hlt : t < (D.KL i).length
    · have hf4 := hf3 hlt
      have hti : (t : Int) < ((D.KL i).length : Int) := by omega
      have HNX1 := hide (HNX.out t hlt)
      obtain ⟨hz1', hz2'⟩ := HKI.out t hlt
      have hka := HKA.out t hlt
      obtain ⟨z, hz⟩ : ∃ z, (kdsT D i)[t]?.getD 0 = z := ⟨_, rfl⟩
      rw [hz] at hz1' hz2' hka hf4 HNX1
      obtain ⟨P1, hP1⟩ : ∃ P1, (fT D i O t).1 = P1 := ⟨_, rfl⟩
      obtain ⟨P2, hP2⟩ : ∃ P2, (fT D i O t).2 = P2 := ⟨_, rfl⟩
      rw [hP1] at hf1 hf2 hf4 HNX1 HS
      rw [hP2] at hfl HS HNX1
      rw [hP1, hP2]
      obtain ⟨q, rfl⟩ : ∃ q : Nat, z = q := ⟨z.toNat, by omega⟩
      rw [show (((q : Nat) : Int)).toNat = q by omega] at hf4 HNX1
      obtain ⟨kk, hkk⟩ : ∃ kk, (if D.K i = 2 then (D.KL i).length - 1 - t else t) = kk := ⟨_, rfl⟩
      rw [hkk] at hka
      have hkkl : kk < (D.KL i).length := by rw [← hkk]; split <;> omega
      have hne : D.KL i ≠ [] := fun e => by rw [e] at hlt; simp at hlt
      obtain ⟨b9, off9, hk9, hb9, hc9⟩ := HKAT.out hne
      subst hk9
      have ck := (HBel.out.cell (p := ⟨b9, off9 + kk, none⟩) hb9).trans (hc9 kk hkkl)
      rw [← hka] at ck
      have hkki : (kk : Int) < ((D.KL i).length : Int) := by omega
      have hkk0 : (0 : Int) ≤ (kk : Int) := by omega
      have HKK := hide hkk
      clear hka hz hP1 hP2 hc9 hf3 hkk hne
      go_upto_if 26 with fail
      go_cut [10] (fun v wx => v = .int .i64 (kk : Int) ∧ Hid (wx = wr))
      case first =>
        by_cases hK2 : D.K i = 2
        · have hK2b : (D.K i == 2) = true := by rw [hK2]; rfl
          have hke : (((D.KL i).length : Nat) : Int) - 1 - (t : Int) = (kk : Int) := by have := HKK.out; rw [if_pos hK2] at this; omega
          go_wp2
          go_meet
          exact ⟨by first | rfl | rw [hke], (by first | exact hide rfl | exact hide trivial)⟩
        · have hK2b : (D.K i == 2) = false := by simp [hK2]
          have hke : t = kk := by have := HKK.out; rw [if_neg hK2] at this; exact this
          go_wp2
          go_meet
          exact ⟨by first | rfl | rw [hke], (by first | exact hide rfl | exact hide trivial)⟩
      case rest =>
        obtain ⟨rfl, hwx⟩ := hcut
        have hwx' := hwx.out
        subst hwx'
        clear hwx
        go_wp2_with fail
        refine (HI.out q (by omega) _ ad P1.n c P1 _ (pnRow_go HR.out hbs HBel.out) hBw HS.out.po (by omega)).mono ?_
        rintro e w2 ⟨ad2, c2, rfl, hA⟩
        have HS2 := hide (tns_rec HS.out hA)
        clear hA HS
        obtain ⟨P3, hP3⟩ : ∃ P3, tn D q P1 = P3 := ⟨_, rfl⟩
        rw [hP3] at HS2 HNX1 hf4
        rw [hP3]
        clear hP3 x0 x1 x2 x3 ck
        go_wp2_with (at_builtin; refine wpList_append_lies _ (by rfl) (.tmp 41) (.tmp 45) 44 (by rfl) 0 2 i0 _ 1 8 Try.underlying44 hi0 hz0 hz1 hz2 rfl (by omega) (.slice kd P2.length kc) P2.length (P2.map (Value.int .i64)) (by rfl) (World.ownsRow.alloc HS2.out.kd _) ⟨w2.heap.size, 0, none⟩ 1 1 [.int .i64 ((P3.n : Int) - 1)] (by rfl) (by rfl) (World.news_of_block (cs := #[.int .i64 ((P3.n : Int) - 1)]) (t := 2) (fr := (0, 0)) (heap_alloc_new w2 _)) (by simp [Value.oneCell']) (by omega) (by unfold maxLen; omega) (by omega) (Nat.zero_le _) (w2.heap.size + 1) (by simp) ?_; intro gg cc8 w8 hown8 hgrow8 hat8 hlt8; have HS3 := hide (tns_kid HS2.out hown8 hgrow8 hat8); clear hown8 hgrow8 hat8)
        go_roundw
        case rel =>
          refine ⟨ad2, c2, some ⟨gg, 0, none⟩, cc8, t + 1, by rw [HNX1.out], by rw [HNX1.out]; simp, by go_num, by omega, ?_⟩
          rw [HNX1.out]
          exact HS3
        case measure => simp [intOf]; omega
    · have hti : ¬ (t : Int) < ((D.KL i).length : Int) := by omega
      have htl : t = (D.KL i).length := by omega
      subst htl
      obtain ⟨P1, hP1⟩ : ∃ P1, (fT D i O (D.KL i).length).1 = P1 := ⟨_, rfl⟩
      obtain ⟨P2, hP2⟩ : ∃ P2, (fT D i O (D.KL i).length).2 = P2 := ⟨_, rfl⟩
      rw [hP1] at hf1 hf2 HTN HS
      rw [hP2] at hfl HS HTN
      rw [hP1, hP2]
      obtain ⟨xs, hxo, hxs, hdj⟩ := HS.out.po
      have HXO := hide hxo
      have HXS := hide hxs
      have HDJ := hide hdj
      clear hP1 hP2 hf3 hxo hxs hdj
      go_wp2_with (at_builtin; refine wpList_append_lies _ (by rfl) (.tmp 47) (.tmp 56) 24 (by rfl) B 46 i1 _ 4 56 Try.underlying24 hi1 hy0 hy1 hy2 rfl (by omega) (.slice ad P1.n c) P1.n xs (by rfl) (World.ownsRow.alloc HXO.out _) ⟨wr.heap.size, 0, none⟩ 1 1 [.int .i64 (D.K i), .string (D.NM i), .slice kd P2.length kc, .int .i64 (D.OC i)] (by rfl) (by rfl) (World.news_of_block (cs := #[.int .i64 (D.K i), .string (D.NM i), .slice kd P2.length kc, .int .i64 (D.OC i)]) (t := 46) (fr := (0, 0)) (heap_alloc_new wr _)) (by simp [Value.oneCell']) (by omega) (by unfold maxLen; omega) (by omega) (by simp; omega) (wr.heap.size + 1) (by simp) ?_; intro gg cc8 w8 hown8 hgrow8 hat8 hlt8; have HS3 := hide (tns_push HS.out HXS.out HXO.out HDJ.out (by omega) (by omega) hown8 hgrow8 hat8); clear hown8 hgrow8 hat8)
      go_ret
      have hTn : (tn D i O).n = P1.n + 1 := by rw [HTN.out]; rfl
      obtain ⟨k1, k2, k3, k4⟩ := HS3.out
      refine ⟨some ⟨gg, 0, none⟩, cc8, by rw [hTn]; rfl, ?_, k2, ?_, fun j hj => hj.elim⟩
      · rw [hTn, HTN.out]; exact k1
      · intro j hj
        have e : gg = j := by simpa [Value.ownBlock] using hj
        subst e
        exact k3
theorem s_turn (D : Pn) (n b0 off cap : Nat) (hRN : RN D n) (B : Nat) (hbs : b0 < B) : ∀ (f i : Nat), i < f → i < n → ∀ (S0 : Nat → Prop) (oa : Option Addr) (om ocp : Nat) (O : Pn) (w : World), PnRow w b0 off D B → B ≤ w.heap.size → PO B S0 w oa om ocp O → (tn D i O).n ≤ 100 →
    Calls Try.prog 39 #[.slice (some ⟨b0, off, none⟩) n cap, .int .i64 i, .slice oa om ocp] w fun r w' => ∃ ad c, r = .returned (.slice ad (tn D i O).n c) ∧ TrnA (fun _ => False) B (tn D i O) (.slice oa om ocp) S0 w w' ad (tn D i O).n c
  | 0, i, hf, hi, S0, oa, om, ocp, O, w, hr, hB, hO, hlim => by omega
  | f + 1, i, hf, hi, S0, oa, om, ocp, O, w, hr, hB, hO, hlim => s_turnF D n b0 off cap hRN i hi B S0 oa om ocp O w hbs hr hB hO hlim (fun q hq => s_turn D n b0 off cap hRN B hbs f q (by omega) (by omega))
end Go.Proofs.Ytfohfljdgmlibaa
