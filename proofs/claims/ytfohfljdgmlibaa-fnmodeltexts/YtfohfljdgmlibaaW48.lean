/-
  Contracts: the laws' marks on a row of nodes of the call's own, node by node, and that they stand.
-/
import Derived.Test.YtfohfljdgmlibaaW47
import Derived.Deep.DeepCutAuto
namespace Go.Proofs.Ytfohfljdgmlibaa
open Go.RowKit Go.Joins
set_option linter.unusedVariables false
set_option linter.unusedSimpArgs false
theorem mark_anyK (kad : Option Addr) (len kc : Nat) (L : List Int) (k0 : Int) (w : World) (hL : L.length = len) (hl : len ≤ 100) (h0 : 1 ≤ k0) (h1 : k0 ≤ 1000000) (ho : w.ownsRow 0 2 1 (.slice kad len kc) len (L.map (Value.int .i64))) :
    Calls Try.prog 36 #[.slice kad len kc, .int .i64 k0] w fun e w' => e = .returned (.int .i64 (k0 + len)) ∧ w'.ownsRow 0 2 1 (.slice kad len kc) len ((upFrom k0 len).map (Value.int .i64)) ∧ Kp (fun j => (Value.slice kad len kc).ownBlock = some j) w w' := by
  rcases Nat.eq_zero_or_pos len with e0 | e0
  · subst e0
    have : L = [] := List.length_eq_zero_iff.1 hL
    subst this
    refine (mark_none kad kc k0 w).mono ?_
    rintro e w' ⟨rfl, rfl⟩
    exact ⟨by simp, ho, Kp.refl _ _⟩
  · rcases ho.2 with ⟨-, hz⟩ | ⟨g, cap, cur, hv, hB, -⟩
    · omega
    · simp only [Value.slice.injEq] at hv
      obtain ⟨rfl, -, rfl⟩ := hv
      refine (mark_intsK 0 g len kc L k0 w h0 h1 hL (by omega) (Nat.zero_le _) ho).mono ?_
      rintro e w' ⟨rfl, ho', hb, hoth⟩
      exact ⟨rfl, ho', ⟨hb.os, hb.tape, hb.output, hb.size, fun j hj hne => hoth j (fun e => hne (by rw [e]; rfl))⟩⟩
theorem po_g {B : Nat} {S : Nat → Prop} {w : World} {ad : Option Addr} {m c : Nat} {D : Pn} (h : PO B S w ad m c D) (hm : 0 < m) : ∃ g, ad = some ⟨g, 0, none⟩ ∧ B ≤ g ∧ g < w.heap.size := by
  obtain ⟨xs, h1, -⟩ := h
  rcases h1.2 with ⟨-, hz⟩ | ⟨g, cap, cur, hv, hB, hh, -⟩
  · omega
  · simp only [Value.slice.injEq] at hv
    exact ⟨g, hv.1, hB, (Array.getElem?_eq_some_iff.1 hh).1⟩
theorem po_below {B : Nat} {S : Nat → Prop} {w w' : World} {ad : Option Addr} {m c : Nat} {D : Pn} (h : PO B S w ad m c D) (hb : Below w.heap.size w w') : PO B S w' ad m c D := po_kp (T := fun _ => False) h ⟨hb.os, hb.tape, hb.output, hb.size, fun k hk _ => hb.block k hk⟩ (fun _ _ x => x) (fun _ _ _ _ _ _ _ _ _ x => x)
set_option maxRecDepth 100000 in
set_option maxHeartbeats 8000000 in
theorem l_markPO (B : Nat) (ad : Option Addr) (m c : Nat) (D : Pn) (w : World) (hD : D.n = m) (hm : m ≤ 40) (hB : B ≤ w.heap.size) (hkl : ∀ j, j < m → (D.KL j).length ≤ 100) (hp : PO B (fun j => B ≤ j) w ad m c D) :
    Calls Try.prog 16 #[.slice ad m c, .int .i64 1] w fun e w' => e = .returned (.int .i64 (ksN D m : Int)) ∧ PO B (fun j => B ≤ j) w' ad m c (mkI D m) ∧ Below B w w' := by
  have HD := hide hD
  have HK := hide hkl
  have HP0 : Hid (PO B (fun j => B ≤ j) w ad m c (mkI D 0)) := hide (po_congr hp rfl (fun j _ => rfl) (fun j _ => rfl) (fun j _ => rfl) (fun j _ => rfl))
  clear hp hkl hD
  go_enter Try.func16, Try.ntmps16
  go_wp2
  go_loopw [1, 5] (fun kv iv wr => ∃ i : Nat, i ≤ m ∧ iv = .int .i64 i ∧ kv = .int .i64 (ksN D i : Int) ∧ Hid (PO B (fun j => B ≤ j) wr ad m c (mkI D i)) ∧ Hid (Below B w wr)) (fun _ iv _ => m - (intOf iv).toNat)
  case atStart => exact ⟨0, Nat.zero_le _, rfl, rfl, HP0, hide (Below.refl _ _)⟩
  case round =>
    clear HP0
    obtain ⟨i, hi, rfl, rfl, HP, HB⟩ := hrel
    have hks := ks_le HK.out i hi
    have hkp := ks_pos D i
    by_cases hlt : i < m
    · have hmi : (i : Int) < (m : Int) := by omega
      obtain ⟨g, rfl, hBg, hgl⟩ := po_g HP.out (by omega)
      obtain ⟨⟨v0, hv0⟩, hf0⟩ := po_cell HP.out (i * 4) (by omega)
      obtain ⟨kad, kcp, hkc, hko, hkS, hkl⟩ := po_kids HP.out i hlt
      have HLN := hide (mkI_len D i i)
      have HKS : Hid (ksN D (i + 1) = ksN D i + 3 + (D.KL i).length) := hide rfl
      obtain ⟨K, hK⟩ : ∃ K, ksN D i = K := ⟨_, rfl⟩
      have HKK := hide hK
      rw [hK] at hks hkp HKS
      rw [hK]
      have H1 := hide (po_K HP.out i hlt (K : Int))
      have HB1 := hide (HB.out.setCell (p := ⟨g, i * 4, none⟩) hBg (.int .i64 (K : Int)))
      have hne9 : i * 4 ≠ i * 4 + 2 := by omega
      clear hK HP hko hkS
      go_wp2_with fail
      refine (l_mtV ((K : Int) + 1) _ (by omega) (by omega)).mono ?_
      rintro e w2 ⟨rfl, hb2⟩
      have H2 := hide (po_below H1.out hb2)
      have HB2 := hide (HB1.out.trans (hb2.mono (Nat.le_trans hB HB1.out.size)))
      have hms := mkT_size (K + 1)
      rw [show ((K + 1 : Nat) : Int) = (K : Int) + 1 by omega] at hms
      obtain ⟨T, hT⟩ : ∃ T, mkT ((K : Int) + 1) = T := ⟨_, rfl⟩
      have HTT := hide hT
      rw [hT] at hms
      rw [hT]
      have H3 := hide (po_N H2.out i hlt T (by omega))
      have HB3 := hide (HB2.out.setCell (p := ⟨g, i * 4 + 1, none⟩) hBg (.string T))
      obtain ⟨⟨v1, hv1⟩, hf1⟩ := po_cell H2.out (i * 4 + 1) (by omega)
      obtain ⟨kad3, kcp3, hkc3, hko3, hkS3, hkl3⟩ := po_kids H3.out i hlt
      have HKO3 := hide hko3
      have HKS3 := hide hkS3
      have HLN3 : Hid (((mkI D i).KL i).length = (D.KL i).length) := HLN
      clear hT hb2 hv0 hf0 hkc H1 hko3 hkS3
      go_wp2_with fail
      refine (mark_anyK kad3 _ kcp3 ((mkI D i).KL i) ((K : Int) + 1 + 1) _ rfl hkl3 (by omega) (by omega) HKO3.out).mono ?_
      rintro e w4 ⟨rfl, ho4, hk4⟩
      have H4 := hide (po_L H3.out i hlt (upFrom ((K : Int) + 1 + 1) ((mkI D i).KL i).length) (upFrom_len _ _) hkc3 hk4 ho4)
      have hBw3 : B ≤ (w2.setCell ⟨g, i * 4 + 1, none⟩ (.string T)).heap.size := Nat.le_trans hB HB3.out.size
      have HB4 := hide (HB3.out.trans (kp_below (B := B) hk4 hBw3 (fun j hj => HKS3.out j hj)))
      obtain ⟨⟨v3, hv3⟩, hf3⟩ := po_cell H4.out (i * 4 + 3) (by omega)
      obtain ⟨len, hlen⟩ : ∃ len, ((mkI D i).KL i).length = len := ⟨_, rfl⟩
      have HLE := hide hlen
      rw [hlen] at HLN3 hkl3 H4
      rw [hlen]
      have H5 := hide (po_O H4.out i hlt ((K : Int) + 1 + 1 + len))
      have HB5 := hide (HB4.out.setCell (p := ⟨g, i * 4 + 3, none⟩) hBg (.int .i64 ((K : Int) + 1 + 1 + len)))
      clear hlen ho4 hk4 hv1 hf1 hkc3 H3 H2 H4 hne9
      go_wp2
      go_roundw
      case rel =>
        refine ⟨i + 1, by omega, by go_num, ?_, hide (po_congr H5.out rfl (fun j hj => ?_) (fun j hj => ?_) (fun j hj => ?_) (fun j hj => ?_)), HB5⟩
        · rw [HKS.out, ← HLN3.out]; congr 1; omega
        · show (if j < i + 1 then (ksN D j : Int) else D.K j) = (if j = i then (K : Int) else if j < i then (ksN D j : Int) else D.K j)
          by_cases e : j = i
          · subst e; rw [if_pos (by omega), if_pos rfl, HKK.out]
          · rw [if_neg e]; by_cases e2 : j < i
            · rw [if_pos (by omega), if_pos e2]
            · rw [if_neg (by omega), if_neg e2]
        · show (if j < i + 1 then mkT ((ksN D j + 1 : Nat) : Int) else D.NM j) = (if j = i then T else if j < i then mkT ((ksN D j + 1 : Nat) : Int) else D.NM j)
          by_cases e : j = i
          · subst e; rw [if_pos (by omega), if_pos rfl, HKK.out, show ((K + 1 : Nat) : Int) = (K : Int) + 1 by omega, HTT.out]
          · rw [if_neg e]; by_cases e2 : j < i
            · rw [if_pos (by omega), if_pos e2]
            · rw [if_neg (by omega), if_neg e2]
        · show (if j < i + 1 then upFrom ((ksN D j + 2 : Nat) : Int) (D.KL j).length else D.KL j) = (if j = i then upFrom ((K : Int) + 1 + 1) len else if j < i then upFrom ((ksN D j + 2 : Nat) : Int) (D.KL j).length else D.KL j)
          by_cases e : j = i
          · subst e; rw [if_pos (by omega), if_pos rfl, HKK.out, show ((K + 2 : Nat) : Int) = (K : Int) + 1 + 1 by omega, ← HLN3.out]
          · rw [if_neg e]; by_cases e2 : j < i
            · rw [if_pos (by omega), if_pos e2]
            · rw [if_neg (by omega), if_neg e2]
        · show (if j < i + 1 then ((ksN D j + 2 + (D.KL j).length : Nat) : Int) else D.OC j) = (if j = i then (K : Int) + 1 + 1 + len else if j < i then ((ksN D j + 2 + (D.KL j).length : Nat) : Int) else D.OC j)
          by_cases e : j = i
          · subst e; rw [if_pos (by omega), if_pos rfl, HKK.out, ← HLN3.out]; omega
          · rw [if_neg e]; by_cases e2 : j < i
            · rw [if_pos (by omega), if_pos e2]
            · rw [if_neg (by omega), if_neg e2]
      case measure => simp [intOf]; omega
    · have hkn : i = m := by omega
      subst hkn
      have hmi : ¬ (i : Int) < (i : Int) := by omega
      go_wp2
      go_ret
      exact ⟨rfl, HP.out, HB.out⟩
/-- While a node is held against its marks. -/
def HsP (w w' : World) (g o : Nat) (k : Int) (nm : ByteArray) (ad : Option Addr) (len cp : Nat) (oc : Int) : Prop := Below w.heap.size w w' ∧ g < w.heap.size ∧ w'.cell? ⟨g, o, none⟩ = some (.int .i64 k) ∧ w'.cell? ⟨g, o + 1, none⟩ = some (.string nm) ∧ w'.cell? ⟨g, o + 2, none⟩ = some (.slice ad len cp) ∧ w'.cell? ⟨g, o + 3, none⟩ = some (.int .i64 oc)
theorem hsP_go {w w1 w2 : World} {g o : Nat} {k : Int} {nm : ByteArray} {ad : Option Addr} {len cp : Nat} {oc : Int} (x : HsP w w1 g o k nm ad len cp oc) (h : Below w1.heap.size w1 w2) : HsP w w2 g o k nm ad len cp oc := by
  obtain ⟨h1, h2, a0, a1, a2, a3⟩ := x
  have hg : g < w1.heap.size := Nat.lt_of_lt_of_le h2 h1.size
  exact ⟨h1.trans (h.mono h1.size), h2, (h.cell (p := ⟨g, o, none⟩) hg).trans a0, (h.cell (p := ⟨g, o + 1, none⟩) hg).trans a1, (h.cell (p := ⟨g, o + 2, none⟩) hg).trans a2, (h.cell (p := ⟨g, o + 3, none⟩) hg).trans a3⟩
theorem hsP_drew {w w1 : World} {g o : Nat} {k : Int} {nm : ByteArray} {ad : Option Addr} {len cp : Nat} {oc : Int} (x : HsP w w1 g o k nm ad len cp oc) (q : Nat) : HsP w (w1.drewN q) g o k nm ad len cp oc := hsP_go x ⟨rfl, rfl, rfl, Nat.le_refl _, fun _ _ => rfl⟩
theorem hsP_all {w w1 : World} {g o : Nat} {k : Int} {nm : ByteArray} {ad : Option Addr} {len cp : Nat} {oc : Int} (x : HsP w w1 g o k nm ad len cp oc) : HsP w w1 g o k nm ad len cp oc ∧ w1.cell? ⟨g, o + 1, none⟩ = some (.string nm) := ⟨x, x.2.2.2.1⟩
set_option maxRecDepth 100000 in
set_option maxHeartbeats 8000000 in
theorem l_heldPO (ad : Option Addr) (m c : Nat) (D : Pn) (w : World) (hD : D.n = m) (hm : m ≤ 40) (hkl : ∀ j, j < m → (D.KL j).length ≤ 100) (hr : PnAt w ad (mkI D m) w.heap.size) :
    Calls Try.prog 17 #[.slice ad m c, .int .i64 1] w fun e w' => e = .returned (.int .i64 (ksN D m : Int)) ∧ Below w.heap.size w w' := by
  have HD := hide hD
  have HK := hide hkl
  have HR := hide hr
  clear hr hkl hD
  go_enter Try.func17, Try.ntmps17
  go_wp2
  go_loopw [1, 5] (fun kv iv wr => ∃ i : Nat, i ≤ m ∧ iv = .int .i64 i ∧ kv = .int .i64 (ksN D i : Int) ∧ Hid (Below w.heap.size w wr)) (fun _ iv _ => m - (intOf iv).toNat)
  case atStart => exact ⟨0, Nat.zero_le _, rfl, rfl, hide (Below.refl _ _)⟩
  case round =>
    obtain ⟨i, hi, rfl, rfl, HB⟩ := hrel
    have hks := ks_le HK.out i hi
    have hkp := ks_pos D i
    by_cases hlt : i < m
    · have hmi : (i : Int) < (m : Int) := by omega
      have hi0 : (0 : Int) ≤ (i : Int) := by omega
      obtain ⟨b, off, rfl, hbs, hrow⟩ := HR.out (by show 0 < D.n; rw [HD.out]; omega)
      obtain ⟨kad, kcp, hcells, hkat, -⟩ := hrow i (by show i < D.n; rw [HD.out]; exact hlt)
      obtain ⟨c0, c1, c2, c3⟩ := pnCells_go hcells hbs HB.out
      have hkl9 := HK.out i hlt
      have HKS : Hid (ksN D (i + 1) = ksN D i + 3 + (D.KL i).length) := hide rfl
      have eK : (mkI D m).K i = (ksN D i : Int) := by show (if i < m then _ else _) = _; rw [if_pos hlt]
      have eN : (mkI D m).NM i = mkT ((ksN D i : Int) + 1) := by show (if i < m then _ else _) = _; rw [if_pos hlt, show ((ksN D i + 1 : Nat) : Int) = (ksN D i : Int) + 1 by omega]
      have eL : (mkI D m).KL i = upFrom ((ksN D i : Int) + 1 + 1) (D.KL i).length := by show (if i < m then _ else _) = _; rw [if_pos hlt, show ((ksN D i + 2 : Nat) : Int) = (ksN D i : Int) + 1 + 1 by omega]
      have eO : (mkI D m).OC i = (ksN D i : Int) + 1 + 1 + (D.KL i).length := by show (if i < m then _ else _) = _; rw [if_pos hlt]; omega
      rw [eK] at c0
      rw [eN] at c1
      rw [eL, upFrom_len] at c2
      rw [eO] at c3
      rw [eL] at hkat
      obtain ⟨K, hK⟩ : ∃ K, ksN D i = K := ⟨_, rfl⟩
      rw [hK] at hks hkp HKS c0 c1 c3 hkat
      rw [hK]
      obtain ⟨len, hlen⟩ : ∃ len, (D.KL i).length = len := ⟨_, rfl⟩
      rw [hlen] at c2 c3 hkat hkl9 HKS
      have CM := hide (fun (W : World) => l_mtV ((K : Int) + 1) W (by omega) (by omega))
      obtain ⟨T, hT⟩ : ∃ T, mkT ((K : Int) + 1) = T := ⟨_, rfl⟩
      rw [hT] at c1 CM
      have HKAT := hide hkat
      have XX : Hid (HsP w wr b (off + i * 4) (K : Int) T kad len kcp ((K : Int) + 1 + 1 + len)) := hide ⟨HB.out, hbs, c0, c1, c2, c3⟩
      clear hcells hrow hkat eK eN eL eO hK hlen hT c1 c2 c3
      go_upto_region 7 with fail
      go_cut [28] (fun v wx => v = .bool false ∧ Hid (HsP w wx b (off + i * 4) (K : Int) T kad len kcp ((K : Int) + 1 + 1 + len)))
      case first =>
        go_region_held3 (fun w' => HsP w w' b (off + i * 4) (K : Int) T kad len kcp ((K : Int) + 1 + 1 + len) ∧ w'.cell? ⟨b, off + i * 4 + 1, none⟩ = some (.string T)) (first | assumption | exact hsP_all (hsP_drew XX.out 1) | exact hsP_all XX.out) (first | (go_at_call 35; refine (CM.out _).mono ?_; rintro e w2 ⟨rfl, hb2⟩; have X2 := hide (hsP_go (hsP_drew XX.out 1) hb2); replace XX := X2; clear X2 hb2))
        all_goals
          go_wp2
          go_meet
          exact ⟨by first | rfl | simp, XX⟩
      case rest =>
        obtain ⟨rfl, X2⟩ := hcut
        obtain ⟨hB2, -, d0, d1, d2, d3⟩ := X2.out
        have HK2 := hide (rwAt_up (rwAt_go HKAT.out hB2) hB2.size)
        have CH := hide (held_intsK kad len kcp ((K : Int) + 1 + 1) wc (by omega) (by omega) (by omega) HK2.out)
        clear XX hB2 c0 d0 d1
        go_wp2_with fail
        refine CH.out.mono ?_
        rintro e w3 ⟨rfl, q3, hw3⟩
        have X3 : Hid (HsP w w3 b (off + i * 4) (K : Int) T kad len kcp ((K : Int) + 1 + 1 + len)) := hide (by rw [hw3]; exact hsP_drew X2.out q3)
        obtain ⟨hB3, -, -, -, -, e3⟩ := X3.out
        have HB3 := hide hB3
        have hpos : ¬ ((K : Int) + 1 + 1 + len) < 0 := by omega
        clear hw3 hB3 d2 d3 X2 X3
        go_wp2
        go_roundw
        case rel => exact ⟨i + 1, by omega, by go_num, by rw [HKS.out]; congr 1; omega, HB3⟩
        case measure => simp [intOf]; omega
    · have hkn : i = m := by omega
      subst hkn
      have hmi : ¬ (i : Int) < (i : Int) := by omega
      go_wp2
      go_ret
      exact ⟨rfl, HB.out⟩
end Go.Proofs.Ytfohfljdgmlibaa
