/-
  Texts put together: PlK, BrR.
-/
import Derived.Test.YtdepgkpfibmbgaaGreatDoorF8
import Derived.Test.YtdepgkpfibmbgaaGreatDoorF37
/-
  Contract: which rows of keys are right, by the program.
-/
namespace Go.Proofs.YtdepgkpfibmbgaaGreatDoor
open Go.RowKit Go.Joins
set_option linter.unusedVariables false
set_option linter.unusedSimpArgs false
theorem infoPlan : (Tryz.prog.info? 59).map (fun i => (i.zero, i.size, i.bytes)) = some (some (.agg #[.string ⟨#[]⟩, .int .i64 0, .string ⟨#[]⟩, .string ⟨#[]⟩, .slice none 0 0, .string ⟨#[]⟩, .bool false, .slice none 0 0, .slice none 0 0, .int .i64 0]), 10, 160) := by kernel_rfl
theorem gTen_new (w : World) (x0 x1 x2 x3 x4 x5 x6 x7 x8 x9 : Value) (T : TypeId) (j : Nat) (u : Value) (hj : [x0, x1, x2, x3, x4, x5, x6, x7, x8, x9][j]? = some u) : (w.alloc (.cells #[x0, x1, x2, x3, x4, x5, x6, x7, x8, x9] T)).cell? ((⟨w.heap.size, 0, none⟩ : Addr).add j) = some u := by
  match j, hj with
  | 0, hj => simp at hj; subst hj; simp [Addr.add]
  | 1, hj => simp at hj; subst hj; simp [Addr.add]
  | 2, hj => simp at hj; subst hj; simp [Addr.add]
  | 3, hj => simp at hj; subst hj; simp [Addr.add]
  | 4, hj => simp at hj; subst hj; simp [Addr.add]
  | 5, hj => simp at hj; subst hj; simp [Addr.add]
  | 6, hj => simp at hj; subst hj; simp [Addr.add]
  | 7, hj => simp at hj; subst hj; simp [Addr.add]
  | 8, hj => simp at hj; subst hj; simp [Addr.add]
  | 9, hj => simp at hj; subst hj; simp [Addr.add]
theorem plV_one (p : Pl) : ∀ u ∈ plV p, u.oneCell' = true := by
  intro u hu
  simp [plV] at hu
  rcases hu with rfl | rfl | rfl | rfl | rfl | rfl | rfl | rfl | rfl | rfl <;> rfl
theorem plO_more {B : Nat} {w : World} {ad : Option Addr} {m c : Nat} {Ps : List Pl} {p : Pl} (hl : Ps.length = m) (h : w.ownsRow B 59 10 (.slice ad (m + 1) c) (m + 1) (Ps.flatMap plV ++ plV p)) : PlO B w ad (m + 1) c (Ps ++ [p]) :=
  ⟨by simp [hl], by rw [List.flatMap_append]; simpa using h⟩
theorem plA_last (Ps : List Pl) (p : Pl) : plA (Ps ++ [p]) Ps.length = p := by unfold plA; simp
theorem plA_old {Ps : List Pl} {p : Pl} {j : Nat} (h : j < Ps.length) : plA (Ps ++ [p]) j = plA Ps j := by unfold plA; rw [List.getElem?_append_left h]
/-- The plans' keys are the row's first ones. -/
def PlK (L : List Ky) (Ps : List Pl) (k : Nat) : Prop := ∀ j, j < k → (plA Ps j).k = kyA L j
theorem plk_uniq {L : List Ky} {Ps : List Pl} {k : Nat} (h : PlK L Ps k) (hA : ∀ q, q < k → KeyAt L q) : ∀ i j, i < k → j < k → (plA Ps i).k.nm = (plA Ps j).k.nm → i = j := by
  intro i j hi hj e
  rw [h i hi, h j hj] at e
  rcases Nat.lt_trichotomy i j with h1 | h1 | h1
  · exact absurd e ((hA j hj).2.1 i h1)
  · exact h1
  · exact absurd e.symm ((hA i hi).2.1 j h1)
theorem plk_key {L : List Ky} {Ps : List Pl} {k : Nat} (h : PlK L Ps k) (h1 : KeyOne (kyA L k)) (h2 : ¬ ∃ j, j < k ∧ (plA Ps j).k.nm = (kyA L k).nm) (h3 : RfP Ps k (kyA L k)) : KeyAt L k := by
  refine ⟨h1, fun j hj e => h2 ⟨j, hj, by rw [h j hj]; exact e⟩, fun e => ?_, h3.1⟩
  obtain ⟨j, hj, a, b, c, d⟩ := h3.2 e
  rw [h j hj] at a b c d
  exact ⟨j, hj, a, b, c, d⟩
theorem plk_dup {L : List Ky} {Ps : List Pl} {k : Nat} (hk : k < L.length) (h : PlK L Ps k) (h2 : ∃ j, j < k ∧ (plA Ps j).k.nm = (kyA L k).nm) : ¬ KeysP L := by
  obtain ⟨j, hj, e⟩ := h2
  rw [h j hj] at e
  exact keys_twice hk hj e
theorem plk_ref {L : List Ky} {Ps : List Pl} {k : Nat} (hk : k < L.length) (h : PlK L Ps k) (h3 : ¬ RfP Ps k (kyA L k)) : ¬ KeysP L := fun H => h3 ⟨(H.2 k hk).2.2.2, fun e => by
  obtain ⟨j, hj, a, b, c, d⟩ := (H.2 k hk).2.2.1 e
  exact ⟨j, hj, by rw [h j hj]; exact ⟨a, b, c, d⟩⟩⟩
theorem plk_more {L : List Ky} {Ps : List Pl} {k : Nat} {p : Pl} (hl : Ps.length = k) (h : PlK L Ps k) (hp : p.k = kyA L k) : PlK L (Ps ++ [p]) (k + 1) := fun j hj => by
  by_cases e : j = k
  · subst e
    have := plA_last Ps p
    rw [hl] at this
    rw [this]; exact hp
  · rw [plA_old (by omega)]
    exact h j (by omega)
theorem fn_yes {Ps : List Pl} {m : Nat} {t : ByteArray} {r : Int} (h : FirstN Ps m t r) (hd : ∃ j, j < m ∧ (plA Ps j).k.nm = t) : (r != -1) = true := by
  rcases h with ⟨-, h⟩ | ⟨j, rfl, -⟩
  · obtain ⟨j, hj, e⟩ := hd
    exact absurd e (h j hj)
  · rw [bne_iff_ne]; omega
theorem fn_no {Ps : List Pl} {m : Nat} {t : ByteArray} {r : Int} (h : FirstN Ps m t r) (hd : ¬ ∃ j, j < m ∧ (plA Ps j).k.nm = t) : r = -1 := by
  rcases h with ⟨h, -⟩ | ⟨j, -, hj, e⟩
  · exact h
  · exact absurd ⟨j, hj, e⟩ hd
theorem bv_no {Bv : Bool} {p : Prop} (h : Bv = true ↔ p) (hp : ¬ p) : Bv = false := by
  cases Bv
  · rfl
  · exact absurd (h.1 rfl) hp
/-- What the plans are told as. -/
def PlsAns (L : List Ky) (n : Nat) (w : World) (e : Ending) (w' : World) : Prop := Below w.heap.size w w' ∧
  ((KeysP L ∧ ∃ ad c Ps, e = .returned (.tuple #[.slice ad n c, .bool true]) ∧ PlO w.heap.size w' ad n c Ps ∧ PlK L Ps n) ∨ (¬ KeysP L ∧ e = .returned (.tuple #[.slice none 0 0, .bool false])))
/-- The bytes that the keys hold are few. -/
def KyFewI (L : List Ky) : Prop := L.length ≤ 1048576 ∧ ∀ j, j < L.length → (kyA L j).nm.size ≤ 1048576 ∧ (kyA L j).on.size ≤ 1048576 ∧ (kyA L j).pa.size ≤ 1048576 ∧ (kyA L j).re.size ≤ 1048576 ∧ (kyA L j).fl.length ≤ 1048576 ∧ ∀ i, i < (kyA L j).fl.length → ((kyA L j).fl[i]?.getD ⟨#[]⟩).size ≤ 1048576
set_option maxRecDepth 100000 in
set_option maxHeartbeats 8000000 in
theorem i_plans (L : List Ky) (n : Nat) (a : Option Addr) (c : Nat) (w : World) (hD : L.length = n) (hf : KyFewI L) (hr : KyAt w a L w.heap.size) (hM : MaxL w) :
    Calls Tryz.prog 34 #[.slice a n c] w (PlsAns L n w) := by
  have HD := hide hD
  have HF := hide hf
  have HR := hide hr
  have HM := hide hM
  have hn : n ≤ 1048576 := by rw [← hD]; exact hf.1
  clear hr hf hD hM
  by_cases hb0 : (10 : Int) < (n : Int)
  · go_enter Tryz.func34, Tryz.ntmps34
    go_wp2
    go_ret2
    exact ⟨Below.refl _ _, .inr ⟨fun H => by have := H.1; rw [HD.out] at this; omega, rfl⟩⟩
  · obtain ⟨i0, hi, hz9, hz8, hz7⟩ := info_parts infoPlan
    go_enter Tryz.func34, Tryz.ntmps34
    go_wp2
    go_loopw [4, 14] (fun v i wr => ∃ (k cc : Nat) (ad : Option Addr) (Ps : List Pl), k ≤ n ∧ i = .int .i64 k ∧ v = .slice ad k cc ∧ Hid (PlO w.heap.size wr ad k cc Ps) ∧ Hid (PlK L Ps k) ∧ Hid (Below w.heap.size w wr) ∧ Hid (∀ q, q < k → KeyAt L q)) (fun _ i _ => n - (intOf i).toNat)
    case atStart => exact ⟨0, 0, none, [], Nat.zero_le _, rfl, rfl, hide ⟨rfl, rfl, .inl ⟨rfl, rfl⟩⟩, hide (fun j h => by omega), Below.refl _ _, fun q h => by omega⟩
    case round =>
      obtain ⟨k, cc, ad, Ps, hk, rfl, rfl, HP, HKK, HB, HA⟩ := hrel
      by_cases hlt : k < n
      · obtain ⟨b, off, rfl, hbs, hrow⟩ := HR.out (fun e => by have := HD.out; rw [e] at this; simp at this; omega)
        have hkL : k < L.length := by rw [HD.out]; exact hlt
        obtain ⟨aF, cp, hc, hat, hcp⟩ := hrow k hkL
        obtain ⟨z0, z1, z2, z3, z4, z5⟩ := HF.out.2 k hkL
        obtain ⟨x, hx⟩ : ∃ x, kyA L k = x := ⟨_, rfl⟩
        have HX := hide hx
        rw [hx] at hc hat z0 z1 z2 z3 z4 z5 hcp
        obtain ⟨nm, kd, on, pa, fl, re⟩ := x
        simp only at hat z0 z1 z2 z3 z4 z5 hcp
        obtain ⟨c0, c1, c2, c3, c4, c5⟩ := kyC_go hc hbs HB.out
        simp only at c0 c1 c2 c3 c4 c5
        have hki : (k : Int) < n := by omega
        obtain ⟨fm, hm⟩ : ∃ fm, fl.length = fm := ⟨_, rfl⟩
        have HFM := hide hm
        rw [hm] at c4 z4 hcp z5
        have HKL := hide hkL
        have hbW1 : Below wr.heap.size wr (wr.alloc (.cells #[.string nm, .int .i64 kd, .string on, .string pa, .slice aF fm cp, .string re] 27)) := (Below.refl _ _).alloc (Nat.le_refl _) _
        have hB1 : Below w.heap.size w (wr.alloc (.cells #[.string nm, .int .i64 kd, .string on, .string pa, .slice aF fm cp, .string re] 27)) := HB.out.trans (hbW1.mono HB.out.size)
        have CP := hide (i_plan nm kd on pa aF fl fm cp re (wr.alloc (.cells #[.string nm, .int .i64 kd, .string on, .string pa, .slice aF fm cp, .string re] 27)) hm z0 z1 z2 z4 z5 (tx_up (tx_go hat hB1) hB1.size) (maxL_go HM.out hB1 (Nat.le_refl _)))
        have HB1 := hide hB1
        have HP1 := hide (plO_go HP.out hbW1)
        have HK1 := hide (kd_new wr #[.string nm, .int .i64 kd, .string on, .string pa, .slice aF fm cp, .string re] 27)
        clear hx hc hat hrow hm z5 hkL hbW1 hB1
        go_wp2_with fail
        refine CP.out.mono ?_
        rintro e w2 ⟨hb2, h⟩
        have HB2 := hide (HB1.out.trans (hb2.mono HB1.out.size))
        have HP2 := hide (plO_go HP1.out hb2)
        have HK2 := hide (kd_go HK1.out hb2)
        have hs2 : wr.heap.size < w2.heap.size := kd_lt HK2.out
        have hm2 : w.heap.size ≤ w2.heap.size := HB2.out.size
        have hgN : ∀ g, ad = some ⟨g, 0, none⟩ → g < w2.heap.size := fun g e => by
          have h9 := HP2.out.2.2
          rcases h9 with ⟨e2, -⟩ | ⟨g2, cap, cur, e2, -, hg, -⟩
          · rw [e] at e2; cases e2
          · rw [e] at e2; cases e2; exact (Array.getElem?_eq_some_iff.1 hg).1
        have HGN := hide hgN
        clear hb2 hgN HP1 HK1 HB1
        rcases h with ⟨hone, d, a1, n1, c1', fa, fc, rfl⟩ | ⟨hone, rfl⟩
        · have HONE : Hid (KeyOne (kyA L k)) := hide (by rw [HX.out]; exact hone)
          have HCN := hide (cellsAt_new w2 (plV ⟨⟨nm, kd, on, pa, fl, re⟩, aF, cp, d, a1, n1, c1', fa, fc, 0⟩).toArray 59)
          have hbW3 : Below w2.heap.size w2 (w2.alloc (.cells (plV ⟨⟨nm, kd, on, pa, fl, re⟩, aF, cp, d, a1, n1, c1', fa, fc, 0⟩).toArray 59)) := (Below.refl _ _).alloc (Nat.le_refl _) _
          unfold plV at hbW3 ⊢
          simp only at hbW3 ⊢
          rw [HFM.out] at hbW3 ⊢
          obtain ⟨W3, hW3⟩ : ∃ W3, w2.alloc (.cells #[.string nm, .int .i64 kd, .string on, .string pa, .slice aF fm cp, .string re, .bool d, .slice a1 n1 c1', .slice fa fm fc, .int .i64 0] 59) = W3 := ⟨_, rfl⟩
          have hW3b : w2.alloc (.cells (plV ⟨⟨nm, kd, on, pa, fl, re⟩, aF, cp, d, a1, n1, c1', fa, fc, 0⟩).toArray 59) = W3 := by
            rw [← hW3]; unfold plV; simp only; rw [HFM.out]
          rw [hW3] at hbW3
          rw [hW3b] at HCN
          have HB3 := hide (HB2.out.trans (hbW3.mono HB2.out.size))
          have HP3 := hide (plO_go HP2.out hbW3)
          have HK3 := hide (kd_go HK2.out hbW3)
          have k0 : w2.cell? ⟨wr.heap.size, 0, none⟩ = some (.string nm) := kd_cell HK2.out 0
          have HW3 := hide hW3
          clear hW3
          have hN3 : w2.heap.size < W3.heap.size := cellsAt_lt HCN.out
          have CPL := hide (i_keyAt w.heap.size ad k cc Ps nm W3 HP3.out (by omega))
          have HB23 := hide hbW3
          clear hbW3 hone hW3b CP
          by_cases hdup : ∃ j, j < k ∧ (plA Ps j).k.nm = nm
          · have HNO : Hid (¬ KeysP L) := hide (plk_dup HKL.out HKK.out (by rw [HX.out]; exact hdup))
            have HDUP := hide hdup
            clear hdup
            go_wp2_with (first | (go_at_call 65; rw [HW3.out]; refine CPL.out.mono ?_; rintro e w4 ⟨⟨r, rfl, hr⟩, hb4⟩; have hr1 : (r != -1) = true := fn_yes hr HDUP.out; have HB4 := hide (HB3.out.trans (hb4.mono HB3.out.size)); clear hr hb4))
            go_ret2
            exact ⟨HB4.out, .inr ⟨HNO.out, rfl⟩⟩
          · have CRF : Hid (∀ w4, Below W3.heap.size W3 w4 → Calls Tryz.prog 66 #[.pointer (some ⟨w2.heap.size, 0, none⟩), .slice ad k cc] w4 (RfAns Ps k ⟨⟨nm, kd, on, pa, fl, re⟩, aF, cp, d, a1, n1, c1', fa, fc, 0⟩ w2.heap.size w4)) := hide (fun w4 hb4 => i_refers w.heap.size ad k cc Ps _ w2.heap.size w4 (plO_go HP3.out hb4) (by omega) HGN.out (plk_uniq HKK.out HA.out) (cellsAt_go HCN.out hb4 hN3))
            have HDUP := hide hdup
            clear hdup
            by_cases hrf : RfP Ps k ⟨nm, kd, on, pa, fl, re⟩
            · have HA2 : Hid (∀ q, q < k + 1 → KeyAt L q) := hide (fun q hq => by
                by_cases e : q = k
                · subst e; exact plk_key HKK.out HONE.out (by rw [HX.out]; exact HDUP.out) (by rw [HX.out]; exact hrf)
                · exact HA.out q (by omega))
              have HRF := hide hrf
              clear hrf
              go_wp2_with (first | (go_at_call 65; rw [HW3.out]; refine CPL.out.mono ?_; rintro e w4 ⟨⟨r, rfl, hr⟩, hb4⟩; have hr1 : r = -1 := fn_no hr HDUP.out; rw [hr1]; have HB4 := hide hb4; clear hr hr1 hb4) | (go_at_call 66; refine (CRF.out _ HB4.out).mono ?_; rintro e w5 ⟨hb5, hs5, Bv, r5, rfl, hBv, hC5⟩; rw [hBv.2 HRF.out]; have HB45 := hide ((HB4.out.mono (Nat.le_of_lt hN3)).trans hb5); have hB25 := (HB23.out.trans HB45.out); have HB5 := hide (HB2.out.trans (hB25.mono hm2)); have hm5 := HB5.out.size; have HP5 := hide (plO_goN HP2.out HGN.out hB25); have hC6 := hC5; unfold plV at hC6; simp only at hC6; rw [HFM.out] at hC6; have nv0 := cellsAt_cell hC6 0; have nv1 := cellsAt_cell hC6 1; have nv2 := cellsAt_cell hC6 2; have nv3 := cellsAt_cell hC6 3; have nv4 := cellsAt_cell hC6 4; have nv5 := cellsAt_cell hC6 5; have nv6 := cellsAt_cell hC6 6; have nv7 := cellsAt_cell hC6 7; have nv8 := cellsAt_cell hC6 8; have nv9 := cellsAt_cell hC6 9; simp at nv0 nv1 nv2 nv3 nv4 nv5 nv6 nv7 nv8 nv9; clear hB25 hC6; clear hb5 hBv hC5) | (at_builtin; refine wpList_append_own _ rfl (.tmp 37) (.tmp 39) 74 rfl w.heap.size 59 i0 (.agg #[.string ⟨#[]⟩, .int .i64 0, .string ⟨#[]⟩, .string ⟨#[]⟩, .slice none 0 0, .string ⟨#[]⟩, .bool false, .slice none 0 0, .slice none 0 0, .int .i64 0]) 10 160 Tryz.underlying74 hi hz9 hz8 hz7 rfl (by decide) _ _ _ rfl (HP5.out.2.alloc _) ⟨w5.heap.size, 0, none⟩ 1 1 [.string nm, .int .i64 kd, .string on, .string pa, .slice aF fm cp, .string re, .bool d, .slice a1 n1 c1', .slice fa fm fc, .int .i64 r5] rfl rfl (fun j u hj => gTen_new w5 _ _ _ _ _ _ _ _ _ _ _ j u hj) (by have h9 := plV_one ⟨⟨nm, kd, on, pa, fl, re⟩, aF, cp, d, a1, n1, c1', fa, fc, r5⟩; unfold plV at h9; simp only at h9; rw [HFM.out] at h9; exact h9) (by unfold maxLen; omega) (by omega) (by simp; omega) ?_; intro v2 w7 hown2 hgrow2 _; obtain ⟨ad2, c2', hv2⟩ := gOwn_shape hown2; rw [hv2] at hown2 ⊢; clear hv2; have HB7 := hide (gBelow_one HB5.out HP5.out.2 hgrow2); have HO7 := hide hown2; clear hown2 hgrow2))
              go_roundw
              case rel => exact ⟨k + 1, c2', ad2, Ps ++ [⟨⟨nm, kd, on, pa, fl, re⟩, aF, cp, d, a1, n1, c1', fa, fc, r5⟩], by omega, by go_num, rfl, hide (plO_more HP5.out.1 (by unfold plV; simp only; rw [HFM.out]; exact HO7.out)), hide (plk_more HP5.out.1 HKK.out HX.out.symm), HB7, HA2⟩
              case measure => simp [intOf]; omega
            · have HNO : Hid (¬ KeysP L) := hide (plk_ref HKL.out HKK.out (by rw [HX.out]; exact hrf))
              have HRF := hide hrf
              clear hrf
              go_wp2_with (first | (go_at_call 65; rw [HW3.out]; refine CPL.out.mono ?_; rintro e w4 ⟨⟨r, rfl, hr⟩, hb4⟩; have hr1 : r = -1 := fn_no hr HDUP.out; rw [hr1]; have HB4 := hide hb4; clear hr hr1 hb4) | (go_at_call 66; refine (CRF.out _ HB4.out).mono ?_; rintro e w5 ⟨hb5, hs5, Bv, r5, rfl, hBv, hC5⟩; rw [bv_no hBv HRF.out]; have HB5 := hide (HB2.out.trans ((HB23.out.trans (HB4.out.mono (Nat.le_of_lt hN3))).trans hb5 |>.mono hm2)); clear hb5 hBv hC5))
              go_ret2
              exact ⟨HB5.out, .inr ⟨HNO.out, rfl⟩⟩
        · have HNO : Hid (¬ KeysP L) := hide (keys_one HKL.out (by rw [HX.out]; exact hone))
          clear hone CP
          unfold plV
          simp only [pl0, ky0]
          go_wp2
          go_ret2
          exact ⟨HB2.out.alloc hm2 _, .inr ⟨HNO.out, rfl⟩⟩
      · have hkm : k = n := by omega
        subst hkm
        go_wp2
        go_ret2
        exact ⟨HB.out, .inl ⟨⟨by rw [HD.out]; omega, fun q hq => HA.out q (by rw [HD.out] at hq; exact hq)⟩, ad, cc, Ps, rfl, HP.out, HKK.out⟩⟩
end Go.Proofs.YtdepgkpfibmbgaaGreatDoor

/-
  Contract: does a key refer right, by the program, and to which one?
-/
namespace Go.Proofs.YtdepgkpfibmbgaaGreatDoor
open Go.RowKit Go.Joins
set_option linter.unusedVariables false
set_option linter.unusedSimpArgs false
/-- The answer. -/
def RfAns2 (Ps : List Pl) (m : Nat) (p : Pl) (N : Nat) (w : World) (e : Ending) (w' : World) : Prop := Below N w w' ∧ w.heap.size ≤ w'.heap.size ∧ ∃ (Bv : Bool) (r : Int), e = .returned (.bool Bv) ∧ (Bv = true ↔ RfP Ps m p.k) ∧ CellsAt w' N (plV { p with r := r }).toArray ∧ (p.k.kd = 3 → Bv = true → ∃ j : Nat, r = j ∧ j < m ∧ (plA Ps j).k.nm = p.k.re)
theorem rf_no2 {Ps : List Pl} {m : Nat} {p : Pl} {N : Nat} {w w' : World} {r : Int} (hb : Below N w w') (hs : w.heap.size ≤ w'.heap.size) (hc : CellsAt w' N (plV { p with r := r }).toArray) (h : ¬ RfP Ps m p.k) : RfAns2 Ps m p N w (.returned (.bool false)) w' :=
  ⟨hb, hs, false, r, rfl, by constructor; (intro h; cases h); (intro h2; exact absurd h2 h), hc, fun _ h => by cases h⟩
theorem rf_yes2 {Ps : List Pl} {m : Nat} {p : Pl} {N : Nat} {w w' : World} {r : Int} (hb : Below N w w') (hs : w.heap.size ≤ w'.heap.size) (hc : CellsAt w' N (plV { p with r := r }).toArray) (h : RfP Ps m p.k) (hr : p.k.kd = 3 → ∃ j : Nat, r = j ∧ j < m ∧ (plA Ps j).k.nm = p.k.re) : RfAns2 Ps m p N w (.returned (.bool true)) w' :=
  ⟨hb, hs, true, r, rfl, ⟨fun _ => h, fun _ => rfl⟩, hc, fun h _ => hr h⟩
set_option maxRecDepth 100000 in
set_option maxHeartbeats 4000000 in
theorem i_refers2 (B : Nat) (ad : Option Addr) (m c : Nat) (Ps : List Pl) (p : Pl) (N : Nat) (w : World) (hP : PlO B w ad m c Ps) (hm : m ≤ 1048576) (hN : ∀ g, ad = some ⟨g, 0, none⟩ → g < N) (hU : ∀ i j, i < m → j < m → (plA Ps i).k.nm = (plA Ps j).k.nm → i = j) (hC : CellsAt w N (plV p).toArray) :
    Calls Tryz.prog 66 #[.pointer (some ⟨N, 0, none⟩), .slice ad m c] w (RfAns2 Ps m p N w) := by
  have hNl : N < w.heap.size := cellsAt_lt hC
  have HC := hide hC
  have HP := hide hP
  have HU := hide hU
  have HN := hide hN
  clear hP hU hN hC
  obtain ⟨⟨nm, kd, on, pa, fl, re⟩, af, cf, d, a1, n1, c1, fa, fc, r0⟩ := p
  obtain ⟨fm, hfm⟩ : ∃ fm, fl.length = fm := ⟨_, rfl⟩
  have HFM := hide hfm
  have q1 : w.cell? ⟨N, 1, none⟩ = some (.int .i64 kd) := cellsAt_cell HC.out 1
  have q5 : w.cell? ⟨N, 5, none⟩ = some (.string re) := cellsAt_cell HC.out 5
  clear hfm
  by_cases h3 : kd = 3
  · have h3b : (kd != 3) = false := by rw [h3]; rfl
    have H3 := hide h3
    clear h3
    have CP := hide (i_keyAt B ad m c Ps re w HP.out hm)
    go_enter Tryz.func66, Tryz.ntmps66
    go_wp2_with fail
    refine CP.out.mono ?_
    rintro e w2 ⟨⟨r, rfl, hr⟩, hb2⟩
    have hk2 := cellsAt_go HC.out hb2 hNl
    have HP2 := hide (plO_goN HP.out HN.out (hb2.mono (Nat.le_of_lt hNl)))
    have HB2 := hide (hb2.mono (Nat.le_of_lt hNl))
    have hs2 : w.heap.size ≤ w2.heap.size := hb2.size
    have v9 : w2.cell? ⟨N, 9, none⟩ = some (.int .i64 r0) := cellsAt_cell hk2 9
    have vf := cellsAt_frozen hk2
    have HK3 := hide (rf_set hk2 r)
    have HP3 := hide (plO_goN HP2.out HN.out (below_setN (w := w2) 9 (.int .i64 r)))
    have HB3 := hide (HB2.out.trans (below_setN (w := w2) 9 (.int .i64 r)))
    obtain ⟨W, hW⟩ : ∃ W, w2.setCell ⟨N, 9, none⟩ (.int .i64 r) = W := ⟨_, rfl⟩
    rw [hW] at HK3 HP3 HB3
    have hsW : w.heap.size ≤ W.heap.size := by rw [← hW]; simp; exact hs2
    have u9 : W.cell? ⟨N, 9, none⟩ = some (.int .i64 r) := cellsAt_cell HK3.out 9
    clear hb2 hk2
    rcases hr with ⟨rfl, hno⟩ | ⟨j, rfl, hj, hjn⟩
    · have HNO : Hid (¬ RfP Ps m ⟨nm, kd, on, pa, fl, re⟩) := hide (fun h => by
        obtain ⟨j, h1, h2, -⟩ := h.2 H3.out
        exact hno j h1 h2)
      clear hno
      go_wp2
      go_ret
      exact rf_no2 HB3.out hsW HK3.out HNO.out
    · obtain ⟨g, rfl, hBg, hg, hc⟩ := plO_cell HP3.out j hj
      have hji : (j : Int) < m := by omega
      have hgN := HN.out g rfl
      obtain ⟨p2, hp2⟩ : ∃ p2, plA Ps j = p2 := ⟨_, rfl⟩
      have HPP := hide hp2
      rw [hp2] at hc
      have HJN := hide hjn
      rw [hp2] at HJN
      obtain ⟨⟨onm, okd, oon, opa, ofl, ore⟩, oaf, ocf, od, oa1, on1, oc1, ofa, ofc, orr⟩ := p2
      obtain ⟨om, hom⟩ : ∃ om, ofl.length = om := ⟨_, rfl⟩
      have HOM := hide hom
      have q0 : W.cell? ⟨g, j * 10, none⟩ = some (.string onm) := hc 0 (by decide)
      have q1' : W.cell? ⟨g, j * 10 + 1, none⟩ = some (.int .i64 okd) := hc 1 (by decide)
      have q2 : W.cell? ⟨g, j * 10 + 2, none⟩ = some (.string oon) := hc 2 (by decide)
      have q3 : W.cell? ⟨g, j * 10 + 3, none⟩ = some (.string opa) := hc 3 (by decide)
      have q4 : W.cell? ⟨g, j * 10 + 4, none⟩ = some (.slice oaf ofl.length ocf) := hc 4 (by decide)
      have q5' : W.cell? ⟨g, j * 10 + 5, none⟩ = some (.string ore) := hc 5 (by decide)
      have q6 : W.cell? ⟨g, j * 10 + 6, none⟩ = some (.bool od) := hc 6 (by decide)
      have q7 : W.cell? ⟨g, j * 10 + 7, none⟩ = some (.slice oa1 on1 oc1) := hc 7 (by decide)
      have q8 : W.cell? ⟨g, j * 10 + 8, none⟩ = some (.slice ofa ofl.length ofc) := hc 8 (by decide)
      have q9 : W.cell? ⟨g, j * 10 + 9, none⟩ = some (.int .i64 orr) := hc 9 (by decide)
      have u2 : W.cell? ⟨N, 2, none⟩ = some (.string on) := cellsAt_cell HK3.out 2
      have u8 : W.cell? ⟨N, 8, none⟩ = some (.slice fa fl.length fc) := cellsAt_cell HK3.out 8
      have hNW : N < W.heap.size := cellsAt_lt HK3.out
      rw [hom] at q4 q8
      rw [HFM.out] at u8
      have HW := hide hW
      have hRF : (((okd != 3) && ((oon.toList == on.toList) && ((om : Int) == (fm : Int)))) = true) ↔ RfP Ps m ⟨nm, kd, on, pa, fl, re⟩ := by
        rw [Bool.and_eq_true, Bool.and_eq_true, ba_eq, bne_iff_ne, beq_iff_eq, Int.ofNat_inj]
        constructor
        · rintro ⟨h1, h2, h4⟩
          refine ⟨fun h => absurd H3.out h, fun _ => ⟨j, hj, ?_⟩⟩
          rw [HPP.out]
          exact ⟨HJN.out, h1, by show ofl.length = fl.length; rw [HOM.out, HFM.out]; exact h4, h2⟩
        · intro h
          obtain ⟨i, h1, h2, h4⟩ := h.2 H3.out
          have hij : i = j := HU.out i j h1 hj (by rw [h2, HPP.out]; exact HJN.out.symm)
          subst hij
          rw [HPP.out] at h4
          exact ⟨h4.1, h4.2.2, by rw [← HOM.out, ← HFM.out]; exact h4.2.1⟩
      have HRF := hide hRF
      have HB4 : ∀ o q, Below N w ((W.alloc o).drewN q) := fun o q => (HB3.out.alloc (Nat.le_of_lt hNW) o).trans ⟨rfl, rfl, rfl, Nat.le_refl _, fun _ _ => rfl⟩
      have HK4 : ∀ o q, CellsAt ((W.alloc o).drewN q) N (plV ⟨⟨nm, kd, on, pa, fl, re⟩, af, cf, d, a1, n1, c1, fa, fc, j⟩).toArray := fun o q => cellsAt_go HK3.out (((Below.refl W.heap.size _).alloc (Nat.le_refl _) o).trans ⟨rfl, rfl, rfl, Nat.le_refl _, fun _ _ => rfl⟩) hNW
      have HB5 := hide HB4
      have HK5 := hide HK4
      clear hc hom hRF HB4 HK4 hp2 hjn
      cases e2 : (okd != 3)
      · go_wp2
        go_quiet (fail)
        go_wp2
        go_ret
        exact rf_no2 (HB5.out _ _) (by simp; omega) (HK5.out _ _) (fun h => by have h9 := HRF.out.2 h; simp [e2] at h9)
      · cases e4 : (oon.toList == on.toList)
        · go_wp2
          go_quiet (fail)
          go_wp2
          go_ret
          exact rf_no2 (HB5.out _ _) (by simp; omega) (HK5.out _ _) (fun h => by have h9 := HRF.out.2 h; simp [e2, e4] at h9)
        · cases e3 : ((om : Int) == (fm : Int))
          · go_wp2
            go_quiet (fail)
            go_wp2
            go_ret
            exact rf_no2 (HB5.out _ _) (by simp; omega) (HK5.out _ _) (fun h => by have h9 := HRF.out.2 h; simp [e2, e3, e4] at h9)
          · go_wp2
            go_quiet (fail)
            go_wp2
            go_ret
            exact rf_yes2 (HB5.out _ _) (by simp; omega) (HK5.out _ _) (HRF.out.1 (by simp [e2, e3, e4])) (fun _ => ⟨j, rfl, hj, by rw [HPP.out]; exact HJN.out⟩)
  · have h3b : (kd != 3) = true := by rw [bne_iff_ne]; exact h3
    have H3 := hide h3
    clear h3
    by_cases hre : re = ⟨#[]⟩
    · have hre3 : re.toList = [] := by simp [hre, ByteArray.toList_eq]
      have hre2 : re.toList.isEmpty = true := by rw [hre3]; rfl
      have HY : Hid (RfP Ps m ⟨nm, kd, on, pa, fl, re⟩) := hide ⟨fun _ => hre, fun h => absurd h H3.out⟩
      clear hre
      go_enter Tryz.func66, Tryz.ntmps66
      go_wp2
      go_ret
      exact rf_yes2 (Below.refl _ _) (Nat.le_refl _) HC.out HY.out (fun h => absurd h H3.out)
    · have hre3 : re.toList ≠ [] := fun e => hre ((ba_eq re ⟨#[]⟩).1 (by simp [e, ByteArray.toList_eq]))
      have hre2 : re.toList.isEmpty = false := by simpa using hre3
      have HY : Hid (¬ RfP Ps m ⟨nm, kd, on, pa, fl, re⟩) := hide (fun h => hre (h.1 H3.out))
      clear hre
      go_enter Tryz.func66, Tryz.ntmps66
      go_wp2
      go_ret
      exact rf_no2 (Below.refl _ _) (Nat.le_refl _) HC.out HY.out
end Go.Proofs.YtdepgkpfibmbgaaGreatDoor
