/-
  Texts put together: AcS2, AcS3.
-/
import Derived.Test.YtfohfljdgmlibaaDoorS28
/-
  Contracts: the places behind a row of nodes and behind a choice, by the specification.
-/
namespace Go.Proofs.YtfohfljdgmlibaaDoor
open Go.RowKit Go.Joins
set_option linter.unusedVariables false
set_option linter.unusedSimpArgs false
theorem st_le {R : Nat → Nat → Prop} (hR : ∀ a b, R a b → a ≤ b) {a b : Nat} (h : St R a b) : a ≤ b := by
  induction h with
  | refl => exact Nat.le_refl _
  | step h1 _ ih => exact Nat.le_trans (hR _ _ h1) ih
theorem chn_le {R : Int → Nat → Nat → Prop} : ∀ {L : List Int}, (∀ k ∈ L, ∀ a b, R k a b → a ≤ b) → ∀ {a b}, chn R L a b → a ≤ b
  | [], _, a, b, h => by rw [chn] at h; omega
  | k :: L, hR, a, b, h => by
    obtain ⟨c, h1, h2⟩ := h
    exact Nat.le_trans (hR k (List.mem_cons_self ..) a c h1) (chn_le (fun j hj => hR j (List.mem_cons_of_mem _ hj)) h2)
theorem onc_le {D : Pn} {W : List ByteArray} {g : Nat → Nat → Nat → Prop} {i : Nat} (hg : ∀ k a b, g k a b → a ≤ b) {a b : Nat} (h : onc D W g i a b) : a ≤ b := by
  rcases h with ⟨-, h⟩ | ⟨-, k, -, h⟩ | ⟨-, rfl, -⟩
  · exact chn_le (fun k _ a b h => hg _ a b h) h
  · exact hg _ a b h
  · omega
theorem rep_le {oc : Int} {R : Nat → Nat → Prop} (hR : ∀ a b, R a b → a ≤ b) {a b : Nat} (h : rep oc R a b) : a ≤ b := by
  rcases h with ⟨-, h⟩ | ⟨-, h | h⟩ | ⟨-, h⟩ | ⟨-, c, h1, h2⟩
  · exact hR _ _ h
  · omega
  · exact hR _ _ h
  · exact st_le hR h
  · exact Nat.le_trans (hR _ _ h1) (st_le hR h2)
theorem enF_le {D : Pn} {W : List ByteArray} : ∀ (f i a b : Nat), enF D W f i a b → a ≤ b
  | 0, i, a, b, h => h.elim
  | f + 1, i, a, b, h => rep_le (fun a b h => onc_le (fun k a b h => enF_le f k a b h) h) h
theorem en_le {D : Pn} {W : List ByteArray} {i a b : Nat} (h : en D W i a b) : a ≤ b := enF_le _ _ _ _ h
theorem fwd_seq {D : Pn} {W : List ByteArray} {f G G2 : List Bool} {m c : Nat} {L : List Int} (h1 : Fwd f G m (chn (fun k => en D W k.toNat) L)) (h2 : Fwd G G2 m (en D W c)) : Fwd f G2 m (chn (fun k => en D W k.toNat) (L ++ [(c : Int)])) := fun b hb => by
  rw [h2 b hb]
  constructor
  · rintro ⟨d, hd, h3, h4⟩
    obtain ⟨a, ha, h5, h6⟩ := (h1 d hd).1 h3
    exact ⟨a, ha, h5, chn_snoc.2 ⟨d, h6, h4⟩⟩
  · rintro ⟨a, ha, h3, h4⟩
    obtain ⟨d, h5, h6⟩ := chn_snoc.1 h4
    have h7 : en D W c d b := h6
    have hd : d ≤ m := Nat.le_trans (en_le h7) hb
    exact ⟨d, hd, (h1 d hd).2 ⟨a, ha, h3, h5⟩, h7⟩
theorem bo_own {B : Nat} {w : World} (hB : B ≤ w.heap.size) : w.alloc (.cells #[] 4) |>.ownsRow B 4 1 (.slice (some ⟨w.heap.size, 0, none⟩) 0 0) 0 [] := World.ownsRow_made (base := B) (e := 4) (size := 1) w #[] 0 hB (Nat.zero_le _) rfl
set_option maxRecDepth 100000 in
set_option maxHeartbeats 8000000 in
theorem once_seq (D : Pn) (n b0 off cap : Nat) (W : List ByteArray) (m : Nat) (b : Option Addr) (cq : Nat) (f : List Bool) (fa : Option Addr) (fc i : Nat) (w : World) (hRN : RN D n) (hi : i < n) (hKK : D.K i = 2) (hbs : b0 < w.heap.size) (hr : PnRow w b0 off D w.heap.size) (hW : W.length = m) (hm : m ≤ 200) (hq : TxAt w b W w.heap.size) (hf : f.length = m + 1) (hfa : BoAt w fa f w.heap.size) (hE : ∀ c, c < i → ∀ (f : List Bool) (fa : Option Addr) (fc : Nat) (w : World), b0 < w.heap.size → PnRow w b0 off D w.heap.size → TxAt w b W w.heap.size → f.length = m + 1 → BoAt w fa f w.heap.size → Calls Tryd.prog 73 #[.slice (some ⟨b0, off, none⟩) n cap, .int .i64 c, .slice b m cq, .slice fa ((m : Nat) + 1) fc] w (OnA m (en D W c) f w)) :
    Calls Tryd.prog 88 #[.slice (some ⟨b0, off, none⟩) n cap, .int .i64 i, .slice b m cq, .slice fa ((m : Nat) + 1) fc] w (OnA m (onc D W (en D W) i) f w) := by
  obtain ⟨i0, hi0, hz0, hz1, hz2⟩ := info_parts infoBo
  have HR := hide hr
  have HRN := hide hRN
  have HW := hide hW
  have HQ := hide hq
  have HF := hide hf
  have HFA := hide hfa
  have HKID := hide (hRN.2.2.2.1 i hi)
  have hll := hRN.2.2.2.2.2 i hi
  obtain ⟨ad, cp, hc, hat, hcp⟩ := hr i (by rw [hRN.1]; exact hi)
  obtain ⟨c0, c1, c2, c3⟩ := hc
  have hin : (i : Int) < (n : Int) := by omega
  have hi00 : (0 : Int) ≤ (i : Int) := by omega
  have HK := hide hKK
  obtain ⟨NM, hNM⟩ : ∃ NM, D.NM i = NM := ⟨_, rfl⟩
  obtain ⟨OC, hOC⟩ : ∃ OC, D.OC i = OC := ⟨_, rfl⟩
  obtain ⟨L, hL⟩ : ∃ L, D.KL i = L := ⟨_, rfl⟩
  have HNM := hide hNM
  have HL := hide hL
  rw [hKK] at c0
  rw [hNM] at c1
  rw [hL] at c2 hat HKID hll
  rw [hOC] at c3
  have HAT := hide hat
  clear hr hRN hW hq hf hfa hat hcp hKK hNM hOC hL
  have HE := hide hE
  have HON : Hid (∀ a b, chn (fun k => en D W k.toNat) L a b ↔ onc D W (en D W) i a b) := hide (fun a b => by
    unfold onc
    rw [HK.out, HL.out]
    constructor
    · intro h; exact .inl ⟨rfl, h⟩
    · rintro (⟨-, h⟩ | ⟨h, -⟩ | ⟨h, -⟩)
      · exact h
      · cases h
      · rcases h with h | h <;> cases h)
  clear hE
  go_enter Tryd.func88, Tryd.ntmps88
  go_upto_region 12 with (first | (at_make; refine wpList_make_full _ rfl _ _ 90 rfl w.heap.size 4 i0 (.bool false) 1 Tryd.underlying90 hi0 hz0 hz1 .i64 .i64 _ _ (m + 1) rfl rfl (by go_num) (by go_num) (by rw [hz2]; omega) (by unfold maxLen; omega) (Nat.le_refl _) ?_; intro w1 hown hgrow; rw [made_false] at hown; have HX1 : Hid (BoX w.heap.size w1 w.heap.size (m + 1) (m + 1) (List.replicate (m + 1) false)) := hide ⟨by rw [List.length_replicate], hown⟩; have HB1 : Hid (Below w.heap.size w w1) := hide ((Below.refl _ _).grown hgrow (Nat.le_refl _) (fun k h => by cases h)); clear hown hgrow; have c0 := (HB1.out.cell (p := ⟨b0, off + i * 4, none⟩) hbs).trans c0; have c1 := (HB1.out.cell (p := ⟨b0, off + i * 4 + 1, none⟩) hbs).trans c1; have c2 := (HB1.out.cell (p := ⟨b0, off + i * 4 + 2, none⟩) hbs).trans c2; have c3 := (HB1.out.cell (p := ⟨b0, off + i * 4 + 3, none⟩) hbs).trans c3; have hb1l : b0 < w1.heap.size := Nat.lt_of_lt_of_le hbs HB1.out.size))
  obtain ⟨wy, hwy⟩ : ∃ wy, w1.alloc (.cells #[.int .i64 2, .string NM, .slice ad L.length cp, .int .i64 OC] 34) = wy := ⟨_, rfl⟩
  have HN2 := hide (ndAt_new w1 2 NM ad L.length cp OC 34)
  have HB2 := hide (HB1.out.alloc HB1.out.size (.cells #[.int .i64 2, .string NM, .slice ad L.length cp, .int .i64 OC] 34))
  rw [hwy] at HN2 HB2 ⊢
  obtain ⟨NB, hNB⟩ : ∃ NB, w1.heap.size = NB := ⟨_, rfl⟩
  rw [hNB] at HN2 ⊢
  have HNl := hide (ndAt_lt HN2.out)
  have hNBw : Hid (w.heap.size ≤ NB) := hide (by rw [← hNB]; exact HB1.out.size)
  clear hwy hNB c0 c1 c2 c3 HX1 hb1l
  obtain ⟨fb, fo, rfl, hfb, hfc⟩ := bo_go HFA.out HB2.out
  have HFC := hide hfc
  have HOW := hide (bo_own (B := NB + 1) (w := wy) HNl.out)
  clear hfc
  go_wp2_with (first
    | (at_builtin; refine wpList_append_src (by rfl) (.tmp 58) (.tmp 59) 90 (by rfl) (NB + 1) 4 i0 (.bool false) 1 1 Tryd.underlying90 hi0 hz0 hz1 hz2 rfl (by decide) (.slice (some ⟨wy.heap.size, 0, none⟩) 0 0) 0 [] (by rfl) HOW.out (some ⟨fb, fo, none⟩) (m + 1) fc (f.map Value.bool) (by rfl) (by rw [List.length_map, Nat.mul_one, HF.out]) (fun _ => ⟨_, rfl, bo_src (fun j hj => ((((Below.refl wy.heap.size wy).alloc (Nat.le_refl _) _).cell (p := ⟨fb, fo + j, none⟩) (Nat.lt_of_lt_of_le hfb HB2.out.size))).trans (HFC.out j hj))⟩) (bools_one _) (by unfold maxLen; omega) (by omega) (by have := HNl.out; simp; omega) ?_; intro a9 c9 w9 hown9 hgr9; rw [Nat.zero_add, List.nil_append] at hown9; obtain ⟨g9, rfl, hx9⟩ := boX_of HF.out (by omega) hown9; have HX9 := hide hx9; have HNN := hide (nd_grown (ndAt_go HN2.out ((Below.refl wy.heap.size wy).alloc (Nat.le_refl _) _)) hgr9 (fun e => by have := (HOW.out.lt _ e).1; omega)); have HB9 := hide ((HB2.out.alloc HB2.out.size _).grown hgr9 (HB2.out.alloc HB2.out.size _).size (fun k hk => by have h8 := (HOW.out.lt _ hk).1; have h9 := HB1.out.size; have h7 := HNl.out; have hnb : w.heap.size ≤ NB := hNBw.out; omega)); clear hown9 hgr9 hx9))
  go_loopw [9, 12] (fun ov mv wr => ∃ (k g c : Nat) (G : List Bool), k ≤ L.length ∧ mv = .int .i64 k ∧ ov = .slice (some ⟨g, 0, none⟩) ((m : Nat) + 1) c ∧ Hid (BoX (NB + 1) wr g c (m + 1) G) ∧ Hid (NdAt wr NB 2 NM ad L.length cp OC) ∧ Hid (Below w.heap.size w wr) ∧ Hid (Fwd f G m (chn (fun k => en D W k.toNat) (L.take k)))) (fun _ mv _ => L.length - (intOf mv).toNat)
  case atStart => exact ⟨0, g9, c9, f, Nat.zero_le _, rfl, rfl, HX9, HNN, HB9, hide (fun b hb => by
    rw [List.take_zero]
    constructor
    · intro h; exact ⟨b, hb, h, rfl⟩
    · rintro ⟨a, -, h, e⟩; rw [chn] at e; rw [← e]; exact h)⟩
  case round =>
    clear HX9 HNN HB9
    obtain ⟨k, g, c, G, hk, rfl, rfl, HX, HN, HB, HA⟩ := hrel
    obtain ⟨a0, a1, a2, a3⟩ := ndAt_cells HN.out
    by_cases hlt : k < L.length
    · obtain ⟨b9, off9, rfl, hb9, hc9⟩ := HAT.out (fun h => by rw [h] at hlt; exact absurd hlt (Nat.not_lt_zero _))
      have k0 := (HB.out.cell (p := ⟨b9, off9 + k, none⟩) hb9).trans (hc9 k hlt)
      have hki : (k : Int) < (L.length : Int) := by omega
      have hk0 : (0 : Int) ≤ (k : Int) := by omega
      have hkk := HKID.out (L[k]?.getD 0) (by rw [List.getElem?_eq_getElem hlt]; exact List.getElem_mem hlt)
      obtain ⟨v, hv⟩ : ∃ v, L[k]?.getD 0 = v := ⟨_, rfl⟩
      have HLM : Hid (L.take (k + 1) = L.take k ++ [v]) := hide (by rw [List.take_succ_eq_append_getElem hlt, ← hv, List.getElem?_eq_getElem hlt]; rfl)
      rw [hv] at k0 hkk
      obtain ⟨d, rfl⟩ : ∃ d : Nat, v = (d : Int) := ⟨v.toNat, by omega⟩
      have CE := hide (HE.out d (by omega) G (some ⟨g, 0, none⟩) c wr (Nat.lt_of_lt_of_le hbs HB.out.size) (pnRow_up (pnRow_go HR.out hbs HB.out) HB.out.size) (tx_up (tx_go HQ.out HB.out) HB.out.size) HX.out.1 (boX_bo HX.out))
      clear hc9 hv
      go_wp2_with (first | (go_at_call 73; refine CE.out.mono ?_; rintro r w2 ⟨g2, c2', G2, rfl, hx2, hf2, hb2⟩; have HX2 := hide (boX_low hx2 (show NB + 1 ≤ wr.heap.size from ndAt_lt HN.out)); have HA2 := hide (fwd_seq HA.out hf2); have HN3 := hide (ndAt_go HN.out hb2); have HB3 := hide (HB.out.trans (hb2.mono HB.out.size)); clear hx2 hf2 hb2))
      go_roundw
      case rel => exact ⟨k + 1, g2, c2', G2, by omega, by go_num, rfl, HX2, HN3, HB3, hide (by rw [HLM.out]; exact HA2.out)⟩
      case measure => simp [intOf]; omega
    · have hkl : k = L.length := by omega
      subst hkl
      rw [List.take_length] at HA
      have HFW := hide (fwd_congr HA.out HON.out)
      go_wp2
      go_ret
      exact ⟨g, c, G, rfl, boX_low HX.out (by have := hNBw.out; omega), HFW.out, HB.out⟩
end Go.Proofs.YtfohfljdgmlibaaDoor

/-
  Contracts: the places behind a choice, by the specification.
-/
namespace Go.Proofs.YtfohfljdgmlibaaDoor
open Go.RowKit Go.Joins
set_option linter.unusedVariables false
set_option linter.unusedSimpArgs false
/-- One row and another one, up to a place. -/
def Mix (G H G' : List Bool) (m j : Nat) : Prop := ∀ b, b ≤ m → G'[b]?.getD false = if b < j then (G[b]?.getD false || H[b]?.getD false) else G[b]?.getD false
theorem mix_zero (G H : List Bool) (m : Nat) : Mix G H G m 0 := fun b hb => by rw [if_neg (by omega)]
theorem mix_next {G H G' : List Bool} {m j : Nat} (h : Mix G H G' m j) (hl : G'.length = m + 1) (hj : j ≤ m) : Mix G H (G'.set j (G'[j]?.getD false || H[j]?.getD false)) m (j + 1) := fun b hb => by
  rw [set_at G' j _ (by omega) b]
  by_cases e : b = j
  · subst e
    rw [if_pos rfl, if_pos (by omega), h b hb, if_neg (by omega)]
  · rw [if_neg e, h b hb]
    by_cases e2 : b < j
    · rw [if_pos e2, if_pos (by omega)]
    · rw [if_neg e2, if_neg (by omega)]
theorem mix_done {G H G' : List Bool} {m : Nat} (h : Mix G H G' m (m + 1)) : ∀ b, b ≤ m → (G'[b]?.getD false = true ↔ G[b]?.getD false = true ∨ H[b]?.getD false = true) := fun b hb => by
  rw [h b hb, if_pos (by omega), Bool.or_eq_true]
set_option maxRecDepth 100000 in
set_option maxHeartbeats 8000000 in
theorem once_or (D : Pn) (n b0 off cap : Nat) (W : List ByteArray) (m : Nat) (b : Option Addr) (cq : Nat) (f : List Bool) (fa : Option Addr) (fc i : Nat) (w : World) (hRN : RN D n) (hi : i < n) (hKK : D.K i = 3) (hbs : b0 < w.heap.size) (hr : PnRow w b0 off D w.heap.size) (hW : W.length = m) (hm : m ≤ 200) (hq : TxAt w b W w.heap.size) (hf : f.length = m + 1) (hfa : BoAt w fa f w.heap.size) (hE : ∀ c, c < i → ∀ (f : List Bool) (fa : Option Addr) (fc : Nat) (w : World), b0 < w.heap.size → PnRow w b0 off D w.heap.size → TxAt w b W w.heap.size → f.length = m + 1 → BoAt w fa f w.heap.size → Calls Tryd.prog 73 #[.slice (some ⟨b0, off, none⟩) n cap, .int .i64 c, .slice b m cq, .slice fa ((m : Nat) + 1) fc] w (OnA m (en D W c) f w)) :
    Calls Tryd.prog 88 #[.slice (some ⟨b0, off, none⟩) n cap, .int .i64 i, .slice b m cq, .slice fa ((m : Nat) + 1) fc] w (OnA m (onc D W (en D W) i) f w) := by
  obtain ⟨i0, hi0, hz0, hz1, hz2⟩ := info_parts infoBo
  have HR := hide hr
  have HRN := hide hRN
  have HW := hide hW
  have HQ := hide hq
  have HF := hide hf
  have HFA := hide hfa
  have HKID := hide (hRN.2.2.2.1 i hi)
  have hll := hRN.2.2.2.2.2 i hi
  obtain ⟨ad, cp, hc, hat, hcp⟩ := hr i (by rw [hRN.1]; exact hi)
  obtain ⟨c0, c1, c2, c3⟩ := hc
  have hin : (i : Int) < (n : Int) := by omega
  have hi00 : (0 : Int) ≤ (i : Int) := by omega
  have HK := hide hKK
  obtain ⟨NM, hNM⟩ : ∃ NM, D.NM i = NM := ⟨_, rfl⟩
  obtain ⟨OC, hOC⟩ : ∃ OC, D.OC i = OC := ⟨_, rfl⟩
  obtain ⟨L, hL⟩ : ∃ L, D.KL i = L := ⟨_, rfl⟩
  have HNM := hide hNM
  have HL := hide hL
  rw [hKK] at c0
  rw [hNM] at c1
  rw [hL] at c2 hat HKID hll
  rw [hOC] at c3
  have HAT := hide hat
  clear hr hRN hW hq hf hfa hat hcp hKK hNM hOC hL
  have HE := hide hE
  have HON : Hid (∀ a b, (∃ k ∈ L, en D W k.toNat a b) ↔ onc D W (en D W) i a b) := hide (fun a b => by
    unfold onc
    rw [HK.out, HL.out]
    constructor
    · intro h; exact .inr (.inl ⟨rfl, h⟩)
    · rintro (⟨h, -⟩ | ⟨-, h⟩ | ⟨h, -⟩)
      · cases h
      · exact h
      · rcases h with h | h <;> cases h)
  clear hE
  go_enter Tryd.func88, Tryd.ntmps88
  go_wp2_with (first | (at_make; refine wpList_make_full _ rfl _ _ 90 rfl w.heap.size 4 i0 (.bool false) 1 Tryd.underlying90 hi0 hz0 hz1 .i64 .i64 _ _ (m + 1) rfl rfl (by go_num) (by go_num) (by rw [hz2]; omega) (by unfold maxLen; omega) (Nat.le_refl _) ?_; intro w1 hown hgrow; rw [made_false] at hown; have HX1 : Hid (BoX w.heap.size w1 w.heap.size (m + 1) (m + 1) (List.replicate (m + 1) false)) := hide ⟨by rw [List.length_replicate], hown⟩; have HB1 : Hid (Below w.heap.size w w1) := hide ((Below.refl _ _).grown hgrow (Nat.le_refl _) (fun k h => by cases h)); clear hown hgrow; have c0 := (HB1.out.cell (p := ⟨b0, off + i * 4, none⟩) hbs).trans c0; have c1 := (HB1.out.cell (p := ⟨b0, off + i * 4 + 1, none⟩) hbs).trans c1; have c2 := (HB1.out.cell (p := ⟨b0, off + i * 4 + 2, none⟩) hbs).trans c2; have c3 := (HB1.out.cell (p := ⟨b0, off + i * 4 + 3, none⟩) hbs).trans c3; have hb1l : b0 < w1.heap.size := Nat.lt_of_lt_of_le hbs HB1.out.size))
  obtain ⟨wy, hwy⟩ : ∃ wy, w1.alloc (.cells #[.int .i64 3, .string NM, .slice ad L.length cp, .int .i64 OC] 34) = wy := ⟨_, rfl⟩
  have HX2 := hide (boX_alloc HX1.out (.cells #[.int .i64 3, .string NM, .slice ad L.length cp, .int .i64 OC] 34))
  have HN2 := hide (ndAt_new w1 3 NM ad L.length cp OC 34)
  have HB2 := hide (HB1.out.alloc HB1.out.size (.cells #[.int .i64 3, .string NM, .slice ad L.length cp, .int .i64 OC] 34))
  rw [hwy] at HX2 HN2 HB2 ⊢
  obtain ⟨NB, hNB⟩ : ∃ NB, w1.heap.size = NB := ⟨_, rfl⟩
  have hNBg : w.heap.size < NB := by rw [← hNB]; exact (boX_at HX1.out).2.1
  rw [hNB] at HN2 ⊢
  clear hwy hNB c0 c1 c2 c3 HX1 HB1 hb1l
  go_loopw [13] (fun mv wr => ∃ (k : Nat) (G : List Bool), k ≤ L.length ∧ mv = .int .i64 k ∧ Hid (BoX w.heap.size wr w.heap.size (m + 1) (m + 1) G) ∧ Hid (NdAt wr NB 3 NM ad L.length cp OC) ∧ Hid (Below w.heap.size w wr) ∧ Hid (Fwd f G m (fun a b => ∃ z ∈ L.take k, en D W z.toNat a b))) (fun mv _ => L.length - (intOf mv).toNat)
  case atStart => exact ⟨0, List.replicate (m + 1) false, Nat.zero_le _, rfl, HX2, HN2, HB2, hide (fun b hb => by rw [rep_false, List.take_zero]; simp)⟩
  case round =>
    clear HX2 HN2 HB2
    obtain ⟨k, G, hk, rfl, HX, HN, HB, HA⟩ := hrel
    obtain ⟨a0, a1, a2, a3⟩ := ndAt_cells HN.out
    by_cases hlt : k < L.length
    · obtain ⟨b9, off9, rfl, hb9, hc9⟩ := HAT.out (fun h => by rw [h] at hlt; exact absurd hlt (Nat.not_lt_zero _))
      have k0 := (HB.out.cell (p := ⟨b9, off9 + k, none⟩) hb9).trans (hc9 k hlt)
      have hki : (k : Int) < (L.length : Int) := by omega
      have hk0 : (0 : Int) ≤ (k : Int) := by omega
      have hkk := HKID.out (L[k]?.getD 0) (by rw [List.getElem?_eq_getElem hlt]; exact List.getElem_mem hlt)
      obtain ⟨v, hv⟩ : ∃ v, L[k]?.getD 0 = v := ⟨_, rfl⟩
      have HLM : Hid (L.take (k + 1) = L.take k ++ [v]) := hide (by rw [List.take_succ_eq_append_getElem hlt, ← hv, List.getElem?_eq_getElem hlt]; rfl)
      rw [hv] at k0 hkk
      obtain ⟨d, rfl⟩ : ∃ d : Nat, v = (d : Int) := ⟨v.toNat, by omega⟩
      have CE := hide (HE.out d (by omega) f fa fc wr (Nat.lt_of_lt_of_le hbs HB.out.size) (pnRow_up (pnRow_go HR.out hbs HB.out) HB.out.size) (tx_up (tx_go HQ.out HB.out) HB.out.size) HF.out (bo_up (bo_go HFA.out HB.out) HB.out.size))
      clear hc9 hv
      go_wp2_with (first | (go_at_call 73; refine CE.out.mono ?_; rintro r w2 ⟨g2, c2', G2, rfl, hx2, hf2, hb2⟩; have HX2 := hide hx2; have HX3 := hide (boX_go HX.out hb2); have HF2 := hide hf2; have HN3 := hide (ndAt_go HN.out hb2); have HB3 := hide (HB.out.trans (hb2.mono HB.out.size)); have hg2 : w.heap.size < g2 := (by have h8 := (boX_at hx2).1; have h9 := (boX_at HX.out).2.1; omega); clear hx2 hf2 hb2))
      obtain ⟨Z, hZ⟩ : ∃ Z, wr.heap.size = Z := ⟨_, rfl⟩
      rw [hZ] at HX2
      clear hZ
      go_loopw [15] (fun mv wr => ∃ (j : Nat) (G' : List Bool), j ≤ m + 1 ∧ mv = .int .i64 j ∧ Hid (BoX w.heap.size wr w.heap.size (m + 1) (m + 1) G') ∧ Hid (BoX Z wr g2 c2' (m + 1) G2) ∧ Hid (NdAt wr NB 3 NM (some ⟨b9, off9, none⟩) L.length cp OC) ∧ Hid (Below w.heap.size w wr) ∧ Hid (Mix G G2 G' m j)) (fun mv _ => m + 1 - (intOf mv).toNat)
      case atStart => exact ⟨0, G, Nat.zero_le _, rfl, HX3, HX2, HN3, HB3, hide (mix_zero G G2 m)⟩
      case round =>
        clear HX2 HX3 HN3 HB3 HX HN HB k0
        obtain ⟨j, G', hj, rfl, HX, HX2, HN, HB, HM⟩ := hrel
        by_cases hlj : j < m + 1
        · have u0 := (boX_at HX.out).2.2 j hlj
          have uz := boX_frozen HX.out j
          have v0 := (boX_at HX2.out).2.2 j hlj
          have hji : (j : Int) < ((m : Nat) + 1 : Int) := by omega
          have hj0 : (0 : Int) ≤ (j : Int) := by omega
          have HMN := hide (mix_next HM.out HX.out.1 (by omega))
          obtain ⟨x, hx⟩ : ∃ x, G'[j]?.getD false = x := ⟨_, rfl⟩
          obtain ⟨y, hy⟩ : ∃ y, G2[j]?.getD false = y := ⟨_, rfl⟩
          rw [hx, hy] at HMN
          rw [hx] at u0
          rw [hy] at v0
          have HXS := hide (boX_set HX.out j (x || y))
          have HX2S := hide (boX_far HX2.out (p := ⟨w.heap.size, j, none⟩) (by show w.heap.size ≠ g2; omega) (.bool (x || y)))
          have HNS := hide (nd_far HN.out (p := ⟨w.heap.size, j, none⟩) (by show w.heap.size ≠ NB; omega) (.bool (x || y)))
          have HBS := hide (HB.out.setCell (p := ⟨w.heap.size, j, none⟩) (Nat.le_refl _) (.bool (x || y)))
          clear hx hy
          cases x
          · rw [Bool.false_or] at HMN HXS HX2S HNS HBS
            go_wp2
            go_roundw
            case rel => exact ⟨j + 1, _, by omega, by go_num, HXS, HX2S, HNS, HBS, HMN⟩
            case measure => simp [intOf]; omega
          · rw [Bool.true_or] at HMN HXS HX2S HNS HBS
            go_wp2
            go_roundw
            case rel => exact ⟨j + 1, _, by omega, by go_num, HXS, HX2S, HNS, HBS, HMN⟩
            case measure => simp [intOf]; omega
        · have hjm : j = m + 1 := by omega
          subst hjm
          have HD := hide (mix_done HM.out)
          have HA2 : Hid (Fwd f G' m (fun a b => ∃ z ∈ L.take (k + 1), en D W z.toNat a b)) := hide (fun b hb => by
            rw [HD.out b hb, HA.out b hb, HF2.out b hb, HLM.out]
            constructor
            · rintro (⟨a, h1, h2, z, hz, h3⟩ | ⟨a, h1, h2, h3⟩)
              · exact ⟨a, h1, h2, z, List.mem_append_left _ hz, h3⟩
              · exact ⟨a, h1, h2, (d : Int), by simp, h3⟩
            · rintro ⟨a, h1, h2, z, hz, h3⟩
              rcases List.mem_append.1 hz with hz | hz
              · exact .inl ⟨a, h1, h2, z, hz, h3⟩
              · simp at hz; subst hz; exact .inr ⟨a, h1, h2, h3⟩)
          go_wp2
          go_roundw
          case rel => exact ⟨k + 1, G', by omega, by go_num, HX, HN, HB, HA2⟩
          case measure => simp [intOf]; omega
    · have hkl : k = L.length := by omega
      subst hkl
      rw [List.take_length] at HA
      have HFW := hide (fwd_congr HA.out HON.out)
      go_wp2
      go_ret
      exact ⟨w.heap.size, m + 1, G, rfl, HX.out, HFW.out, HB.out⟩
end Go.Proofs.YtfohfljdgmlibaaDoor
