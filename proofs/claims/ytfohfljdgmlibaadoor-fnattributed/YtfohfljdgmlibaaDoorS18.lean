/-
  Texts put together: AcI, ClM.
-/
import Derived.Test.YtfohfljdgmlibaaDoorS17
import Derived.Test.YtfohfljdgmlibaaDoorS15
/-
  Contracts: whether a model takes a row (the program's).
-/
namespace Go.Proofs.YtfohfljdgmlibaaDoor
open Go.RowKit Go.Joins
set_option linter.unusedVariables false
set_option linter.unusedSimpArgs false
theorem i_named0 (T : Nat) (s : ByteArray) (w : World) (hC : CellsAt w T (tkC (.slice none 0 0) (fun _ => 0) 0)) :
    Calls Tryd.prog 72 #[.pointer (some ⟨T, 0, none⟩), .string s] w fun r w' => r = .returned (.int .u64 0) ∧ w' = w := by
  have t0 := (cellsAt_cell hC 0).trans (tkC_get _ _ _ 0 (by decide))
  have t1 : tkV (.slice none 0 0) (fun _ => 0) 0 0 = .slice none 0 0 := rfl
  rw [t1] at t0
  clear hC t1
  go_enter Tryd.func72, Tryd.ntmps72
  go_wp2
  go_loopw [5, 13] (fun sv mv wr => sv = .int .u64 0 ∧ mv = .int .i64 0 ∧ Hid (wr = w)) (fun _ _ _ => 0)
  case atStart => exact ⟨rfl, rfl, hide rfl⟩
  case round =>
    obtain ⟨rfl, rfl, HW⟩ := hrel
    go_wp2
    go_ret
    exact ⟨rfl, HW.out⟩
set_option maxRecDepth 100000 in
set_option maxHeartbeats 4000000 in
theorem i_after0 (T x : Nat) (s : ByteArray) (w : World) (hC : CellsAt w T (tkC (.slice none 0 0) (fun _ => 0) 0)) (hT : TzT w) (hx : x < 2199023255552) :
    Calls Tryd.prog 36 #[.pointer (some ⟨T, 0, none⟩), .int .u64 (x : Int), .string s] w fun r w' => r = .returned (.int .u64 0) ∧ Below w.heap.size w w' := by
  have CNM := hide (fun (W : World) (hW : Below w.heap.size w W) => i_named0 T s W (cellsAt_go hC hW (cellsAt_lt hC)))
  have CL := hide (i_list x w (by omega) hT)
  have HC := hide hC
  have HRG := hide (fun z hz => bts_range (n := 41) (x := x) (by omega) hx z hz)
  have hlen := bts_len (x := x) (by omega)
  clear hC hT
  go_enter Tryd.func36, Tryd.ntmps36
  go_wp2_with (first
    | (go_at_call 43; refine CL.out.mono ?_; rintro r w2 ⟨ad2, c2, rfl, ho2, hb2⟩; have HO2 := hide ho2; have HB2 := hide hb2; clear ho2 hb2))
  obtain ⟨L, hL⟩ : ∃ L, bts x = L := ⟨_, rfl⟩
  rw [hL] at HO2 HRG hlen ⊢
  have HRA := hide (own_rowAt9 HO2.out)
  have HCC := hide (cellsAt_go HC.out HB2.out (cellsAt_lt HC.out))
  clear hL CL
  go_loopw [7, 13] (fun sv mv wr => ∃ (i : Nat), i ≤ L.length ∧ mv = .int .i64 i ∧ sv = .int .u64 0 ∧ Hid (wr = w2)) (fun _ mv _ => L.length - (intOf mv).toNat)
  case atStart => exact ⟨0, Nat.zero_le _, rfl, rfl, hide rfl⟩
  case round =>
    obtain ⟨i, hi, rfl, rfl, HW⟩ := hrel
    by_cases hlt : i < L.length
    · obtain ⟨b, off9, rfl, hb, hc⟩ := rowAt_cell HRA.out i hlt
      have k0 : wr.cell? ⟨b, off9 + i, none⟩ = some (.int .i64 (L[i]?.getD 0)) := by rw [HW.out]; exact hc i hlt
      have hz := HRG.out (L[i]?.getD 0) (by rw [List.getElem?_eq_getElem hlt]; exact List.getElem_mem hlt)
      obtain ⟨v, hv⟩ : ∃ v, L[i]?.getD 0 = v := ⟨_, rfl⟩
      rw [hv] at k0 hz
      obtain ⟨p, rfl⟩ : ∃ p : Nat, v = (p : Int) := ⟨v.toNat, by omega⟩
      have hp41 : p < 41 := by omega
      have k1 : wr.cell? ⟨T, 1 + p, none⟩ = some (.int .u64 0) := by rw [HW.out]; exact (cellsAt_cell HCC.out (1 + p)).trans (tkC_at _ _ _ _ hp41)
      have b1 : bits .or .u64 (0 : Int) (0 : Int) = 0 := u64_or_nat 0 0 (by decide) (by decide)
      have hii : (i : Int) < (L.length : Int) := by omega
      have hi0 : (0 : Int) ≤ (i : Int) := by omega
      have hpi : (p : Int) < 41 := by omega
      have hp0 : (0 : Int) ≤ (p : Int) := by omega
      clear hc hv hz
      go_wp2
      go_roundw
      case rel => exact ⟨i + 1, by omega, by go_num, rfl, HW⟩
      case measure => simp [intOf]; omega
    · have HW2 : Hid (Below w.heap.size w wr) := hide (by rw [HW.out]; exact HB2.out)
      have CN2 := hide (CNM.out wr HW2.out)
      have b2 : bits .and .u64 (0 : Int) (0 : Int) = 0 := bits_and_u64_nat 0 0 (by decide) (by decide)
      go_wp2_with (first
        | (go_at_call 72; refine CN2.out.mono ?_; rintro r w3 ⟨rfl, h3⟩; rw [h3]; clear h3 w3))
      go_ret
      exact ⟨rfl, HW2.out⟩
theorem tkOf_lt {D : Pn} {F : Nat → Nat} {e : Nat} (h : TkOf D F e) : ∀ p, p < 41 → F p < 1099511627776 := fun p hp => by
  by_cases e : p = 40
  · subst e; exact h.2.1.1
  · exact (h.1 p (by omega)).1
/-- What the set of places is, behind so many names. -/
def HrP (D : Pn) (W : List ByteArray) (t x : Nat) : Prop := (t = 0 ∧ x = 1099511627776) ∨ (0 < t ∧ x < 1099511627776 ∧ ∀ q, x.testBit q = true ↔ rch D W t q)
theorem hr_lt {D : Pn} {W : List ByteArray} {t x : Nat} (h : HrP D W t x) : x < 2199023255552 := by
  rcases h with ⟨-, rfl⟩ | ⟨-, h, -⟩
  · decide
  · omega
theorem hr_next {D : Pn} {W : List ByteArray} {F : Nat → Nat} {e t x y : Nat} (hT : TkOf D F e) (ht : t < W.length) (h : HrP D W t x) (hy : y < 1099511627776) (hb : ∀ q, y.testBit q = true ↔ (∃ p : Nat, p < 41 ∧ x.testBit p = true ∧ (F p).testBit q = true) ∧ mtP D (W[t]?.getD ⟨#[]⟩) q = true) : HrP D W (t + 1) y := by
  refine .inr ⟨by omega, hy, fun q => ?_⟩
  rw [hb q, rch]
  have hm : mtN D W q t ↔ mtP D (W[t]?.getD ⟨#[]⟩) q = true := ⟨fun h => h.2, fun h => ⟨ht, h⟩⟩
  rw [hm]
  refine and_congr_left (fun _ => ?_)
  rcases h with ⟨rfl, rfl⟩ | ⟨h0, h1, h2⟩
  · have h40 : ∀ j : Nat, (1099511627776 : Nat).testBit j = true ↔ 40 = j := fun j => by
      rw [show (1099511627776 : Nat) = 2 ^ 40 by decide, Nat.testBit_two_pow, decide_eq_true_eq]
    constructor
    · rintro ⟨p, hp, h3, h4⟩
      have := (h40 p).1 h3
      subst this
      exact .inl ⟨rfl, (hT.2.1.2 q).1 h4⟩
    · rintro (⟨-, h3⟩ | ⟨p, h3, -⟩)
      · exact ⟨40, by omega, (h40 40).2 rfl, (hT.2.1.2 q).2 h3⟩
      · exact h3.elim
  · constructor
    · rintro ⟨p, hp, h3, h4⟩
      have hp40 : p < 40 := by
        rcases Nat.lt_or_ge p 40 with h | h
        · exact h
        · rw [Nat.testBit_lt_two_pow (Nat.lt_of_lt_of_le (show x < 2 ^ 40 from h1) (Nat.pow_le_pow_right (by decide) h))] at h3
          cases h3
      exact .inr ⟨p, (h2 p).1 h3, ((hT.1 p hp40).2 q).1 h4⟩
    · rintro (⟨h3, -⟩ | ⟨p, h3, h4⟩)
      · omega
      · have h5 := (h2 p).2 h3
        have hp40 : p < 40 := by
          rcases Nat.lt_or_ge p 40 with h | h
          · exact h
          · rw [Nat.testBit_lt_two_pow (Nat.lt_of_lt_of_le (show x < 2 ^ 40 from h1) (Nat.pow_le_pow_right (by decide) h))] at h5
            cases h5
        exact ⟨p, by omega, h5, ((hT.1 p hp40).2 q).2 h4⟩
theorem hr_end {D : Pn} {W : List ByteArray} {F : Nat → Nat} {e x : Nat} (hpk : pkB D = true) (hl : W.length ≤ 200) (hT : TkOf D F e) (h : HrP D W W.length x) : decide (x &&& e ≠ 0) = true ↔ AcP D W := by
  obtain ⟨-, -, l, hl9, rfl⟩ := hT
  unfold AcP
  rw [ac_iff hpk]
  rcases h with ⟨h0, rfl⟩ | ⟨h0, h1, h2⟩
  · rw [end_bit hl9]
    constructor
    · intro h; exact ⟨hpk, hl, .inl ⟨h0, h⟩⟩
    · rintro ⟨-, -, ⟨-, h⟩ | ⟨q, h, -⟩⟩
      · exact h
      · rw [h0] at h; exact h.elim
  · rw [decide_eq_true_eq]
    have hbit : ∀ q, q < 40 → (thL (nl D (D.n - 1)) l 1099511627776).testBit q = l.testBit q := fun q hq => by
      unfold thL
      split
      · rw [Nat.testBit_or, show (1099511627776 : Nat) = 2 ^ 40 by decide, Nat.testBit_two_pow, decide_eq_false (by omega), Bool.or_false]
      · rfl
    constructor
    · intro hne
      refine ⟨hpk, hl, .inr ?_⟩
      obtain ⟨q, hq⟩ := Nat.exists_testBit_of_ne_zero hne
      rw [Nat.testBit_and, Bool.and_eq_true] at hq
      have hq40 : q < 40 := by
        rcases Nat.lt_or_ge q 40 with h | h
        · exact h
        · have := hq.1
          rw [Nat.testBit_lt_two_pow (Nat.lt_of_lt_of_le (show x < 2 ^ 40 from h1) (Nat.pow_le_pow_right (by decide) h))] at this
          cases this
      rw [hbit q hq40] at hq
      exact ⟨q, (h2 q).1 hq.1, (hl9.2 q).1 hq.2⟩
    · rintro ⟨-, -, ⟨h, -⟩ | ⟨q, h3, h4⟩⟩
      · omega
      · intro he
        have h5 := (h2 q).2 h3
        have h6 := (hl9.2 q).2 h4
        have hq40 : q < 40 := by
          rcases Nat.lt_or_ge q 40 with h | h
          · exact h
          · rw [Nat.testBit_lt_two_pow (Nat.lt_of_lt_of_le (show x < 2 ^ 40 from h1) (Nat.pow_le_pow_right (by decide) h))] at h5
            cases h5
        have := congrArg (fun z => Nat.testBit z q) he
        simp only [Nat.testBit_and, Nat.zero_testBit, hbit q hq40, h5, h6] at this
        cases this
set_option maxRecDepth 100000 in
set_option maxHeartbeats 8000000 in
theorem i_accepts (D : Pn) (n : Nat) (a : Option Addr) (cap : Nat) (W : List ByteArray) (m : Nat) (b : Option Addr) (cq : Nat) (w : World) (hD : D.n = n) (hz : pnTot D ≤ 1048576) (hr : PnAt w a D w.heap.size) (hW : W.length = m) (hm : m ≤ 1048576) (hq : TxAt w b W w.heap.size) (hT : TzT w) :
    Calls Tryd.prog 9 #[.slice a n cap, .slice b m cq] w fun r w' => ∃ B : Bool, r = .returned (.bool B) ∧ (B = true ↔ AcP D W) ∧ Below w.heap.size w w' := by
  by_cases h200 : 200 < m
  · have HF : Hid ((false = true) ↔ AcP D W) := hide ⟨fun h => (by cases h), fun h => (by have := h.2.1; rw [hW] at this; omega)⟩
    have h2i : (200 : Int) < (m : Int) := by omega
    clear hD hz hr hW hq hT
    go_enter Tryd.func9, Tryd.ntmps9
    go_wp2
    go_ret
    exact ⟨false, rfl, HF.out, Below.refl _ _⟩
  have h2i : (m : Int) ≤ 200 := by omega
  have hzz := tk_zero
  have hne := tkN_ne
  have CN := hide (fun (W : World) => i_only 40 W (by omega))
  have CT := hide (i_tracks2 D n a cap w hD hz hr hT)
  have HT := hide hT
  have HW := hide hW
  have HQ := hide hq
  cases hpk : pkB D
  · have HF : Hid ((false = true) ↔ AcP D W) := hide ⟨fun h => (by cases h), fun h => (by have := h.1; rw [hpk] at this; cases this)⟩
    have CT2 := hide (i_tracksN D n a cap w hD hz hr hpk)
    clear hD hz hr hW hq hT hpk CT
    go_enter Tryd.func9, Tryd.ntmps9
    go_wp2_with (first
      | (go_at_call 34; refine CT2.out.mono ?_; rintro r w1 ⟨rfl, hb1⟩; have HB1 := hide hb1; have hsz : (Tryd.prog.info? 55).map (·.size) = some (tkN (.slice none 0 0)).size := (by unfold tkN; rw [tkC_size]; exact tk_size); have hall : (tkN (.slice none 0 0)).all (·.oneCell') = true := tkC_one none 0 0 _ _; have HC := hide (cellsAt_new w1 (tkN (.slice none 0 0)) 55); have HB1a := hide (HB1.out.alloc HB1.out.size (.cells (tkN (.slice none 0 0)) 55)); clear hb1)
      | (refine wpList_store_row rfl 55 _ _ rfl w1.heap.size (tkN (.slice none 0 0)) rfl rfl 55 _ (heap_alloc_last w1 _) hsz rfl hall ?_; rw [World.setRow_alloc_new])
      | (go_at_call 35; refine (CN.out _).mono ?_; rintro r9 w9 ⟨rfl, h9⟩; rw [h9]; clear h9 w9))
    obtain ⟨wa, hwa⟩ : ∃ wa, w1.alloc (.cells (tkN (.slice none 0 0)) 55) = wa := ⟨_, rfl⟩
    rw [hwa] at HC HB1a ⊢
    clear hwa hsz hall hzz hne
    go_loopw [7, 21] (fun hv mv wr => ∃ (t x : Nat), t ≤ m ∧ mv = .int .i64 t ∧ hv = .int .u64 (x : Int) ∧ x < 2199023255552 ∧ Hid (Below wa.heap.size wa wr)) (fun _ mv _ => m - (intOf mv).toNat)
    case atStart => exact ⟨0, 1099511627776, Nat.zero_le _, rfl, rfl, by decide, hide (Below.refl _ _)⟩
    case round =>
      obtain ⟨t, x, ht, rfl, rfl, hx, HB⟩ := hrel
      have HBw := hide (HB1a.out.trans (HB.out.mono HB1a.out.size))
      by_cases hlt : t < m
      · have htL : t < W.length := by rw [HW.out]; exact hlt
        obtain ⟨b9, off9, rfl, hb9, hc9⟩ := tx_cell (tx_go HQ.out HBw.out) t htL
        have k0 := hc9 t htL
        have hti : (t : Int) < (m : Int) := by omega
        have ht0 : (0 : Int) ≤ (t : Int) := by omega
        have CA := hide (i_after0 w1.heap.size x (W[t]?.getD ⟨#[]⟩) wr (cellsAt_go HC.out HB.out (cellsAt_lt HC.out)) (tzT_go HT.out HBw.out (Nat.le_refl _)) hx)
        obtain ⟨s, hs⟩ : ∃ s, W[t]?.getD ⟨#[]⟩ = s := ⟨_, rfl⟩
        rw [hs] at k0 CA
        clear hc9 hs htL
        go_wp2_with (first | (go_at_call 36; refine CA.out.mono ?_; rintro r w3 ⟨rfl, hb3⟩; have HB3 := hide (HB.out.trans (hb3.mono HB.out.size)); clear hb3))
        go_roundw
        case rel => exact ⟨t + 1, 0, by omega, by go_num, rfl, by decide, HB3⟩
        case measure => simp [intOf]; omega
      · have CM := hide (i_mayEnd w1.heap.size x (.slice none 0 0) (fun _ => 0) 0 wr (by omega) (by decide) (cellsAt_go HC.out HB.out (cellsAt_lt HC.out)))
        rw [show decide (x &&& 0 ≠ 0) = false by simp] at CM
        go_wp2_with (first | (go_at_call 37; refine CM.out.mono ?_; rintro r9 w9 ⟨rfl, h9⟩; rw [h9]; clear h9 w9))
        go_ret
        exact ⟨false, rfl, HF.out, HBw.out⟩
  · have hn1 : 1 ≤ n ∧ n ≤ 40 := by rw [← hD]; exact (pk_facts hpk).1
    have HRN := hide (rn_of hD hpk hz)
    have HPK := hide hpk
    obtain ⟨b0, off, rfl, hb0, hrow⟩ := hr (by rw [hD]; omega)
    have HROW := hide hrow
    rw [hpk] at CT
    clear hr hD hz hT hpk hrow hW hq
    go_enter Tryd.func9, Tryd.ntmps9
    go_wp2_with (first
      | (go_at_call 34; refine CT.out.mono ?_; rintro r w1 ⟨b9, m9, c9, F, e, rfl, hA, hb1⟩; obtain ⟨rfl, rfl, rfl, hTK⟩ := hA.1 HPK.out; have HTK := hide hTK; have HB1 := hide hb1; have HEL := hide (tk_null hA).2; obtain ⟨hsz, hzs⟩ := tk_fit (some ⟨b0, off, none⟩) m9 c9 F e; have hall := tkC_one (some ⟨b0, off, none⟩) m9 c9 F e; have HC := hide (cellsAt_new w1 (tkC (.slice (some ⟨b0, off, none⟩) m9 c9) F e) 55); obtain ⟨CS, hCS⟩ : ∃ CS, tkC (.slice (some ⟨b0, off, none⟩) m9 c9) F e = CS := ⟨_, rfl⟩; have HCS := hide hCS; rw [hCS] at hsz hzs hall HC ⊢; have HB1a := hide (HB1.out.alloc HB1.out.size (.cells CS 55)); clear hA hb1 hCS hTK)
      | (refine wpList_store_row rfl 55 _ _ rfl w1.heap.size CS rfl rfl 55 _ (heap_alloc_last w1 _) hsz hzs hall ?_; rw [World.setRow_alloc_new])
      | (go_at_call 35; refine (CN.out _).mono ?_; rintro r9 w9 ⟨rfl, h9⟩; rw [h9]; clear h9 w9))
    obtain ⟨wa, hwa⟩ : ∃ wa, w1.alloc (.cells CS 55) = wa := ⟨_, rfl⟩
    rw [hwa] at HC HB1a ⊢
    rw [← HCS.out] at HC
    clear hwa hsz hall hzz hne hzs
    go_loopw [7, 21] (fun hv mv wr => ∃ (t x : Nat), t ≤ m ∧ mv = .int .i64 t ∧ hv = .int .u64 (x : Int) ∧ Hid (HrP D W t x) ∧ Hid (Below wa.heap.size wa wr)) (fun _ mv _ => m - (intOf mv).toNat)
    case atStart => exact ⟨0, 1099511627776, Nat.zero_le _, rfl, rfl, hide (.inl ⟨rfl, rfl⟩), hide (Below.refl _ _)⟩
    case round =>
      obtain ⟨t, x, ht, rfl, rfl, HH, HB⟩ := hrel
      have HBw := hide (HB1a.out.trans (HB.out.mono HB1a.out.size))
      have hx := hr_lt HH.out
      by_cases hlt : t < m
      · have htL : t < W.length := by rw [HW.out]; exact hlt
        obtain ⟨b9, off9, rfl, hb9, hc9⟩ := tx_cell (tx_go HQ.out HBw.out) t htL
        have k0 := hc9 t htL
        have hti : (t : Int) < (m : Int) := by omega
        have ht0 : (0 : Int) ≤ (t : Int) := by omega
        have CA := hide (i_after D _ b0 off _ w1.heap.size x F e (W[t]?.getD ⟨#[]⟩) wr HRN.out (Nat.lt_of_lt_of_le hb0 HBw.out.size) (pnRow_up (pnRow_go HROW.out hb0 HBw.out) HBw.out.size) (cellsAt_go HC.out HB.out (cellsAt_lt HC.out)) (tzT_go HT.out HBw.out (Nat.le_refl _)) hx (tkOf_lt HTK.out))
        have HNX := hide (fun y hy hb => hr_next HTK.out htL HH.out (y := y) hy hb)
        obtain ⟨s, hs⟩ : ∃ s, W[t]?.getD ⟨#[]⟩ = s := ⟨_, rfl⟩
        rw [hs] at k0 CA HNX
        clear hc9 hs htL
        go_wp2_with (first | (go_at_call 36; refine CA.out.mono ?_; rintro r w3 ⟨y, rfl, hy, hyb, hb3⟩; have HN2 := hide (HNX.out y hy hyb); have HB3 := hide (HB.out.trans (hb3.mono HB.out.size)); clear hy hyb hb3))
        go_roundw
        case rel => exact ⟨t + 1, y, by omega, by go_num, rfl, HN2, HB3⟩
        case measure => simp [intOf]; omega
      · have htm : t = m := by omega
        subst htm
        have CM := hide (i_mayEnd w1.heap.size x _ F e wr (by omega) HEL.out (cellsAt_go HC.out HB.out (cellsAt_lt HC.out)))
        have HE := hide (hr_end (x := x) HPK.out (by rw [HW.out]; omega) HTK.out (by rw [HW.out]; exact HH.out))
        go_wp2_with (first | (go_at_call 37; refine CM.out.mono ?_; rintro r9 w9 ⟨rfl, h9⟩; rw [h9]; clear h9 w9))
        go_ret
        exact ⟨_, rfl, by simpa using HE.out, HBw.out⟩
end Go.Proofs.YtfohfljdgmlibaaDoor

/-
  Plain facts on clear models, of no program's run.
-/
namespace Go.Proofs.YtfohfljdgmlibaaDoor
set_option linter.unusedVariables false
set_option linter.unusedSimpArgs false
/-- No name leads to both. -/
def apP (D : Pn) (x y : Int) : Bool := decide (D.K x.toNat ≠ 4) && (decide (D.K y.toNat ≠ 4) && !((D.NM x.toNat).toList == (D.NM y.toNat).toList))
def apB (D : Pn) (L : List Int) : Bool := (List.range L.length).all fun i => (L.take i).all fun y => apP D (L[i]?.getD 0) y
theorem apB_no {D : Pn} {L : List Int} {i k : Nat} (hi : i < L.length) (hk : k < i) (h : apP D (L[i]?.getD 0) (L[k]?.getD 0) = false) : apB D L = false := by
  unfold apB
  rw [List.all_eq_false]
  refine ⟨i, by simpa using hi, ?_⟩
  rw [Bool.not_eq_true, List.all_eq_false]
  refine ⟨L[k]?.getD 0, ?_, by simp [h]⟩
  rw [List.getElem?_eq_getElem (by omega)]
  exact List.mem_take_iff_getElem.2 ⟨k, by omega, rfl⟩
theorem apB_yes {D : Pn} {L : List Int} (h : ∀ i, i < L.length → ∀ k, k < i → apP D (L[i]?.getD 0) (L[k]?.getD 0) = true) : apB D L = true := by
  unfold apB
  rw [List.all_eq_true]
  intro i hi
  have hi : i < L.length := by simpa using hi
  rw [List.all_eq_true]
  intro y hy
  obtain ⟨k, hk, e⟩ := List.mem_take_iff_getElem.1 hy
  have := h i hi k (by omega)
  rw [List.getElem?_eq_getElem (show k < L.length by omega)] at this
  rw [← e]
  exact this
theorem apB_nil (D : Pn) : apB D [] = true := rfl
/-- A clear model. -/
def clB (D : Pn) : Bool := pkB D && (apB D (foV D) && (List.range D.n).all fun i => !(posB D i) || apB D (flV D i))
theorem clB_wrong {D : Pn} (h : pkB D = false) : clB D = false := by unfold clB; rw [h]; rfl
theorem clB_first {D : Pn} (h : apB D (foV D) = false) : clB D = false := by unfold clB; rw [h]; simp
theorem clB_no {D : Pn} {i : Nat} (hi : i < D.n) (hp : posB D i = true) (h : apB D (flV D i) = false) : clB D = false := by
  have : ((List.range D.n).all fun i => !(posB D i) || apB D (flV D i)) = false := by
    rw [List.all_eq_false]
    exact ⟨i, by simpa using hi, by simp [hp, h]⟩
  unfold clB
  rw [this]
  simp
theorem clB_yes {D : Pn} (h0 : pkB D = true) (h1 : apB D (foV D) = true) (h : ∀ i, i < D.n → posB D i = true → apB D (flV D i) = true) : clB D = true := by
  have : ((List.range D.n).all fun i => !(posB D i) || apB D (flV D i)) = true := by
    rw [List.all_eq_true]
    intro i hi
    have hi : i < D.n := by simpa using hi
    cases hp : posB D i
    · rfl
    · simpa using h i hi hp
  unfold clB
  rw [h0, h1, this]
  rfl
theorem flV_nopos {D : Pn} {x : Int} (h : posB D x = false) : flV D x = [] := by unfold flV; rw [if_neg (by rw [h]; simp)]
theorem foV_range {D : Pn} (h : pkB D = true) : ∀ z ∈ foV D, 0 ≤ z ∧ z < (D.n : Int) := by
  intro z hz
  unfold foV at hz
  rw [if_pos h, srt_mem] at hz
  have h1 := (pk_facts h).1
  have := ed_range (D.n - 1 + 1) (D.n - 1) (by omega) (lo_root h) z hz
  omega
theorem flV_range {D : Pn} (h : pkB D = true) {x : Int} : ∀ z ∈ flV D x, 0 ≤ z ∧ z < (D.n : Int) := by
  intro z hz
  unfold flV at hz
  split at hz
  · rw [srt_mem] at hz; exact foL_range h z hz
  · exact absurd hz (List.not_mem_nil)
/-- Every set of the ways is one that the specification asks of, or empty. -/
theorem tk_sets {D : Pn} {F : Nat → Nat} {e : Nat} (hpk : pkB D = true) (hT : TkOf D F e) {p : Nat} (hp : p < 41) : F p < 18446744073709551616 ∧ ((p < D.n ∧ bts (F p) = flV D p) ∨ (p = 40 ∧ bts (F p) = foV D) ∨ bts (F p) = []) := by
  by_cases h40 : p = 40
  · subst h40
    have hb := hT.2.1
    refine ⟨Nat.lt_of_lt_of_le hb.1 (by decide), .inr (.inl ⟨rfl, ?_⟩)⟩
    unfold foV
    rw [if_pos hpk]
    exact bts_srt hb (ed_pos hpk)
  · by_cases hn : p < D.n
    · have := tk_follow hpk hT hn
      exact ⟨this.2, .inl ⟨hn, this.1⟩⟩
    · obtain ⟨h1, h2⟩ := hT.1 p (by omega)
      refine ⟨Nat.lt_of_lt_of_le h1 (by decide), .inr (.inr ?_)⟩
      have : F p = 0 := by
        apply Nat.eq_of_testBit_eq
        intro q
        rw [Nat.zero_testBit]
        cases hb : (F p).testBit q
        · rfl
        · exfalso
          have hn1 := (pk_facts hpk).1
          obtain ⟨j, hj, h8⟩ := lk_node D.n (D.n - 1) (by have := (pk_facts hpk).1; omega) (lo_root hpk) ((h2 q).1 hb)
          rcases h8 with ⟨-, h8, -⟩ | ⟨-, L1, a, L2, b, L3, e9, -, h8, -⟩
          · have := ed_range (j + 1) j (by omega) (lo_less (lo_root hpk) hj) _ h8
            omega
          · have hk := lo_root hpk j hj a (by rw [e9]; simp)
            have := ed_range (a.toNat + 1) a.toNat (by omega) (lo_less (lo_root hpk) (by omega)) _ h8
            omega
      rw [this]
      rfl
theorem cl_all {D : Pn} {F : Nat → Nat} {e : Nat} (hpk : pkB D = true) (hT : TkOf D F e) (h : ∀ p, p < 41 → apB D (bts (F p)) = true) : clB D = true := by
  refine clB_yes hpk ?_ (fun i hi hp => ?_)
  · have := h 40 (by omega)
    rcases (tk_sets hpk hT (p := 40) (by omega)).2 with ⟨h1, h2⟩ | ⟨-, h2⟩ | h2
    · have := (pk_facts hpk).1; omega
    · rw [h2] at this; exact this
    · have hb := hT.2.1
      have h3 : foV D = bts (F 40) := by
        unfold foV
        rw [if_pos hpk]
        exact (bts_srt hb (ed_pos hpk)).symm
      rw [h3]; exact this
  · have := h i (by have := (pk_facts hpk).1; omega)
    rw [(tk_follow hpk hT hi).1] at this
    exact this
theorem cl_none {D : Pn} {F : Nat → Nat} {e : Nat} (hpk : pkB D = true) (hT : TkOf D F e) {p : Nat} (hp : p < 41) (h : apB D (bts (F p)) = false) : clB D = false := by
  rcases (tk_sets hpk hT hp).2 with ⟨h1, h2⟩ | ⟨-, h2⟩ | h2
  · rw [h2] at h
    cases hpo : posB D p
    · rw [flV_nopos hpo] at h; cases h
    · exact clB_no h1 hpo h
  · rw [h2] at h; exact clB_first h
  · rw [h2] at h; cases h
end Go.Proofs.YtfohfljdgmlibaaDoor
