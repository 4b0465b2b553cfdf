/-
  Texts put together: AcI, MtMath, MtS, MtI.
-/
import Derived.Test.YtfohfljdgmlibaaDoorU18
import Derived.Test.YtfohfljdgmlibaaDoorU29
import Derived.Test.YtfohfljdgmlibaaDoorU3
import Derived.Lib.Join
import Derived.Test.YtfohfljdgmlibaaDoorU5
import Derived.Test.YtfohfljdgmlibaaDoorU23
import Derived.Test.YtfohfljdgmlibaaDoorU11
import Derived.Test.YtfohfljdgmlibaaDoorU1
/-
  Contracts: whether a model takes a row (the program's).
-/
namespace Go.Proofs.YtfohfljdgmlibaaDoor
open Go.RowKit Go.Joins
set_option linter.unusedVariables false
set_option linter.unusedSimpArgs false
theorem i_named0 (T : Nat) (s : ByteArray) (w : World) (hC : CellsAt w T (tkC (.slice none 0 0) (fun _ => 0) 0)) :
    Calls Tryd.prog 72 #[.pointer (some ⟨T, 0, none⟩), .string s] w fun r w' => r = .returned (.int .u64 0) ∧ w' = w := by
  have t0 := (cellsAt_cell hC 0).trans (tkC_get _ _ _ 0 (by decide))
  have t1 : tkV (.slice none 0 0) (fun _ => 0) 0 0 = .slice none 0 0 := rfl
  rw [t1] at t0
  clear hC t1
  go_enter Tryd.func72, Tryd.ntmps72
  go_wp2
  go_loopw [5, 13] (fun sv mv wr => sv = .int .u64 0 ∧ mv = .int .i64 0 ∧ Hid (wr = w)) (fun _ _ _ => 0)
  case atStart => exact ⟨rfl, rfl, hide rfl⟩
  case round =>
    obtain ⟨rfl, rfl, HW⟩ := hrel
    go_wp2
    go_ret
    exact ⟨rfl, HW.out⟩
set_option maxRecDepth 100000 in
set_option maxHeartbeats 4000000 in
theorem i_after0 (T x : Nat) (s : ByteArray) (w : World) (hC : CellsAt w T (tkC (.slice none 0 0) (fun _ => 0) 0)) (hT : TzT w) (hx : x < 2199023255552) :
    Calls Tryd.prog 36 #[.pointer (some ⟨T, 0, none⟩), .int .u64 (x : Int), .string s] w fun r w' => r = .returned (.int .u64 0) ∧ Below w.heap.size w w' := by
  have CNM := hide (fun (W : World) (hW : Below w.heap.size w W) => i_named0 T s W (cellsAt_go hC hW (cellsAt_lt hC)))
  have CL := hide (i_list x w (by omega) hT)
  have HC := hide hC
  have HRG := hide (fun z hz => bts_range (n := 41) (x := x) (by omega) hx z hz)
  have hlen := bts_len (x := x) (by omega)
  clear hC hT
  go_enter Tryd.func36, Tryd.ntmps36
  go_wp2_with (first
    | (go_at_call 43; refine CL.out.mono ?_; rintro r w2 ⟨ad2, c2, rfl, ho2, hb2⟩; have HO2 := hide ho2; have HB2 := hide hb2; clear ho2 hb2))
  obtain ⟨L, hL⟩ : ∃ L, bts x = L := ⟨_, rfl⟩
  rw [hL] at HO2 HRG hlen ⊢
  have HRA := hide (own_rowAt9 HO2.out)
  have HCC := hide (cellsAt_go HC.out HB2.out (cellsAt_lt HC.out))
  clear hL CL
  go_loopw [7, 13] (fun sv mv wr => ∃ (i : Nat), i ≤ L.length ∧ mv = .int .i64 i ∧ sv = .int .u64 0 ∧ Hid (wr = w2)) (fun _ mv _ => L.length - (intOf mv).toNat)
  case atStart => exact ⟨0, Nat.zero_le _, rfl, rfl, hide rfl⟩
  case round =>
    obtain ⟨i, hi, rfl, rfl, HW⟩ := hrel
    by_cases hlt : i < L.length
    · obtain ⟨b, off9, rfl, hb, hc⟩ := rowAt_cell HRA.out i hlt
      have k0 : wr.cell? ⟨b, off9 + i, none⟩ = some (.int .i64 (L[i]?.getD 0)) := by rw [HW.out]; exact hc i hlt
      have hz := HRG.out (L[i]?.getD 0) (by rw [List.getElem?_eq_getElem hlt]; exact List.getElem_mem hlt)
      obtain ⟨v, hv⟩ : ∃ v, L[i]?.getD 0 = v := ⟨_, rfl⟩
      rw [hv] at k0 hz
      obtain ⟨p, rfl⟩ : ∃ p : Nat, v = (p : Int) := ⟨v.toNat, by omega⟩
      have hp41 : p < 41 := by omega
      have k1 : wr.cell? ⟨T, 1 + p, none⟩ = some (.int .u64 0) := by rw [HW.out]; exact (cellsAt_cell HCC.out (1 + p)).trans (tkC_at _ _ _ _ hp41)
      have b1 : bits .or .u64 (0 : Int) (0 : Int) = 0 := u64_or_nat 0 0 (by decide) (by decide)
      have hii : (i : Int) < (L.length : Int) := by omega
      have hi0 : (0 : Int) ≤ (i : Int) := by omega
      have hpi : (p : Int) < 41 := by omega
      have hp0 : (0 : Int) ≤ (p : Int) := by omega
      clear hc hv hz
      go_wp2
      go_roundw
      case rel => exact ⟨i + 1, by omega, by go_num, rfl, HW⟩
      case measure => simp [intOf]; omega
    · have HW2 : Hid (Below w.heap.size w wr) := hide (by rw [HW.out]; exact HB2.out)
      have CN2 := hide (CNM.out wr HW2.out)
      have b2 : bits .and .u64 (0 : Int) (0 : Int) = 0 := bits_and_u64_nat 0 0 (by decide) (by decide)
      go_wp2_with (first
        | (go_at_call 72; refine CN2.out.mono ?_; rintro r w3 ⟨rfl, h3⟩; rw [h3]; clear h3 w3))
      go_ret
      exact ⟨rfl, HW2.out⟩
theorem tkOf_lt {D : Pn} {F : Nat → Nat} {e : Nat} (h : TkOf D F e) : ∀ p, p < 41 → F p < 1099511627776 := fun p hp => by
  by_cases e : p = 40
  · subst e; exact h.2.1.1
  · exact (h.1 p (by omega)).1
/-- What the set of places is, behind so many names. -/
def HrP (D : Pn) (W : List ByteArray) (t x : Nat) : Prop := (t = 0 ∧ x = 1099511627776) ∨ (0 < t ∧ x < 1099511627776 ∧ ∀ q, x.testBit q = true ↔ rch D W t q)
theorem hr_lt {D : Pn} {W : List ByteArray} {t x : Nat} (h : HrP D W t x) : x < 2199023255552 := by
  rcases h with ⟨-, rfl⟩ | ⟨-, h, -⟩
  · decide
  · omega
theorem hr_next {D : Pn} {W : List ByteArray} {F : Nat → Nat} {e t x y : Nat} (hT : TkOf D F e) (ht : t < W.length) (h : HrP D W t x) (hy : y < 1099511627776) (hb : ∀ q, y.testBit q = true ↔ (∃ p : Nat, p < 41 ∧ x.testBit p = true ∧ (F p).testBit q = true) ∧ mtP D (W[t]?.getD ⟨#[]⟩) q = true) : HrP D W (t + 1) y := by
  refine .inr ⟨by omega, hy, fun q => ?_⟩
  rw [hb q, rch]
  have hm : mtN D W q t ↔ mtP D (W[t]?.getD ⟨#[]⟩) q = true := ⟨fun h => h.2, fun h => ⟨ht, h⟩⟩
  rw [hm]
  refine and_congr_left (fun _ => ?_)
  rcases h with ⟨rfl, rfl⟩ | ⟨h0, h1, h2⟩
  · have h40 : ∀ j : Nat, (1099511627776 : Nat).testBit j = true ↔ 40 = j := fun j => by
      rw [show (1099511627776 : Nat) = 2 ^ 40 by decide, Nat.testBit_two_pow, decide_eq_true_eq]
    constructor
    · rintro ⟨p, hp, h3, h4⟩
      have := (h40 p).1 h3
      subst this
      exact .inl ⟨rfl, (hT.2.1.2 q).1 h4⟩
    · rintro (⟨-, h3⟩ | ⟨p, h3, -⟩)
      · exact ⟨40, by omega, (h40 40).2 rfl, (hT.2.1.2 q).2 h3⟩
      · exact h3.elim
  · constructor
    · rintro ⟨p, hp, h3, h4⟩
      have hp40 : p < 40 := by
        rcases Nat.lt_or_ge p 40 with h | h
        · exact h
        · rw [Nat.testBit_lt_two_pow (Nat.lt_of_lt_of_le (show x < 2 ^ 40 from h1) (Nat.pow_le_pow_right (by decide) h))] at h3
          cases h3
      exact .inr ⟨p, (h2 p).1 h3, ((hT.1 p hp40).2 q).1 h4⟩
    · rintro (⟨h3, -⟩ | ⟨p, h3, h4⟩)
      · omega
      · have h5 := (h2 p).2 h3
        have hp40 : p < 40 := by
          rcases Nat.lt_or_ge p 40 with h | h
          · exact h
          · rw [Nat.testBit_lt_two_pow (Nat.lt_of_lt_of_le (show x < 2 ^ 40 from h1) (Nat.pow_le_pow_right (by decide) h))] at h5
            cases h5
        exact ⟨p, by omega, h5, ((hT.1 p hp40).2 q).2 h4⟩
theorem hr_end {D : Pn} {W : List ByteArray} {F : Nat → Nat} {e x : Nat} (hpk : pkB D = true) (hl : W.length ≤ 200) (hT : TkOf D F e) (h : HrP D W W.length x) : decide (x &&& e ≠ 0) = true ↔ AcP D W := by
  obtain ⟨-, -, l, hl9, rfl⟩ := hT
  unfold AcP
  rw [ac_iff hpk]
  rcases h with ⟨h0, rfl⟩ | ⟨h0, h1, h2⟩
  · rw [end_bit hl9]
    constructor
    · intro h; exact ⟨hpk, hl, .inl ⟨h0, h⟩⟩
    · rintro ⟨-, -, ⟨-, h⟩ | ⟨q, h, -⟩⟩
      · exact h
      · rw [h0] at h; exact h.elim
  · rw [decide_eq_true_eq]
    have hbit : ∀ q, q < 40 → (thL (nl D (D.n - 1)) l 1099511627776).testBit q = l.testBit q := fun q hq => by
      unfold thL
      split
      · rw [Nat.testBit_or, show (1099511627776 : Nat) = 2 ^ 40 by decide, Nat.testBit_two_pow, decide_eq_false (by omega), Bool.or_false]
      · rfl
    constructor
    · intro hne
      refine ⟨hpk, hl, .inr ?_⟩
      obtain ⟨q, hq⟩ := Nat.exists_testBit_of_ne_zero hne
      rw [Nat.testBit_and, Bool.and_eq_true] at hq
      have hq40 : q < 40 := by
        rcases Nat.lt_or_ge q 40 with h | h
        · exact h
        · have := hq.1
          rw [Nat.testBit_lt_two_pow (Nat.lt_of_lt_of_le (show x < 2 ^ 40 from h1) (Nat.pow_le_pow_right (by decide) h))] at this
          cases this
      rw [hbit q hq40] at hq
      exact ⟨q, (h2 q).1 hq.1, (hl9.2 q).1 hq.2⟩
    · rintro ⟨-, -, ⟨h, -⟩ | ⟨q, h3, h4⟩⟩
      · omega
      · intro he
        have h5 := (h2 q).2 h3
        have h6 := (hl9.2 q).2 h4
        have hq40 : q < 40 := by
          rcases Nat.lt_or_ge q 40 with h | h
          · exact h
          · rw [Nat.testBit_lt_two_pow (Nat.lt_of_lt_of_le (show x < 2 ^ 40 from h1) (Nat.pow_le_pow_right (by decide) h))] at h5
            cases h5
        have := congrArg (fun z => Nat.testBit z q) he
        simp only [Nat.testBit_and, Nat.zero_testBit, hbit q hq40, h5, h6] at this
        cases this
set_option maxRecDepth 100000 in
set_option maxHeartbeats 8000000 in
theorem i_accepts (D : Pn) (n : Nat) (a : Option Addr) (cap : Nat) (W : List ByteArray) (m : Nat) (b : Option Addr) (cq : Nat) (w : World) (hD : D.n = n) (hz : pnTot D ≤ 1048576) (hr : PnAt w a D w.heap.size) (hW : W.length = m) (hm : m ≤ 1048576) (hq : TxAt w b W w.heap.size) (hT : TzT w) :
    Calls Tryd.prog 9 #[.slice a n cap, .slice b m cq] w fun r w' => ∃ B : Bool, r = .returned (.bool B) ∧ (B = true ↔ AcP D W) ∧ Below w.heap.size w w' := by
  by_cases h200 : 200 < m
  · have HF : Hid ((false = true) ↔ AcP D W) := hide ⟨fun h => (by cases h), fun h => (by have := h.2.1; rw [hW] at this; omega)⟩
    have h2i : (200 : Int) < (m : Int) := by omega
    clear hD hz hr hW hq hT
    go_enter Tryd.func9, Tryd.ntmps9
    go_wp2
    go_ret
    exact ⟨false, rfl, HF.out, Below.refl _ _⟩
  have h2i : (m : Int) ≤ 200 := by omega
  have hzz := tk_zero
  have hne := tkN_ne
  have CN := hide (fun (W : World) => i_only 40 W (by omega))
  have CT := hide (i_tracks2 D n a cap w hD hz hr hT)
  have HT := hide hT
  have HW := hide hW
  have HQ := hide hq
  cases hpk : pkB D
  · have HF : Hid ((false = true) ↔ AcP D W) := hide ⟨fun h => (by cases h), fun h => (by have := h.1; rw [hpk] at this; cases this)⟩
    have CT2 := hide (i_tracksN D n a cap w hD hz hr hpk)
    clear hD hz hr hW hq hT hpk CT
    go_enter Tryd.func9, Tryd.ntmps9
    go_wp2_with (first
      | (go_at_call 34; refine CT2.out.mono ?_; rintro r w1 ⟨rfl, hb1⟩; have HB1 := hide hb1; have hsz : (Tryd.prog.info? 55).map (·.size) = some (tkN (.slice none 0 0)).size := (by unfold tkN; rw [tkC_size]; exact tk_size); have hall : (tkN (.slice none 0 0)).all (·.oneCell') = true := tkC_one none 0 0 _ _; have HC := hide (cellsAt_new w1 (tkN (.slice none 0 0)) 55); have HB1a := hide (HB1.out.alloc HB1.out.size (.cells (tkN (.slice none 0 0)) 55)); clear hb1)
      | (refine wpList_store_row rfl 55 _ _ rfl w1.heap.size (tkN (.slice none 0 0)) rfl rfl 55 _ (heap_alloc_last w1 _) hsz rfl hall ?_; rw [World.setRow_alloc_new])
      | (go_at_call 35; refine (CN.out _).mono ?_; rintro r9 w9 ⟨rfl, h9⟩; rw [h9]; clear h9 w9))
    obtain ⟨wa, hwa⟩ : ∃ wa, w1.alloc (.cells (tkN (.slice none 0 0)) 55) = wa := ⟨_, rfl⟩
    rw [hwa] at HC HB1a ⊢
    clear hwa hsz hall hzz hne
    go_loopw [7, 21] (fun hv mv wr => ∃ (t x : Nat), t ≤ m ∧ mv = .int .i64 t ∧ hv = .int .u64 (x : Int) ∧ x < 2199023255552 ∧ Hid (Below wa.heap.size wa wr)) (fun _ mv _ => m - (intOf mv).toNat)
    case atStart => exact ⟨0, 1099511627776, Nat.zero_le _, rfl, rfl, by decide, hide (Below.refl _ _)⟩
    case round =>
      obtain ⟨t, x, ht, rfl, rfl, hx, HB⟩ := hrel
      have HBw := hide (HB1a.out.trans (HB.out.mono HB1a.out.size))
      by_cases hlt : t < m
      · have htL : t < W.length := by rw [HW.out]; exact hlt
        obtain ⟨b9, off9, rfl, hb9, hc9⟩ := tx_cell (tx_go HQ.out HBw.out) t htL
        have k0 := hc9 t htL
        have hti : (t : Int) < (m : Int) := by omega
        have ht0 : (0 : Int) ≤ (t : Int) := by omega
        have CA := hide (i_after0 w1.heap.size x (W[t]?.getD ⟨#[]⟩) wr (cellsAt_go HC.out HB.out (cellsAt_lt HC.out)) (tzT_go HT.out HBw.out (Nat.le_refl _)) hx)
        obtain ⟨s, hs⟩ : ∃ s, W[t]?.getD ⟨#[]⟩ = s := ⟨_, rfl⟩
        rw [hs] at k0 CA
        clear hc9 hs htL
        go_wp2_with (first | (go_at_call 36; refine CA.out.mono ?_; rintro r w3 ⟨rfl, hb3⟩; have HB3 := hide (HB.out.trans (hb3.mono HB.out.size)); clear hb3))
        go_roundw
        case rel => exact ⟨t + 1, 0, by omega, by go_num, rfl, by decide, HB3⟩
        case measure => simp [intOf]; omega
      · have CM := hide (i_mayEnd w1.heap.size x (.slice none 0 0) (fun _ => 0) 0 wr (by omega) (by decide) (cellsAt_go HC.out HB.out (cellsAt_lt HC.out)))
        rw [show decide (x &&& 0 ≠ 0) = false by simp] at CM
        go_wp2_with (first | (go_at_call 37; refine CM.out.mono ?_; rintro r9 w9 ⟨rfl, h9⟩; rw [h9]; clear h9 w9))
        go_ret
        exact ⟨false, rfl, HF.out, HBw.out⟩
  · have hn1 : 1 ≤ n ∧ n ≤ 40 := by rw [← hD]; exact (pk_facts hpk).1
    have HRN := hide (rn_of hD hpk hz)
    have HPK := hide hpk
    obtain ⟨b0, off, rfl, hb0, hrow⟩ := hr (by rw [hD]; omega)
    have HROW := hide hrow
    rw [hpk] at CT
    clear hr hD hz hT hpk hrow hW hq
    go_enter Tryd.func9, Tryd.ntmps9
    go_wp2_with (first
      | (go_at_call 34; refine CT.out.mono ?_; rintro r w1 ⟨b9, m9, c9, F, e, rfl, hA, hb1⟩; obtain ⟨rfl, rfl, rfl, hTK⟩ := hA.1 HPK.out; have HTK := hide hTK; have HB1 := hide hb1; have HEL := hide (tk_null hA).2; obtain ⟨hsz, hzs⟩ := tk_fit (some ⟨b0, off, none⟩) m9 c9 F e; have hall := tkC_one (some ⟨b0, off, none⟩) m9 c9 F e; have HC := hide (cellsAt_new w1 (tkC (.slice (some ⟨b0, off, none⟩) m9 c9) F e) 55); obtain ⟨CS, hCS⟩ : ∃ CS, tkC (.slice (some ⟨b0, off, none⟩) m9 c9) F e = CS := ⟨_, rfl⟩; have HCS := hide hCS; rw [hCS] at hsz hzs hall HC ⊢; have HB1a := hide (HB1.out.alloc HB1.out.size (.cells CS 55)); clear hA hb1 hCS hTK)
      | (refine wpList_store_row rfl 55 _ _ rfl w1.heap.size CS rfl rfl 55 _ (heap_alloc_last w1 _) hsz hzs hall ?_; rw [World.setRow_alloc_new])
      | (go_at_call 35; refine (CN.out _).mono ?_; rintro r9 w9 ⟨rfl, h9⟩; rw [h9]; clear h9 w9))
    obtain ⟨wa, hwa⟩ : ∃ wa, w1.alloc (.cells CS 55) = wa := ⟨_, rfl⟩
    rw [hwa] at HC HB1a ⊢
    rw [← HCS.out] at HC
    clear hwa hsz hall hzz hne hzs
    go_loopw [7, 21] (fun hv mv wr => ∃ (t x : Nat), t ≤ m ∧ mv = .int .i64 t ∧ hv = .int .u64 (x : Int) ∧ Hid (HrP D W t x) ∧ Hid (Below wa.heap.size wa wr)) (fun _ mv _ => m - (intOf mv).toNat)
    case atStart => exact ⟨0, 1099511627776, Nat.zero_le _, rfl, rfl, hide (.inl ⟨rfl, rfl⟩), hide (Below.refl _ _)⟩
    case round =>
      obtain ⟨t, x, ht, rfl, rfl, HH, HB⟩ := hrel
      have HBw := hide (HB1a.out.trans (HB.out.mono HB1a.out.size))
      have hx := hr_lt HH.out
      by_cases hlt : t < m
      · have htL : t < W.length := by rw [HW.out]; exact hlt
        obtain ⟨b9, off9, rfl, hb9, hc9⟩ := tx_cell (tx_go HQ.out HBw.out) t htL
        have k0 := hc9 t htL
        have hti : (t : Int) < (m : Int) := by omega
        have ht0 : (0 : Int) ≤ (t : Int) := by omega
        have CA := hide (i_after D _ b0 off _ w1.heap.size x F e (W[t]?.getD ⟨#[]⟩) wr HRN.out (Nat.lt_of_lt_of_le hb0 HBw.out.size) (pnRow_up (pnRow_go HROW.out hb0 HBw.out) HBw.out.size) (cellsAt_go HC.out HB.out (cellsAt_lt HC.out)) (tzT_go HT.out HBw.out (Nat.le_refl _)) hx (tkOf_lt HTK.out))
        have HNX := hide (fun y hy hb => hr_next HTK.out htL HH.out (y := y) hy hb)
        obtain ⟨s, hs⟩ : ∃ s, W[t]?.getD ⟨#[]⟩ = s := ⟨_, rfl⟩
        rw [hs] at k0 CA HNX
        clear hc9 hs htL
        go_wp2_with (first | (go_at_call 36; refine CA.out.mono ?_; rintro r w3 ⟨y, rfl, hy, hyb, hb3⟩; have HN2 := hide (HNX.out y hy hyb); have HB3 := hide (HB.out.trans (hb3.mono HB.out.size)); clear hy hyb hb3))
        go_roundw
        case rel => exact ⟨t + 1, y, by omega, by go_num, rfl, HN2, HB3⟩
        case measure => simp [intOf]; omega
      · have htm : t = m := by omega
        subst htm
        have CM := hide (i_mayEnd w1.heap.size x _ F e wr (by omega) HEL.out (cellsAt_go HC.out HB.out (cellsAt_lt HC.out)))
        have HE := hide (hr_end (x := x) HPK.out (by rw [HW.out]; omega) HTK.out (by rw [HW.out]; exact HH.out))
        go_wp2_with (first | (go_at_call 37; refine CM.out.mono ?_; rintro r9 w9 ⟨rfl, h9⟩; rw [h9]; clear h9 w9))
        go_ret
        exact ⟨_, rfl, by simpa using HE.out, HBw.out⟩
end Go.Proofs.YtfohfljdgmlibaaDoor

/-
  Plain facts on the text of a model, of no program's run.
-/
namespace Go.Proofs.YtfohfljdgmlibaaDoor
set_option linter.unusedVariables false
set_option linter.unusedSimpArgs false
def sgP (oc : Int) : List UInt8 := if oc = 1 then [63] else if oc = 2 then [42] else if oc = 3 then [43] else []
def sepP (k : Int) : List UInt8 := if k = 2 then [44] else [124]
def bdP (k : Int) (nm : ByteArray) (ts : List (List UInt8)) : List UInt8 := if k = 1 then nm.data.toList else if k = 4 then [35] else [40] ++ Lib.join ts (sepP k) ++ [41]
def mtF (D : Pn) : Nat → Nat → List UInt8
  | 0, _ => []
  | f + 1, i => bdP (D.K i) (D.NM i) ((D.KL i).map fun k => mtF D f k.toNat) ++ sgP (D.OC i)
theorem mtF_more {D : Pn} : ∀ (f g i : Nat), Lo D i → i < f → i < g → mtF D f i = mtF D g i
  | 0, g, i, hl, hf, hg => by omega
  | f + 1, 0, i, hl, hf, hg => by omega
  | f + 1, g + 1, i, hl, hf, hg => by
    have : ((D.KL i).map fun k => mtF D f k.toNat) = (D.KL i).map fun k => mtF D g k.toNat := List.map_congr_left (fun k hk => by
      have := hl i (Nat.le_refl _) k hk
      exact mtF_more f g k.toNat (lo_less hl (by omega)) (by omega) (by omega))
    rw [mtF, mtF, this]
/-- The text of a node. -/
def mt (D : Pn) (i : Nat) : List UInt8 := mtF D (i + 1) i
theorem mt_eq {D : Pn} {i : Nat} (hl : Lo D i) : mt D i = bdP (D.K i) (D.NM i) ((D.KL i).map fun k => mt D k.toNat) ++ sgP (D.OC i) := by
  have : ((D.KL i).map fun k => mtF D i k.toNat) = (D.KL i).map fun k => mt D k.toNat := List.map_congr_left (fun k hk => by
    have := hl i (Nat.le_refl _) k hk
    exact mtF_more i (k.toNat + 1) k.toNat (lo_less hl (by omega)) (by omega) (by omega))
  show mtF D (i + 1) i = _
  rw [mtF, this]
theorem sg_len (oc : Int) : (sgP oc).length ≤ 1 := by
  unfold sgP
  repeat' split
  all_goals simp
theorem sep_len (k : Int) : (sepP k).length = 1 := by
  unfold sepP
  split <;> rfl
theorem join_snoc (ts : List (List UInt8)) (t sep : List UInt8) : Lib.join (ts ++ [t]) sep = if ts = [] then t else Lib.join ts sep ++ sep ++ t := by
  match ts with
  | [] => rw [if_pos rfl]; exact Lib.join_one t sep
  | x :: r =>
    rw [if_neg (by simp), List.cons_append, Lib.join_cons, Lib.join_cons]
    unfold Lib.joinTail
    simp
def totL : List (List UInt8) → Nat
  | [] => 0
  | t :: ts => t.length + 1 + totL ts
theorem tot_app : ∀ (a b : List (List UInt8)), totL (a ++ b) = totL a + totL b
  | [], b => by simp [totL]
  | t :: a, b => by rw [List.cons_append, totL, totL, tot_app a b]; omega
theorem join_tot (sep : List UInt8) (hs : sep.length = 1) : ∀ ts : List (List UInt8), (Lib.join ts sep).length ≤ totL ts
  | [] => by simp [Lib.join_nil, totL]
  | x :: r => by
    rw [Lib.join_length, hs]
    have : ∀ l : List (List UInt8), Lib.lens l + l.length = totL l := by
      intro l
      induction l with
      | nil => rfl
      | cons y l ih => rw [totL, ← ih]; simp [Lib.lens]; omega
    have h := this (x :: r)
    rw [List.length_cons] at h
    omega
theorem fd_tot {D : Pn} : ∀ (ks : List Int) (a f : Nat), (∀ j c, j < a → tr D j = some c → (mt D j).length + 1 ≤ 50 * (j + 1 - c)) → fd (tr D) ks a = some f → totL (ks.map fun k => mt D k.toNat) ≤ 50 * (a - f) ∧ f ≤ a
  | [], a, f, ih, h => by
    simp [fd] at h
    subst h
    exact ⟨Nat.zero_le _, Nat.le_refl _⟩
  | k :: ks, a, f, ih, h => by
    by_cases hc : 0 < a ∧ k = (a : Int) - 1
    · cases hg : tr D (a - 1) with
      | none => rw [fd_none hc hg] at h; cases h
      | some c =>
        have hca := tr_le hg
        rw [fd_yes hc hg] at h
        obtain ⟨h1, h2⟩ := fd_tot ks c f (fun j d hj => ih j d (by omega)) h
        have h3 := ih (a - 1) c (by omega) hg
        rw [List.map_cons, totL, show k.toNat = a - 1 by omega]
        exact ⟨by omega, by omega⟩
    · rw [fd_no hc] at h; cases h
theorem tot_rev : ∀ l : List (List UInt8), totL l.reverse = totL l
  | [] => rfl
  | t :: l => by rw [List.reverse_cons, tot_app, tot_rev l, totL, totL, totL]; omega
theorem nd_name {k : Int} {nm : ByteArray} {n : Nat} {oc : Int} (h : ndB k nm n oc = true) (hk : k = 1) : nm.size ≤ 40 := by
  unfold ndB at h
  rw [if_pos hk] at h
  simp only [Bool.and_eq_true] at h
  have h2 := h.2.1
  rcases Nat.lt_or_ge 40 nm.size with h3 | h3
  · rw [nameB_long nm h3] at h2; cases h2
  · exact h3
theorem mt_len {D : Pn} (hn : ∀ j, j < D.n → nodeB D j = true) (hlo : ∀ j, j < D.n → ∀ k, k ∈ D.KL j → 0 ≤ k ∧ k < (j : Int)) : ∀ (m i c : Nat), i < m → i < D.n → tr D i = some c → (mt D i).length + 1 ≤ 50 * (i + 1 - c)
  | 0, i, c, hm, hi, h => by omega
  | m + 1, i, c, hm, hi, h => by
    have hc := tr_le h
    rw [mt_eq (fun j hj => hlo j (by omega))]
    have h1 := sg_len (D.OC i)
    rw [List.length_append]
    unfold bdP
    split
    · rename_i hk
      have h2 := nd_name (hn i hi) hk
      have h3 : (D.NM i).data.toList.length = (D.NM i).size := by simp
      omega
    · split
      · simp only [List.length_cons, List.length_nil]; omega
      · have ht := h
        rw [tr_eq] at ht
        obtain ⟨h2, h3⟩ := fd_tot _ i c (fun j d hj hd => mt_len hn hlo m j d (by omega) (by omega) hd) ht
        rw [List.map_reverse, tot_rev] at h2
        have h4 := join_tot (sepP (D.K i)) (sep_len _) ((D.KL i).map fun k => mt D k.toNat)
        simp only [List.length_append, List.length_cons, List.length_nil]
        omega
/-- The texts of a node's kids are short. -/
theorem mt_kids {D : Pn} (hn : ∀ j, j < D.n → nodeB D j = true) (hlo : ∀ j, j < D.n → ∀ k, k ∈ D.KL j → 0 ≤ k ∧ k < (j : Int)) {i c : Nat} (hi : i < D.n) (h : tr D i = some c) : totL ((D.KL i).map fun k => mt D k.toNat) ≤ 50 * i := by
  have ht := h
  rw [tr_eq] at ht
  obtain ⟨h2, h3⟩ := fd_tot _ i c (fun j d hj hd => mt_len hn hlo (j + 1) j d (by omega) (by omega) hd) ht
  rw [List.map_reverse, tot_rev] at h2
  omega
theorem tot_take (l : List (List UInt8)) (m : Nat) : totL (l.take m) ≤ totL l := by
  have := tot_app (l.take m) (l.drop m)
  rw [List.take_append_drop] at this
  omega
/-- What stands in a text behind m kids. -/
theorem join_take (sep : List UInt8) (ts : List (List UInt8)) (m : Nat) (h : m < ts.length) : Lib.join (ts.take (m + 1)) sep = (if m = 0 then [] else Lib.join (ts.take m) sep ++ sep) ++ ts[m]?.getD [] := by
  rw [List.take_succ_eq_append_getElem h, join_snoc, List.getElem?_eq_getElem h]
  by_cases e : m = 0
  · subst e; simp
  · rw [if_neg (by intro h9; rw [List.take_eq_nil_iff] at h9; rcases h9 with h9 | h9; exact e h9; rw [h9] at h; simp at h), if_neg e]; rfl
end Go.Proofs.YtfohfljdgmlibaaDoor

/-
  Contract: the text of a model, by the specification.
-/
namespace Go.Proofs.YtfohfljdgmlibaaDoor
open Go.RowKit Go.Joins
set_option linter.unusedVariables false
set_option linter.unusedSimpArgs false
theorem ret_s9 {a b : ByteArray} (h : a = b) : Ending.returned (.string a) = .returned (.string b) := by rw [h]
theorem bl (s : ByteArray) : s.data.toList.length = s.size := by simp
theorem bl_app (a b : ByteArray) : (a ++ b).data.toList = a.data.toList ++ b.data.toList := by rw [ByteArray.data_append, Array.toList_append]
/-- What the text of a right model leans on. -/
def RM (D : Pn) (n : Nat) : Prop := D.n = n ∧ n ≤ 40 ∧ (∀ j, j < n → nodeB D j = true) ∧ (∀ j, j < n → ∀ k, k ∈ D.KL j → 0 ≤ k ∧ k < (j : Int)) ∧ (∀ j, j < n → ∃ c, tr D j = some c) ∧ ∀ j, j < n → (D.KL j).length ≤ 1048576
theorem rm_of {D : Pn} {n : Nat} (hD : D.n = n) (h : pkB D = true) (hz : pnTot D ≤ 1048576) : RM D n := by
  obtain ⟨h1, h2, -⟩ := pk_facts h
  have h3 := pk_lo h
  rw [hD] at h1 h2 h3
  exact ⟨hD, h1.2, h2, fun j hj => (h3 j hj).2, fun j hj => (h3 j hj).1, fun j hj => ((pn_sz hz).2 j (by rw [hD]; exact hj)).2⟩
theorem rm_kids {D : Pn} {n : Nat} (h : RM D n) {i : Nat} (hi : i < n) : totL ((D.KL i).map fun k => mt D k.toNat) ≤ 2000 := by
  obtain ⟨h1, h2, h3, h4, h5, -⟩ := h
  obtain ⟨c, hc⟩ := h5 i hi
  have := mt_kids (D := D) (by rw [h1]; exact h3) (by rw [h1]; exact h4) (by rw [h1]; exact hi) hc
  omega
theorem rm_eq {D : Pn} {n : Nat} (h : RM D n) {i : Nat} (hi : i < n) : mt D i = bdP (D.K i) (D.NM i) ((D.KL i).map fun k => mt D k.toNat) ++ sgP (D.OC i) := mt_eq (fun j hj => h.2.2.2.1 j (by omega))
theorem rm_kinds {D : Pn} {n : Nat} (h : RM D n) {i : Nat} (hi : i < n) : D.K i = 1 ∨ D.K i = 2 ∨ D.K i = 3 ∨ D.K i = 4 := nd_kinds (h.2.2.1 i hi)
theorem rm_name {D : Pn} {n : Nat} (h : RM D n) {i : Nat} (hi : i < n) (hk : D.K i = 1) : (D.NM i).size ≤ 40 := nd_name (h.2.2.1 i hi) hk
/-- What stands in a group's text behind m kids. -/
def grP (k : Int) (ts : List (List UInt8)) (m : Nat) : List UInt8 := [40] ++ Lib.join (ts.take m) (sepP k)
theorem gr_next (k : Int) (ts : List (List UInt8)) (m : Nat) (h : m < ts.length) (hm : m ≠ 0) : grP k ts (m + 1) = grP k ts m ++ sepP k ++ ts[m]?.getD [] := by
  unfold grP
  rw [join_take _ _ _ h, if_neg hm]
  simp only [List.append_assoc]
theorem gr_first (k : Int) (ts : List (List UInt8)) (h : 0 < ts.length) : grP k ts 1 = grP k ts 0 ++ ts[0]?.getD [] := by
  unfold grP
  rw [join_take _ _ _ h, if_pos rfl]
  simp [Lib.join_nil]
theorem gr_len (k : Int) (ts : List (List UInt8)) (m : Nat) : (grP k ts m).length ≤ 1 + totL ts := by
  have h1 := join_tot (sepP k) (sep_len _) (ts.take m)
  have h2 := tot_take ts m
  unfold grP
  rw [List.length_append, List.length_cons, List.length_nil]
  omega
end Go.Proofs.YtfohfljdgmlibaaDoor

/-
  Contracts: the text of a model, by the program.
-/
namespace Go.Proofs.YtfohfljdgmlibaaDoor
open Go.RowKit Go.Joins
set_option linter.unusedVariables false
set_option linter.unusedSimpArgs false
theorem infoStr : (Tryd.prog.info? 9).map (fun i => (i.zero, i.size, i.bytes)) = some (some (.string ByteArray.empty), 1, 16) := by kernel_rfl
/-- A row of texts in memory of one's own. -/
def StrR (B : Nat) (w : World) (ad : Option Addr) (c : Nat) (L : List ByteArray) : Prop := w.ownsRow B 9 1 (.slice ad L.length c) L.length (L.map Value.string)
theorem strR_nil (B : Nat) (w : World) : StrR B w none 0 [] := ⟨rfl, .inl ⟨rfl, rfl⟩⟩
theorem strR_put {B : Nat} {w2 : World} {ad : Option Addr} {c : Nat} {L : List ByteArray} {z : ByteArray} (h : w2.ownsRow B 9 1 (.slice ad (L.length + 1) c) (L.length + 1) (L.map Value.string ++ [.string z])) : StrR B w2 ad c (L ++ [z]) := by
  unfold StrR
  rw [List.length_append, List.length_singleton, List.map_append]
  exact h
theorem strR_cells {B : Nat} {w : World} {ad : Option Addr} {c : Nat} {L : List ByteArray} (h : StrR B w ad c L) (h0 : L ≠ []) : ∃ g, ad = some ⟨g, 0, none⟩ ∧ g < w.heap.size ∧ L.length ≤ c ∧ ∀ (j : Nat) x, L[j]? = some x → w.cell? ⟨g, 0 + j, none⟩ = some (.string x) := by
  have h9 := h
  obtain ⟨hl, h⟩ := h
  rcases h with ⟨-, hz⟩ | ⟨g, cap, cur, hv, hB, hh, hcap, -⟩
  · exact absurd (List.length_eq_zero_iff.1 hz) h0
  · simp only [Value.slice.injEq] at hv
    obtain ⟨rfl, -, rfl⟩ := hv
    refine ⟨g, rfl, (Array.getElem?_eq_some_iff.1 hh).1, by omega, fun j x hx => ?_⟩
    have hj : j < L.length := by
      rcases Nat.lt_or_ge j L.length with h | h
      · exact h
      · rw [List.getElem?_eq_none h] at hx; cases hx
    rw [Nat.zero_add]
    unfold StrR at h9
    rw [h9.cellAt j (by omega), List.getElem?_map, hx]
    rfl
def mtB (D : Pn) (k : Int) : ByteArray := ⟨(mt D k.toNat).toArray⟩
theorem mtB_map (D : Pn) (L : List Int) : (L.map (mtB D)).map (·.data.toList) = L.map fun (k : Int) => mt D k.toNat := by
  rw [List.map_map]
  rfl
theorem sg_cut (OC : Int) (h : 1 ≤ OC ∧ OC ≤ 3) : ((⟨#[63, 42, 43]⟩ : ByteArray).extract (OC - 1).toNat OC.toNat).data.toList = sgP OC := by
  obtain ⟨h1, h2⟩ := h
  have : OC = 1 ∨ OC = 2 ∨ OC = 3 := by omega
  rcases this with rfl | rfl | rfl <;> decide
theorem nd_oc {k : Int} {nm : ByteArray} {n : Nat} {oc : Int} (h : ndB k nm n oc = true) : 0 ≤ oc ∧ oc ≤ 3 := by
  unfold ndB at h
  simp only [Bool.and_eq_true, decide_eq_true_eq] at h
  exact h.1
end Go.Proofs.YtfohfljdgmlibaaDoor
