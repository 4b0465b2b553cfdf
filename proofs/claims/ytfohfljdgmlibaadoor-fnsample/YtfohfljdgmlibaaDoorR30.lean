/-
  Texts put together: AcI, SaW, TabOf, TzTab.
-/
import Derived.Test.YtfohfljdgmlibaaDoorR26
import Derived.Test.YtfohfljdgmlibaaDoorR22
import Derived.Test.YtfohfljdgmlibaaDoorR23
import Derived.Test.YtfohfljdgmlibaaDoorR27
import Derived.Test.YtfohfljdgmlibaaDoorR29
import Derived.WalkKit
import Derived.ProofKit
import Derived.Below
import Derived.Lib.SmallJoins
import Derived.Lib.LaidIn
import Derived.Lib.LaidU8T
import Derived.Test.YtfohfljdgmlibaaDoorR8
import Derived.Lib.LaidTab
/-
  Contracts: whether a model takes a row (the program's).
-/
namespace Go.Proofs.YtfohfljdgmlibaaDoor
open Go.RowKit Go.Joins
set_option linter.unusedVariables false
set_option linter.unusedSimpArgs false
theorem i_named0 (T : Nat) (s : ByteArray) (w : World) (hC : CellsAt w T (tkC (.slice none 0 0) (fun _ => 0) 0)) :
    Calls Tryd.prog 72 #[.pointer (some ⟨T, 0, none⟩), .string s] w fun r w' => r = .returned (.int .u64 0) ∧ w' = w := by
  have t0 := (cellsAt_cell hC 0).trans (tkC_get _ _ _ 0 (by decide))
  have t1 : tkV (.slice none 0 0) (fun _ => 0) 0 0 = .slice none 0 0 := rfl
  rw [t1] at t0
  clear hC t1
  go_enter Tryd.func72, Tryd.ntmps72
  go_wp2
  go_loopw [5, 13] (fun sv mv wr => sv = .int .u64 0 ∧ mv = .int .i64 0 ∧ Hid (wr = w)) (fun _ _ _ => 0)
  case atStart => exact ⟨rfl, rfl, hide rfl⟩
  case round =>
    obtain ⟨rfl, rfl, HW⟩ := hrel
    go_wp2
    go_ret
    exact ⟨rfl, HW.out⟩
set_option maxRecDepth 100000 in
set_option maxHeartbeats 4000000 in
theorem i_after0 (T x : Nat) (s : ByteArray) (w : World) (hC : CellsAt w T (tkC (.slice none 0 0) (fun _ => 0) 0)) (hT : TzT w) (hx : x < 2199023255552) :
    Calls Tryd.prog 36 #[.pointer (some ⟨T, 0, none⟩), .int .u64 (x : Int), .string s] w fun r w' => r = .returned (.int .u64 0) ∧ Below w.heap.size w w' := by
  have CNM := hide (fun (W : World) (hW : Below w.heap.size w W) => i_named0 T s W (cellsAt_go hC hW (cellsAt_lt hC)))
  have CL := hide (i_list x w (by omega) hT)
  have HC := hide hC
  have HRG := hide (fun z hz => bts_range (n := 41) (x := x) (by omega) hx z hz)
  have hlen := bts_len (x := x) (by omega)
  clear hC hT
  go_enter Tryd.func36, Tryd.ntmps36
  go_wp2_with (first
    | (go_at_call 43; refine CL.out.mono ?_; rintro r w2 ⟨ad2, c2, rfl, ho2, hb2⟩; have HO2 := hide ho2; have HB2 := hide hb2; clear ho2 hb2))
  obtain ⟨L, hL⟩ : ∃ L, bts x = L := ⟨_, rfl⟩
  rw [hL] at HO2 HRG hlen ⊢
  have HRA := hide (own_rowAt9 HO2.out)
  have HCC := hide (cellsAt_go HC.out HB2.out (cellsAt_lt HC.out))
  clear hL CL
  go_loopw [7, 13] (fun sv mv wr => ∃ (i : Nat), i ≤ L.length ∧ mv = .int .i64 i ∧ sv = .int .u64 0 ∧ Hid (wr = w2)) (fun _ mv _ => L.length - (intOf mv).toNat)
  case atStart => exact ⟨0, Nat.zero_le _, rfl, rfl, hide rfl⟩
  case round =>
    obtain ⟨i, hi, rfl, rfl, HW⟩ := hrel
    by_cases hlt : i < L.length
    · obtain ⟨b, off9, rfl, hb, hc⟩ := rowAt_cell HRA.out i hlt
      have k0 : wr.cell? ⟨b, off9 + i, none⟩ = some (.int .i64 (L[i]?.getD 0)) := by rw [HW.out]; exact hc i hlt
      have hz := HRG.out (L[i]?.getD 0) (by rw [List.getElem?_eq_getElem hlt]; exact List.getElem_mem hlt)
      obtain ⟨v, hv⟩ : ∃ v, L[i]?.getD 0 = v := ⟨_, rfl⟩
      rw [hv] at k0 hz
      obtain ⟨p, rfl⟩ : ∃ p : Nat, v = (p : Int) := ⟨v.toNat, by omega⟩
      have hp41 : p < 41 := by omega
      have k1 : wr.cell? ⟨T, 1 + p, none⟩ = some (.int .u64 0) := by rw [HW.out]; exact (cellsAt_cell HCC.out (1 + p)).trans (tkC_at _ _ _ _ hp41)
      have b1 : bits .or .u64 (0 : Int) (0 : Int) = 0 := u64_or_nat 0 0 (by decide) (by decide)
      have hii : (i : Int) < (L.length : Int) := by omega
      have hi0 : (0 : Int) ≤ (i : Int) := by omega
      have hpi : (p : Int) < 41 := by omega
      have hp0 : (0 : Int) ≤ (p : Int) := by omega
      clear hc hv hz
      go_wp2
      go_roundw
      case rel => exact ⟨i + 1, by omega, by go_num, rfl, HW⟩
      case measure => simp [intOf]; omega
    · have HW2 : Hid (Below w.heap.size w wr) := hide (by rw [HW.out]; exact HB2.out)
      have CN2 := hide (CNM.out wr HW2.out)
      have b2 : bits .and .u64 (0 : Int) (0 : Int) = 0 := bits_and_u64_nat 0 0 (by decide) (by decide)
      go_wp2_with (first
        | (go_at_call 72; refine CN2.out.mono ?_; rintro r w3 ⟨rfl, h3⟩; rw [h3]; clear h3 w3))
      go_ret
      exact ⟨rfl, HW2.out⟩
theorem tkOf_lt {D : Pn} {F : Nat → Nat} {e : Nat} (h : TkOf D F e) : ∀ p, p < 41 → F p < 1099511627776 := fun p hp => by
  by_cases e : p = 40
  · subst e; exact h.2.1.1
  · exact (h.1 p (by omega)).1
/-- What the set of places is, behind so many names. -/
def HrP (D : Pn) (W : List ByteArray) (t x : Nat) : Prop := (t = 0 ∧ x = 1099511627776) ∨ (0 < t ∧ x < 1099511627776 ∧ ∀ q, x.testBit q = true ↔ rch D W t q)
theorem hr_lt {D : Pn} {W : List ByteArray} {t x : Nat} (h : HrP D W t x) : x < 2199023255552 := by
  rcases h with ⟨-, rfl⟩ | ⟨-, h, -⟩
  · decide
  · omega
theorem hr_next {D : Pn} {W : List ByteArray} {F : Nat → Nat} {e t x y : Nat} (hT : TkOf D F e) (ht : t < W.length) (h : HrP D W t x) (hy : y < 1099511627776) (hb : ∀ q, y.testBit q = true ↔ (∃ p : Nat, p < 41 ∧ x.testBit p = true ∧ (F p).testBit q = true) ∧ mtP D (W[t]?.getD ⟨#[]⟩) q = true) : HrP D W (t + 1) y := by
  refine .inr ⟨by omega, hy, fun q => ?_⟩
  rw [hb q, rch]
  have hm : mtN D W q t ↔ mtP D (W[t]?.getD ⟨#[]⟩) q = true := ⟨fun h => h.2, fun h => ⟨ht, h⟩⟩
  rw [hm]
  refine and_congr_left (fun _ => ?_)
  rcases h with ⟨rfl, rfl⟩ | ⟨h0, h1, h2⟩
  · have h40 : ∀ j : Nat, (1099511627776 : Nat).testBit j = true ↔ 40 = j := fun j => by
      rw [show (1099511627776 : Nat) = 2 ^ 40 by decide, Nat.testBit_two_pow, decide_eq_true_eq]
    constructor
    · rintro ⟨p, hp, h3, h4⟩
      have := (h40 p).1 h3
      subst this
      exact .inl ⟨rfl, (hT.2.1.2 q).1 h4⟩
    · rintro (⟨-, h3⟩ | ⟨p, h3, -⟩)
      · exact ⟨40, by omega, (h40 40).2 rfl, (hT.2.1.2 q).2 h3⟩
      · exact h3.elim
  · constructor
    · rintro ⟨p, hp, h3, h4⟩
      have hp40 : p < 40 := by
        rcases Nat.lt_or_ge p 40 with h | h
        · exact h
        · rw [Nat.testBit_lt_two_pow (Nat.lt_of_lt_of_le (show x < 2 ^ 40 from h1) (Nat.pow_le_pow_right (by decide) h))] at h3
          cases h3
      exact .inr ⟨p, (h2 p).1 h3, ((hT.1 p hp40).2 q).1 h4⟩
    · rintro (⟨h3, -⟩ | ⟨p, h3, h4⟩)
      · omega
      · have h5 := (h2 p).2 h3
        have hp40 : p < 40 := by
          rcases Nat.lt_or_ge p 40 with h | h
          · exact h
          · rw [Nat.testBit_lt_two_pow (Nat.lt_of_lt_of_le (show x < 2 ^ 40 from h1) (Nat.pow_le_pow_right (by decide) h))] at h5
            cases h5
        exact ⟨p, by omega, h5, ((hT.1 p hp40).2 q).2 h4⟩
theorem hr_end {D : Pn} {W : List ByteArray} {F : Nat → Nat} {e x : Nat} (hpk : pkB D = true) (hl : W.length ≤ 200) (hT : TkOf D F e) (h : HrP D W W.length x) : decide (x &&& e ≠ 0) = true ↔ AcP D W := by
  obtain ⟨-, -, l, hl9, rfl⟩ := hT
  unfold AcP
  rw [ac_iff hpk]
  rcases h with ⟨h0, rfl⟩ | ⟨h0, h1, h2⟩
  · rw [end_bit hl9]
    constructor
    · intro h; exact ⟨hpk, hl, .inl ⟨h0, h⟩⟩
    · rintro ⟨-, -, ⟨-, h⟩ | ⟨q, h, -⟩⟩
      · exact h
      · rw [h0] at h; exact h.elim
  · rw [decide_eq_true_eq]
    have hbit : ∀ q, q < 40 → (thL (nl D (D.n - 1)) l 1099511627776).testBit q = l.testBit q := fun q hq => by
      unfold thL
      split
      · rw [Nat.testBit_or, show (1099511627776 : Nat) = 2 ^ 40 by decide, Nat.testBit_two_pow, decide_eq_false (by omega), Bool.or_false]
      · rfl
    constructor
    · intro hne
      refine ⟨hpk, hl, .inr ?_⟩
      obtain ⟨q, hq⟩ := Nat.exists_testBit_of_ne_zero hne
      rw [Nat.testBit_and, Bool.and_eq_true] at hq
      have hq40 : q < 40 := by
        rcases Nat.lt_or_ge q 40 with h | h
        · exact h
        · have := hq.1
          rw [Nat.testBit_lt_two_pow (Nat.lt_of_lt_of_le (show x < 2 ^ 40 from h1) (Nat.pow_le_pow_right (by decide) h))] at this
          cases this
      rw [hbit q hq40] at hq
      exact ⟨q, (h2 q).1 hq.1, (hl9.2 q).1 hq.2⟩
    · rintro ⟨-, -, ⟨h, -⟩ | ⟨q, h3, h4⟩⟩
      · omega
      · intro he
        have h5 := (h2 q).2 h3
        have h6 := (hl9.2 q).2 h4
        have hq40 : q < 40 := by
          rcases Nat.lt_or_ge q 40 with h | h
          · exact h
          · rw [Nat.testBit_lt_two_pow (Nat.lt_of_lt_of_le (show x < 2 ^ 40 from h1) (Nat.pow_le_pow_right (by decide) h))] at h5
            cases h5
        have := congrArg (fun z => Nat.testBit z q) he
        simp only [Nat.testBit_and, Nat.zero_testBit, hbit q hq40, h5, h6] at this
        cases this
set_option maxRecDepth 100000 in
set_option maxHeartbeats 8000000 in
theorem i_accepts (D : Pn) (n : Nat) (a : Option Addr) (cap : Nat) (W : List ByteArray) (m : Nat) (b : Option Addr) (cq : Nat) (w : World) (hD : D.n = n) (hz : pnTot D ≤ 1048576) (hr : PnAt w a D w.heap.size) (hW : W.length = m) (hm : m ≤ 1048576) (hq : TxAt w b W w.heap.size) (hT : TzT w) :
    Calls Tryd.prog 9 #[.slice a n cap, .slice b m cq] w fun r w' => ∃ B : Bool, r = .returned (.bool B) ∧ (B = true ↔ AcP D W) ∧ Below w.heap.size w w' := by
  by_cases h200 : 200 < m
  · have HF : Hid ((false = true) ↔ AcP D W) := hide ⟨fun h => (by cases h), fun h => (by have := h.2.1; rw [hW] at this; omega)⟩
    have h2i : (200 : Int) < (m : Int) := by omega
    clear hD hz hr hW hq hT
    go_enter Tryd.func9, Tryd.ntmps9
    go_wp2
    go_ret
    exact ⟨false, rfl, HF.out, Below.refl _ _⟩
  have h2i : (m : Int) ≤ 200 := by omega
  have hzz := tk_zero
  have hne := tkN_ne
  have CN := hide (fun (W : World) => i_only 40 W (by omega))
  have CT := hide (i_tracks2 D n a cap w hD hz hr hT)
  have HT := hide hT
  have HW := hide hW
  have HQ := hide hq
  cases hpk : pkB D
  · have HF : Hid ((false = true) ↔ AcP D W) := hide ⟨fun h => (by cases h), fun h => (by have := h.1; rw [hpk] at this; cases this)⟩
    have CT2 := hide (i_tracksN D n a cap w hD hz hr hpk)
    clear hD hz hr hW hq hT hpk CT
    go_enter Tryd.func9, Tryd.ntmps9
    go_wp2_with (first
      | (go_at_call 34; refine CT2.out.mono ?_; rintro r w1 ⟨rfl, hb1⟩; have HB1 := hide hb1; have hsz : (Tryd.prog.info? 55).map (·.size) = some (tkN (.slice none 0 0)).size := (by unfold tkN; rw [tkC_size]; exact tk_size); have hall : (tkN (.slice none 0 0)).all (·.oneCell') = true := tkC_one none 0 0 _ _; have HC := hide (cellsAt_new w1 (tkN (.slice none 0 0)) 55); have HB1a := hide (HB1.out.alloc HB1.out.size (.cells (tkN (.slice none 0 0)) 55)); clear hb1)
      | (refine wpList_store_row rfl 55 _ _ rfl w1.heap.size (tkN (.slice none 0 0)) rfl rfl 55 _ (heap_alloc_last w1 _) hsz rfl hall ?_; rw [World.setRow_alloc_new])
      | (go_at_call 35; refine (CN.out _).mono ?_; rintro r9 w9 ⟨rfl, h9⟩; rw [h9]; clear h9 w9))
    obtain ⟨wa, hwa⟩ : ∃ wa, w1.alloc (.cells (tkN (.slice none 0 0)) 55) = wa := ⟨_, rfl⟩
    rw [hwa] at HC HB1a ⊢
    clear hwa hsz hall hzz hne
    go_loopw [7, 21] (fun hv mv wr => ∃ (t x : Nat), t ≤ m ∧ mv = .int .i64 t ∧ hv = .int .u64 (x : Int) ∧ x < 2199023255552 ∧ Hid (Below wa.heap.size wa wr)) (fun _ mv _ => m - (intOf mv).toNat)
    case atStart => exact ⟨0, 1099511627776, Nat.zero_le _, rfl, rfl, by decide, hide (Below.refl _ _)⟩
    case round =>
      obtain ⟨t, x, ht, rfl, rfl, hx, HB⟩ := hrel
      have HBw := hide (HB1a.out.trans (HB.out.mono HB1a.out.size))
      by_cases hlt : t < m
      · have htL : t < W.length := by rw [HW.out]; exact hlt
        obtain ⟨b9, off9, rfl, hb9, hc9⟩ := tx_cell (tx_go HQ.out HBw.out) t htL
        have k0 := hc9 t htL
        have hti : (t : Int) < (m : Int) := by omega
        have ht0 : (0 : Int) ≤ (t : Int) := by omega
        have CA := hide (i_after0 w1.heap.size x (W[t]?.getD ⟨#[]⟩) wr (cellsAt_go HC.out HB.out (cellsAt_lt HC.out)) (tzT_go HT.out HBw.out (Nat.le_refl _)) hx)
        obtain ⟨s, hs⟩ : ∃ s, W[t]?.getD ⟨#[]⟩ = s := ⟨_, rfl⟩
        rw [hs] at k0 CA
        clear hc9 hs htL
        go_wp2_with (first | (go_at_call 36; refine CA.out.mono ?_; rintro r w3 ⟨rfl, hb3⟩; have HB3 := hide (HB.out.trans (hb3.mono HB.out.size)); clear hb3))
        go_roundw
        case rel => exact ⟨t + 1, 0, by omega, by go_num, rfl, by decide, HB3⟩
        case measure => simp [intOf]; omega
      · have CM := hide (i_mayEnd w1.heap.size x (.slice none 0 0) (fun _ => 0) 0 wr (by omega) (by decide) (cellsAt_go HC.out HB.out (cellsAt_lt HC.out)))
        rw [show decide (x &&& 0 ≠ 0) = false by simp] at CM
        go_wp2_with (first | (go_at_call 37; refine CM.out.mono ?_; rintro r9 w9 ⟨rfl, h9⟩; rw [h9]; clear h9 w9))
        go_ret
        exact ⟨false, rfl, HF.out, HBw.out⟩
  · have hn1 : 1 ≤ n ∧ n ≤ 40 := by rw [← hD]; exact (pk_facts hpk).1
    have HRN := hide (rn_of hD hpk hz)
    have HPK := hide hpk
    obtain ⟨b0, off, rfl, hb0, hrow⟩ := hr (by rw [hD]; omega)
    have HROW := hide hrow
    rw [hpk] at CT
    clear hr hD hz hT hpk hrow hW hq
    go_enter Tryd.func9, Tryd.ntmps9
    go_wp2_with (first
      | (go_at_call 34; refine CT.out.mono ?_; rintro r w1 ⟨b9, m9, c9, F, e, rfl, hA, hb1⟩; obtain ⟨rfl, rfl, rfl, hTK⟩ := hA.1 HPK.out; have HTK := hide hTK; have HB1 := hide hb1; have HEL := hide (tk_null hA).2; obtain ⟨hsz, hzs⟩ := tk_fit (some ⟨b0, off, none⟩) m9 c9 F e; have hall := tkC_one (some ⟨b0, off, none⟩) m9 c9 F e; have HC := hide (cellsAt_new w1 (tkC (.slice (some ⟨b0, off, none⟩) m9 c9) F e) 55); obtain ⟨CS, hCS⟩ : ∃ CS, tkC (.slice (some ⟨b0, off, none⟩) m9 c9) F e = CS := ⟨_, rfl⟩; have HCS := hide hCS; rw [hCS] at hsz hzs hall HC ⊢; have HB1a := hide (HB1.out.alloc HB1.out.size (.cells CS 55)); clear hA hb1 hCS hTK)
      | (refine wpList_store_row rfl 55 _ _ rfl w1.heap.size CS rfl rfl 55 _ (heap_alloc_last w1 _) hsz hzs hall ?_; rw [World.setRow_alloc_new])
      | (go_at_call 35; refine (CN.out _).mono ?_; rintro r9 w9 ⟨rfl, h9⟩; rw [h9]; clear h9 w9))
    obtain ⟨wa, hwa⟩ : ∃ wa, w1.alloc (.cells CS 55) = wa := ⟨_, rfl⟩
    rw [hwa] at HC HB1a ⊢
    rw [← HCS.out] at HC
    clear hwa hsz hall hzz hne hzs
    go_loopw [7, 21] (fun hv mv wr => ∃ (t x : Nat), t ≤ m ∧ mv = .int .i64 t ∧ hv = .int .u64 (x : Int) ∧ Hid (HrP D W t x) ∧ Hid (Below wa.heap.size wa wr)) (fun _ mv _ => m - (intOf mv).toNat)
    case atStart => exact ⟨0, 1099511627776, Nat.zero_le _, rfl, rfl, hide (.inl ⟨rfl, rfl⟩), hide (Below.refl _ _)⟩
    case round =>
      obtain ⟨t, x, ht, rfl, rfl, HH, HB⟩ := hrel
      have HBw := hide (HB1a.out.trans (HB.out.mono HB1a.out.size))
      have hx := hr_lt HH.out
      by_cases hlt : t < m
      · have htL : t < W.length := by rw [HW.out]; exact hlt
        obtain ⟨b9, off9, rfl, hb9, hc9⟩ := tx_cell (tx_go HQ.out HBw.out) t htL
        have k0 := hc9 t htL
        have hti : (t : Int) < (m : Int) := by omega
        have ht0 : (0 : Int) ≤ (t : Int) := by omega
        have CA := hide (i_after D _ b0 off _ w1.heap.size x F e (W[t]?.getD ⟨#[]⟩) wr HRN.out (Nat.lt_of_lt_of_le hb0 HBw.out.size) (pnRow_up (pnRow_go HROW.out hb0 HBw.out) HBw.out.size) (cellsAt_go HC.out HB.out (cellsAt_lt HC.out)) (tzT_go HT.out HBw.out (Nat.le_refl _)) hx (tkOf_lt HTK.out))
        have HNX := hide (fun y hy hb => hr_next HTK.out htL HH.out (y := y) hy hb)
        obtain ⟨s, hs⟩ : ∃ s, W[t]?.getD ⟨#[]⟩ = s := ⟨_, rfl⟩
        rw [hs] at k0 CA HNX
        clear hc9 hs htL
        go_wp2_with (first | (go_at_call 36; refine CA.out.mono ?_; rintro r w3 ⟨y, rfl, hy, hyb, hb3⟩; have HN2 := hide (HNX.out y hy hyb); have HB3 := hide (HB.out.trans (hb3.mono HB.out.size)); clear hy hyb hb3))
        go_roundw
        case rel => exact ⟨t + 1, y, by omega, by go_num, rfl, HN2, HB3⟩
        case measure => simp [intOf]; omega
      · have htm : t = m := by omega
        subst htm
        have CM := hide (i_mayEnd w1.heap.size x _ F e wr (by omega) HEL.out (cellsAt_go HC.out HB.out (cellsAt_lt HC.out)))
        have HE := hide (hr_end (x := x) HPK.out (by rw [HW.out]; omega) HTK.out (by rw [HW.out]; exact HH.out))
        go_wp2_with (first | (go_at_call 37; refine CM.out.mono ?_; rintro r9 w9 ⟨rfl, h9⟩; rw [h9]; clear h9 w9))
        go_ret
        exact ⟨_, rfl, by simpa using HE.out, HBw.out⟩
end Go.Proofs.YtfohfljdgmlibaaDoor

/-
  The walk of FnSample: whatever the code is, a sample is taken, no row that is taken is shorter, and it is empty just where the model takes nothing.
-/
namespace Go.Proofs.YtfohfljdgmlibaaDoor
open Go.RowKit Go.Joins
set_option linter.unusedVariables false
set_option linter.unusedSimpArgs false
theorem src_below {w w' : World} {a : Option Addr} {zs : List Int} (h : SrcAt w a zs w.heap.size) (hb : Below w.heap.size w w') : SrcAt w' a zs w'.heap.size := by
  intro hne
  obtain ⟨b, off, e, hb1, hc⟩ := h hne
  exact ⟨b, off, e, Nat.lt_of_lt_of_le hb1 hb.size, fun j hj => (hb.cell (p := ⟨b, off + j, none⟩) hb1).trans (hc j hj)⟩
set_option maxRecDepth 100000 in
set_option maxHeartbeats 8000000 in
theorem sample_walk (a : Option Addr) (n cap : Nat) (zs : List Int) (w : World) (hl : zs.length = n) (hz : ∀ x ∈ zs, 0 ≤ x ∧ x ≤ 255) (hn : n ≤ 1048576) (hs : SrcAt w a zs w.heap.size) (hT : TzT w) :
    Calls Tryd.prog 5 #[.slice a n cap] w fun e w' => e = .returned (.bool true) ∧ Below w.heap.size w w' := by
  have HS := hide hs
  have HL := hide hl
  have HZ := hide hz
  have HT := hide hT
  have hn' : ¬ (1048576 : Int) < (n : Int) := by omega
  clear hs hl hz hT
  go_enter Tryd.func5, Tryd.ntmps5
  go_wp2_with (go_at_call 7; go_in)
  refine (d_sample a n cap zs _ HL.out HZ.out hn HS.out).mono ?_
  rintro e w1 ⟨ad, m, c, D, rfl, hD, hb1⟩
  have HD1 := hide hD
  have HB1 := hide hb1
  have hkl := smV_len hD.2.1
  clear hD hb1
  go_wp2_with fail
  refine (i_sampleV D m ad c _ HD1.out.1 HD1.out.2.1 HD1.out.2.2.2).mono ?_
  rintro e w2 ⟨adB, cB, rfl, hoB, hb2⟩
  have HB2 := hide (HB1.out.trans (hb2.mono HB1.out.size))
  have HD2 := hide (dm_go HD1.out hb2)
  have OB2 := hide hoB
  clear hoB hb2 HD1
  go_wp2_with fail
  refine (s_sampleV D m ad c _ HD2.out.1 HD2.out.2.1 HD2.out.2.2.2).mono ?_
  rintro e w3 ⟨adA, cA, rfl, hoA, hb3⟩
  have HB3 := hide (HB2.out.trans (hb3.mono HB2.out.size))
  have HD3 := hide (dm_go HD2.out hb3)
  have OB3 := hide (gOwn_after OB2.out hb3)
  have OA3 := hide hoA
  clear hoA hb3 HD2 OB2 HB1 HB2
  obtain ⟨L, hL⟩ : ∃ L, smV D = L := ⟨_, rfl⟩
  have HLL := hide hL
  rw [hL] at OB3 OA3 hkl
  rw [hL]
  clear hL
  have C0 := hide (fun (W : World) (h1 : TxAt W adB L W.heap.size) (h2 : TxAt W adA L W.heap.size) => l_sameTexts adB adA L.length cB cA L W rfl (by omega) h1 h2)
  cases hpk : pkB D
  · go_wp2_with fail
    refine (C0.out _ (tx_own OB3.out) (tx_own OA3.out)).mono ?_
    rintro e w4 ⟨rfl, hb4⟩
    have HB4 := hide (HB3.out.trans (hb4.mono HB3.out.size))
    have OB4 := hide (gOwn_after OB3.out hb4)
    have OA4 := hide (gOwn_after OA3.out hb4)
    clear hb4
    go_wp2_with fail
    refine (C0.out _ (tx_own OB4.out) (tx_own OA4.out)).mono ?_
    rintro e w5 ⟨rfl, hb5⟩
    have HB5 := hide (HB4.out.trans (hb5.mono HB4.out.size))
    clear hb5
    go_wp2
    go_ret
    exact ⟨rfl, HB5.out⟩
  · have hsv : smV D = sm D (D.n - 1) := smV_yes hpk
    have HTK : Hid (AcP D L) := hide (by rw [← HLL.out, hsv]; exact sm_taken hpk (by rw [← hsv, HLL.out]; omega))
    have HLS : Hid (∀ W, AcP D W → L.length ≤ W.length) := hide (fun W h => by rw [← HLL.out, hsv]; exact sm_least h)
    have HNU : Hid (decide (L.length = 0) = nl D (D.n - 1)) := hide (by rw [← HLL.out, hsv]; exact sm_null hpk)
    have HPK := hide hpk
    clear hsv hpk
    go_wp2_with fail
    refine (C0.out _ (tx_own OB3.out) (tx_own OA3.out)).mono ?_
    rintro e w4 ⟨rfl, hb4⟩
    have HB4 := hide (HB3.out.trans (hb4.mono HB3.out.size))
    have HD4 := hide (dm_go HD3.out hb4)
    have OB4 := hide (gOwn_after OB3.out hb4)
    clear hb4 HB3 HD3 OB3 OA3 C0
    go_wp2_with fail
    refine (d_accepts a n cap zs _ HL.out HZ.out hn (src_below HS.out HB4.out)).mono ?_
    rintro e w5 ⟨ad5, m5, c5, D5, sa, sc, T, rfl, -, hT6, -, hTx, hb5⟩
    have HB5 := hide (HB4.out.trans (hb5.mono HB4.out.size))
    have HD5 := hide (dm_go HD4.out hb5)
    have OB5 := hide (gOwn_after OB4.out hb5)
    have HX5 := hide hTx
    clear hTx hb5 HB4 HD4 OB4
    go_wp2_with fail
    refine (i_accepts D m ad c L L.length adB cB _ HD5.out.1 HD5.out.2.1 HD5.out.2.2.2 rfl (by omega) (tx_own OB5.out) (tzT_go HT.out HB5.out (Nat.le_refl _))).mono ?_
    rintro e w6 ⟨B6, rfl, hB6, hb6⟩
    have hB6t : B6 = true := hB6.2 HTK.out
    subst hB6t
    have HB6 := hide (HB5.out.trans (hb6.mono HB5.out.size))
    have HD6 := hide (dm_go HD5.out hb6)
    have HX6 := hide (tx_up (tx_go HX5.out hb6) hb6.size)
    clear hb6 hB6 HB5 HD5 OB5 HX5
    have hnu : ((((L.length : Nat) : Int) == 0) == (pkB D && nl D (D.n - 1))) = true := by
      rw [HPK.out, ← HNU.out]
      by_cases h0 : L.length = 0
      · simp [h0]
      · simp [h0]
    have HNQ := hide hnu
    clear hnu
    have CN := hide (fun (W : World) (h1 : DmA W ad m D) (h2 : TzT W) => i_nullable D m ad c W h1.1 h1.2.1 h1.2.2.2 h2)
    by_cases hle : L.length ≤ T.length
    · have hle' : (L.length : Int) ≤ (T.length : Int) := by omega
      have hle2 : decide (((T.length : Nat) : Int) ≥ ((L.length : Nat) : Int)) = true := decide_eq_true hle'
      go_wp2_with fail
      refine (CN.out _ HD6.out (tzT_go HT.out HB6.out (Nat.le_refl _))).mono ?_
      rintro e w7 ⟨rfl, hb7⟩
      have HB7 := hide (HB6.out.trans (hb7.mono HB6.out.size))
      clear hb7
      go_wp2
      go_ret
      exact ⟨ret_bool HNQ.out, HB7.out⟩
    · have hle' : ¬ (L.length : Int) ≤ (T.length : Int) := by omega
      have hle2 : decide (((T.length : Nat) : Int) ≥ ((L.length : Nat) : Int)) = false := decide_eq_false hle'
      go_wp2_with fail
      refine (i_accepts D m ad c T T.length sa sc _ HD6.out.1 HD6.out.2.1 HD6.out.2.2.2 rfl (by omega) HX6.out (tzT_go HT.out HB6.out (Nat.le_refl _))).mono ?_
      rintro e w7 ⟨B7, rfl, hB7, hb7⟩
      have hB7f : B7 = false := by
        cases B7
        · rfl
        · exact absurd (HLS.out T (hB7.1 rfl)) hle
      subst hB7f
      have HB7 := hide (HB6.out.trans (hb7.mono HB6.out.size))
      have HD7 := hide (dm_go HD6.out hb7)
      clear hb7 hB7
      go_wp2_with fail
      refine (CN.out _ HD7.out (tzT_go HT.out HB7.out (Nat.le_refl _))).mono ?_
      rintro e w8 ⟨rfl, hb8⟩
      have HB8 := hide (HB7.out.trans (hb8.mono HB7.out.size))
      clear hb8
      go_wp2
      go_ret
      exact ⟨ret_bool HNQ.out, HB8.out⟩
end Go.Proofs.YtfohfljdgmlibaaDoor

/-
  A table of numbers that lies as its initialiser laid it, as a list: of no program.
-/
namespace Go.Proofs.YtfohfljdgmlibaaDoor
open Go.RowKit Go.Joins
theorem tabis_of {P : Program} {W : World} {name : String} {k : IntKind} {zs : List Int} {g : Nat} {t e : TypeId} {n : Nat} (hg : P.globalNamed name = some g) (hty : (P.globals[g]?).map (·.type) = some t) (ht : P.underlying t = some (.array n e)) (he : P.underlying e = some (.int k)) (hce : P.cellsOf e = 1) (hct : P.cellsOf t = n)
    (h : Lib.VarReads P W name (Lib.tabData k zs)) : Lib.TabIs P W name k zs := by
  obtain ⟨g', t', cs, fuel, p, hg', ht', hvar, hd⟩ := h
  obtain rfl := Option.some.inj (hg.symm.trans hg')
  obtain rfl := Option.some.inj (hty.symm.trans ht')
  have e := Lib.cells_of_tab ht he hce hct hd
  unfold Lib.TabIs
  rw [hvar]; congr 1; cases cs; simp at e; rw [e]
end Go.Proofs.YtfohfljdgmlibaaDoor

/-
  The library's table of places of bits, as its initialiser lays it.
-/
namespace Go.Proofs.YtfohfljdgmlibaaDoor
open Go.RowKit Go.Joins
theorem tz_of {w : World} (h : Lib.TabIs Tryd.prog w "math/bits.deBruijn64tab" .u8 (Lib.deBruijn64tab.map Int.ofNat)) : TzT w := fun j hj => by
  have hc := Lib.TabIs.cell h (g := 0) (by kernel_rfl) j (by rw [List.length_map]; exact hj)
  rw [hc]
  congr 2
  rw [List.getD_eq_getElem?_getD, List.getD_eq_getElem?_getD, List.getElem?_map, List.getElem?_eq_getElem hj]
  rfl
end Go.Proofs.YtfohfljdgmlibaaDoor
