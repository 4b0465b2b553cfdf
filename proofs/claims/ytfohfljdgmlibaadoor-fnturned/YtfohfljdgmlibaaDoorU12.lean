/-
  Texts put together: TkN, TkE, AfI, SoMath.
-/
import Derived.Test.YtfohfljdgmlibaaDoorU11
import Derived.Test.YtfohfljdgmlibaaDoorU1
/-
  Contract: a model that is not right has ways that lead nowhere (the program's).
-/
namespace Go.Proofs.YtfohfljdgmlibaaDoor
open Go.RowKit Go.Joins
set_option linter.unusedVariables false
set_option linter.unusedSimpArgs false
set_option maxRecDepth 100000 in
set_option maxHeartbeats 8000000 in
theorem i_tracksN (D : Pn) (n : Nat) (a : Option Addr) (cap : Nat) (w : World) (hD : D.n = n) (hz : pnTot D ≤ 1048576) (hr : PnAt w a D w.heap.size) (hpk : pkB D = false) :
    Calls Tryd.prog 34 #[.slice a n cap] w fun r w' => r = .returned (.tuple #[.agg (tkN (.slice none 0 0)), .bool false]) ∧ Below w.heap.size w w' := by
  have HP := hide (fun (W : World) (hW : Below w.heap.size w W) => i_particle D n a cap W hD hz (pnAt_up (pnAt_go hr hW) hW.size))
  rw [hpk] at HP
  clear hr hD hz hpk
  have hz := tk_zero
  have hne := tkN_ne
  have HX := hide (boxes2 w #[.slice a n cap] (tkN (.slice none 0 0)) 24 55)
  have hsz : (Tryd.prog.info? 55).map (·.size) = some (tkN (.slice none 0 0)).size := by unfold tkN; rw [tkC_size]; exact tk_size
  have hall : (tkN (.slice none 0 0)).all (·.oneCell') = true := tkC_one none 0 0 _ _
  go_enter Tryd.func34, Tryd.ntmps34
  go_wp2_with (first
    | (go_at_call 53; refine (HP.out _ HX.out.2.2).mono ?_; rintro r w1 ⟨rfl, hb1⟩; have HB1 := hide (HX.out.2.2.trans (hb1.mono HX.out.2.2.size)); obtain ⟨tr9, h5⟩ := cellsAt_go HX.out.2.1 hb1 (cellsAt_lt HX.out.2.1); have H5 := hide (setRow_heap w1 _ _ (tkN (.slice none 0 0)) _ _ h5); clear hb1)
    | (refine wpList_store_row rfl 55 _ _ rfl (w.heap.size + 1) _ rfl rfl tr9 _ h5 hsz rfl hall ?_))
  exact bodyPost_ret (v := .tuple #[.agg (tkN (.slice none 0 0)), .bool false]) (by rw [results_cell_tmp Tryd.results34]; simp [asAddr, run_loadVar_row _ (w.heap.size + 1) tr9 55 (tkN (.slice none 0 0)) (0, 0) _ H5.out Tryd.underlying55 rfl hsz]) rfl ⟨rfl, below_setRow HB1.out (by omega) _⟩
end Go.Proofs.YtfohfljdgmlibaaDoor

/-
  Contracts: what is asked of the ways of a model (the program's).
-/
namespace Go.Proofs.YtfohfljdgmlibaaDoor
open Go.RowKit Go.Joins
set_option linter.unusedVariables false
set_option linter.unusedSimpArgs false
theorem i_mayEnd (T x : Nat) (mv : Value) (F : Nat → Nat) (e : Nat) (w : World) (hx : x < 18446744073709551616) (he : e < 18446744073709551616) (hC : CellsAt w T (tkC mv F e)) :
    Calls Tryd.prog 37 #[.pointer (some ⟨T, 0, none⟩), .int .u64 x] w fun r w' => r = .returned (.bool (decide (x &&& e ≠ 0))) ∧ w' = w := by
  have e0 := (cellsAt_cell hC 42).trans (tkC_get _ _ _ 42 (by decide))
  have e1 : tkV mv F e 42 = .int .u64 (e : Int) := rfl
  rw [e1] at e0
  have b1 : bits .and .u64 (x : Int) (e : Int) = ((x &&& e : Nat) : Int) := bits_and_u64_nat x e hx he
  clear e1 hC
  by_cases h0 : x &&& e = 0
  · have HD : Hid (decide (x &&& e ≠ 0) = false) := hide (by simp [h0])
    rw [h0] at b1
    clear h0
    go_enter Tryd.func37, Tryd.ntmps37
    go_wp2
    go_ret
    exact ⟨ret_bool (by rw [HD.out]), rfl⟩
  · have HD : Hid (decide (x &&& e ≠ 0) = true) := hide (by simp [h0])
    obtain ⟨y, hy⟩ : ∃ y, x &&& e = y := ⟨_, rfl⟩
    rw [hy] at b1 h0
    have hb : ((y : Int) == 0) = false := by rw [beq_eq_false_iff_ne]; omega
    have hb2 : ((y : Int) != 0) = true := by simp [bne, hb]
    clear hy h0
    go_enter Tryd.func37, Tryd.ntmps37
    go_wp2
    go_ret
    exact ⟨ret_bool (by rw [HD.out]), rfl⟩
theorem end_bit {nul : Bool} {l : Nat} {S : List Int} (h : BitS l S) : decide (1099511627776 &&& thL nul l 1099511627776 ≠ 0) = nul := by
  have h40 : ∀ j : Nat, (1099511627776 : Nat).testBit j = decide (40 = j) := fun j => by
    rw [show (1099511627776 : Nat) = 2 ^ 40 by decide, Nat.testBit_two_pow]
  have hl : l.testBit 40 = false := Nat.testBit_lt_two_pow (show l < 2 ^ 40 from h.1)
  cases nul
  · have e : 1099511627776 &&& thL false l 1099511627776 = 0 := by
      apply Nat.eq_of_testBit_eq
      intro j
      rw [Nat.testBit_and, h40, Nat.zero_testBit]
      by_cases e : 40 = j
      · subst e
        show (_ && l.testBit 40) = false
        rw [hl]; simp
      · rw [decide_eq_false e]; rfl
    rw [e]; simp
  · have e : ¬ (1099511627776 &&& thL true l 1099511627776 = 0) := fun e => by
      have := congrArg (fun z => Nat.testBit z 40) e
      simp only [Nat.testBit_and, h40, Nat.zero_testBit, thL, if_pos, Nat.testBit_or] at this
      simp at this
    simp [e]
theorem thL_lt {nul : Bool} {l : Nat} {S : List Int} (h : BitS l S) : thL nul l 1099511627776 < 2199023255552 := by
  unfold thL
  split
  · exact Nat.or_lt_two_pow (n := 41) (Nat.lt_of_lt_of_le h.1 (by decide)) (by decide)
  · exact Nat.lt_of_lt_of_le h.1 (by decide)
/-- The ways of a model, right or not. -/
def TkAns (D : Pn) (a : Option Addr) (n cap : Nat) (b : Option Addr) (m c : Nat) (F : Nat → Nat) (e : Nat) : Prop := (pkB D = true → b = a ∧ m = n ∧ c = cap ∧ TkOf D F e) ∧ (pkB D = false → F = (fun _ => 0) ∧ e = 0)
theorem i_tracks2 (D : Pn) (n : Nat) (a : Option Addr) (cap : Nat) (w : World) (hD : D.n = n) (hz : pnTot D ≤ 1048576) (hr : PnAt w a D w.heap.size) (hT : TzT w) :
    Calls Tryd.prog 34 #[.slice a n cap] w fun r w' => ∃ b m c F e, r = .returned (.tuple #[.agg (tkC (.slice b m c) F e), .bool (pkB D)]) ∧ TkAns D a n cap b m c F e ∧ Below w.heap.size w w' := by
  cases hpk : pkB D
  · refine (i_tracksN D n a cap w hD hz hr hpk).mono ?_
    rintro r w1 ⟨rfl, hb⟩
    exact ⟨none, 0, 0, fun _ => 0, 0, rfl, ⟨fun h => (by rw [hpk] at h; cases h), fun _ => ⟨rfl, rfl⟩⟩, hb⟩
  · refine (i_tracks D n a cap w hD hz hr hpk hT).mono ?_
    rintro r w1 ⟨F, e, rfl, h, hb⟩
    exact ⟨a, n, cap, F, e, rfl, ⟨fun _ => ⟨rfl, rfl, rfl, h⟩, fun h => (by rw [hpk] at h; cases h)⟩, hb⟩
theorem tk_null {D : Pn} {a : Option Addr} {n cap : Nat} {b : Option Addr} {m c : Nat} {F : Nat → Nat} {e : Nat} (h : TkAns D a n cap b m c F e) : decide (1099511627776 &&& e ≠ 0) = (pkB D && nl D (D.n - 1)) ∧ e < 18446744073709551616 := by
  cases hpk : pkB D
  · obtain ⟨-, rfl⟩ := h.2 hpk
    exact ⟨by simp, by decide⟩
  · obtain ⟨-, -, -, -, -, l, hl, rfl⟩ := h.1 hpk
    exact ⟨by rw [end_bit hl]; simp, Nat.lt_of_lt_of_le (thL_lt hl) (by decide)⟩
theorem tk_fit (b : Option Addr) (m c : Nat) (F : Nat → Nat) (e : Nat) : (Tryd.prog.info? 55).map (·.size) = some (tkC (.slice b m c) F e).size ∧ (tkN (.slice none 0 0)).size = (tkC (.slice b m c) F e).size := by
  unfold tkN
  rw [tkC_size, tkC_size]
  exact ⟨tk_size, rfl⟩
set_option maxRecDepth 100000 in
set_option maxHeartbeats 4000000 in
theorem i_nullable (D : Pn) (n : Nat) (a : Option Addr) (cap : Nat) (w : World) (hD : D.n = n) (hz : pnTot D ≤ 1048576) (hr : PnAt w a D w.heap.size) (hT : TzT w) :
    Calls Tryd.prog 12 #[.slice a n cap] w fun r w' => r = .returned (.bool (pkB D && nl D (D.n - 1))) ∧ Below w.heap.size w w' := by
  have hzz := tk_zero
  have hne := tkN_ne
  have CN := hide (fun (W : World) => i_only 40 W (by omega))
  have CT := hide (i_tracks2 D n a cap w hD hz hr hT)
  clear hr hD hz hT
  go_enter Tryd.func12, Tryd.ntmps12
  go_wp2_with (first
    | (go_at_call 34; refine CT.out.mono ?_; rintro r w1 ⟨b9, m9, c9, F, e, rfl, hA, hb1⟩; have HA := hide hA; have HB1 := hide hb1; obtain ⟨hsz, hzs⟩ := tk_fit b9 m9 c9 F e; have hall := tkC_one b9 m9 c9 F e; have HC := hide (cellsAt_new w1 (tkC (.slice b9 m9 c9) F e) 55); obtain ⟨CS, hCS⟩ : ∃ CS, tkC (.slice b9 m9 c9) F e = CS := ⟨_, rfl⟩; have HCS := hide hCS; rw [hCS] at hsz hzs hall HC ⊢; clear hA hb1 hCS)
    | (go_at_call 35; refine (CN.out _).mono ?_; rintro r9 w9 ⟨rfl, h9⟩; rw [h9]; clear h9 w9)
    | (refine wpList_store_row rfl 55 _ _ rfl w1.heap.size CS rfl rfl 55 _ (heap_alloc_last w1 _) hsz hzs hall ?_; rw [World.setRow_alloc_new])
    | (go_at_call 37; refine (i_mayEnd w1.heap.size 1099511627776 (.slice b9 m9 c9) F e _ (by decide) (tk_null HA.out).2 (by rw [HCS.out]; exact HC.out)).mono ?_; rintro r9 w9 ⟨rfl, h9⟩; rw [h9, (tk_null HA.out).1]; clear h9 w9))
  go_ret
  exact ⟨rfl, HB1.out.alloc HB1.out.size _⟩
end Go.Proofs.YtfohfljdgmlibaaDoor

/-
  Contracts: where a row may end that has one name more (the program's).
-/
namespace Go.Proofs.YtfohfljdgmlibaaDoor
open Go.RowKit Go.Joins
set_option linter.unusedVariables false
set_option linter.unusedSimpArgs false
/-- A position that a name leads to. -/
def mtP (D : Pn) (s : ByteArray) (q : Nat) : Bool := decide (q < D.n) && (decide (D.K q = 4) || (decide (D.K q = 1) && ((D.NM q).toList == s.toList)))
/-- A set is told by its bits. -/
def BitP (x : Nat) (P : Nat → Bool) : Prop := x < 1099511627776 ∧ ∀ q : Nat, x.testBit q = P q
set_option maxRecDepth 100000 in
set_option maxHeartbeats 4000000 in
theorem i_named (D : Pn) (n b0 off cap T : Nat) (F : Nat → Nat) (e : Nat) (s : ByteArray) (w : World) (hRN : RN D n) (hbs : b0 < w.heap.size) (hr : PnRow w b0 off D w.heap.size) (hC : CellsAt w T (tkC (.slice (some ⟨b0, off, none⟩) n cap) F e)) :
    Calls Tryd.prog 72 #[.pointer (some ⟨T, 0, none⟩), .string s] w fun r w' => ∃ x : Nat, r = .returned (.int .u64 (x : Int)) ∧ BitP x (mtP D s) ∧ Below w.heap.size w w' := by
  have HR := hide hr
  have HRN := hide hRN
  have hn40 := hRN.2.1
  have t0 := (cellsAt_cell hC 0).trans (tkC_get _ _ _ 0 (by decide))
  have t1 : tkV (.slice (some ⟨b0, off, none⟩) n cap) F e 0 = .slice (some ⟨b0, off, none⟩) n cap := rfl
  rw [t1] at t0
  clear hr hRN hC t1
  go_enter Tryd.func72, Tryd.ntmps72
  go_wp2
  go_loopw [5, 13] (fun sv mv wr => ∃ (i x : Nat), i ≤ n ∧ mv = .int .i64 i ∧ sv = .int .u64 (x : Int) ∧ x < 2 ^ i ∧ Hid (Below w.heap.size w wr) ∧ Hid (∀ q, q < i → x.testBit q = mtP D s q)) (fun _ mv _ => n - (intOf mv).toNat)
  case atStart => exact ⟨0, 0, Nat.zero_le _, rfl, rfl, by decide, hide (Below.refl _ _), hide (fun q hq => by omega)⟩
  case round =>
    obtain ⟨i, x, hi, rfl, rfl, hx, HB, HA⟩ := hrel
    by_cases hlt : i < n
    · obtain ⟨ad, cp, hc, -, -⟩ := HR.out i (by rw [HRN.out.1]; exact hlt)
      obtain ⟨c0, c1, c2, c3⟩ := pnCells_go hc hbs HB.out
      have hbl : b0 < wr.heap.size := Nat.lt_of_lt_of_le hbs HB.out.size
      have hii : (i : Int) < (n : Int) := by omega
      have hi0 : (0 : Int) ≤ (i : Int) := by omega
      have HMT : Hid (mtP D s i = (decide (D.K i = 4) || (decide (D.K i = 1) && ((D.NM i).toList == s.toList)))) := hide (by unfold mtP; rw [decide_eq_true (by rw [HRN.out.1]; exact hlt)]; rfl)
      have HB2 := hide (fun (o : Obj) => HB.out.alloc HB.out.size o)
      have hx40 : x < 1099511627776 := Nat.lt_of_lt_of_le hx (show (2 : Nat) ^ i ≤ 2 ^ 40 from Nat.pow_le_pow_right (by decide) (by omega))
      have h240 : 2 ^ i < 1099511627776 := Nat.pow_lt_pow_right (a := 2) (n := 40) (by decide) (by omega)
      have b1 : bits .or .u64 (x : Int) ((2 ^ i : Nat) : Int) = ((x ||| 2 ^ i : Nat) : Int) := u64_or_nat x (2 ^ i) (by omega) (by omega)
      have HX2 : Hid (x ||| 2 ^ i < 2 ^ (i + 1)) := hide (Nat.or_lt_two_pow (Nat.lt_of_lt_of_le hx (Nat.pow_le_pow_right (by decide) (by omega))) (Nat.pow_lt_pow_right (by decide) (by omega)))
      have HX3 : Hid (x < 2 ^ (i + 1)) := hide (Nat.lt_of_lt_of_le hx (Nat.pow_le_pow_right (by decide) (by omega)))
      have HXI : Hid (x.testBit i = false) := hide (Nat.testBit_lt_two_pow hx)
      have HY : Hid (mtP D s i = true → ∀ q, q < i + 1 → (x ||| 2 ^ i).testBit q = mtP D s q) := hide (fun h q hq => by
        rw [Nat.testBit_or, Nat.testBit_two_pow]
        by_cases e : q = i
        · subst e; rw [h]; simp
        · rw [HA.out q (by omega), decide_eq_false (fun h => e h.symm), Bool.or_false])
      have HNO : Hid (mtP D s i = false → ∀ q, q < i + 1 → x.testBit q = mtP D s q) := hide (fun h q hq => by
        by_cases e : q = i
        · subst e; rw [h]; exact HXI.out
        · exact HA.out q (by omega))
      have CN := hide (fun (W : World) => i_only i W (by omega))
      obtain ⟨pw, hpw⟩ : ∃ pw, 2 ^ i = pw := ⟨_, rfl⟩
      rw [hpw] at CN b1 HX2 HY
      obtain ⟨K, hK⟩ : ∃ K, D.K i = K := ⟨_, rfl⟩
      obtain ⟨NM, hNM⟩ : ∃ NM, D.NM i = NM := ⟨_, rfl⟩
      rw [hK] at c0 HMT
      rw [hNM] at c1 HMT
      clear hc hx hpw hK hNM h240
      by_cases h4 : K = 4
      · have HM : Hid (mtP D s i = true) := hide (by rw [HMT.out, h4]; rfl)
        subst h4
        go_wp2_with (first | (go_at_call 35; refine (CN.out _).mono ?_; rintro r9 w9 ⟨rfl, h9⟩; rw [h9]; clear h9 w9))
        go_roundw
        case rel => exact ⟨i + 1, x ||| pw, by omega, by go_num, rfl, HX2.out, hide (HB2.out _), hide (HY.out HM.out)⟩
        case measure => simp [intOf]; omega
      · have e4 : (K == 4) = false := by simpa using h4
        by_cases h1 : K = 1
        · subst h1
          cases hs : (NM.toList == s.toList)
          · have HM : Hid (mtP D s i = false) := hide (by rw [HMT.out, hs]; rfl)
            go_wp2
            go_roundw
            case rel => exact ⟨i + 1, x, by omega, by go_num, rfl, HX3.out, hide (HB2.out _), hide (HNO.out HM.out)⟩
            case measure => simp [intOf]; omega
          · have HM : Hid (mtP D s i = true) := hide (by rw [HMT.out, hs]; rfl)
            go_wp2_with (first | (go_at_call 35; refine (CN.out _).mono ?_; rintro r9 w9 ⟨rfl, h9⟩; rw [h9]; clear h9 w9))
            go_roundw
            case rel => exact ⟨i + 1, x ||| pw, by omega, by go_num, rfl, HX2.out, hide (HB2.out _), hide (HY.out HM.out)⟩
            case measure => simp [intOf]; omega
        · have e1 : (K == 1) = false := by simpa using h1
          have HM : Hid (mtP D s i = false) := hide (by rw [HMT.out, decide_eq_false h4, decide_eq_false h1]; rfl)
          clear h1 h4
          go_wp2
          go_roundw
          case rel => exact ⟨i + 1, x, by omega, by go_num, rfl, HX3.out, hide (HB2.out _), hide (HNO.out HM.out)⟩
          case measure => simp [intOf]; omega
    · have hin : i = n := by omega
      subst hin
      have HF : Hid (BitP x (mtP D s)) := hide ⟨Nat.lt_of_lt_of_le hx (show (2 : Nat) ^ i ≤ 2 ^ 40 from Nat.pow_le_pow_right (by decide) (by omega)), fun q => by
        by_cases hq : q < i
        · exact HA.out q hq
        · rw [Nat.testBit_lt_two_pow (Nat.lt_of_lt_of_le hx (Nat.pow_le_pow_right (by decide) (by omega)))]
          unfold mtP
          rw [decide_eq_false (by rw [HRN.out.1]; exact hq)]
          rfl⟩
      clear hx
      go_wp2
      go_ret
      exact ⟨x, rfl, HF.out, HB.out⟩
set_option maxRecDepth 100000 in
set_option maxHeartbeats 4000000 in
theorem i_after (D : Pn) (n b0 off cap T x : Nat) (F : Nat → Nat) (e : Nat) (s : ByteArray) (w : World) (hRN : RN D n) (hbs : b0 < w.heap.size) (hr : PnRow w b0 off D w.heap.size) (hC : CellsAt w T (tkC (.slice (some ⟨b0, off, none⟩) n cap) F e)) (hT : TzT w) (hx : x < 2199023255552) (hF : ∀ p, p < 41 → F p < 1099511627776) :
    Calls Tryd.prog 36 #[.pointer (some ⟨T, 0, none⟩), .int .u64 (x : Int), .string s] w fun r w' => ∃ y : Nat, r = .returned (.int .u64 (y : Int)) ∧ y < 1099511627776 ∧ (∀ q, y.testBit q = true ↔ (∃ p : Nat, p < 41 ∧ x.testBit p = true ∧ (F p).testBit q = true) ∧ mtP D s q = true) ∧ Below w.heap.size w w' := by
  have CNM := hide (fun (W : World) (hW : Below w.heap.size w W) => i_named D n b0 off cap T F e s W hRN (Nat.lt_of_lt_of_le hbs hW.size) (pnRow_up (pnRow_go hr hbs hW) hW.size) (cellsAt_go hC hW (cellsAt_lt hC)))
  have CL := hide (i_list x w (by omega) hT)
  have HC := hide hC
  have HF := hide hF
  have HRG := hide (fun z hz => bts_range (n := 41) (x := x) (by omega) hx z hz)
  have HMB := hide (fun z => bts_mem (x + 1) x (by omega) (by omega) z)
  have hlen := bts_len (x := x) (by omega)
  clear hr hRN hC hT hF
  go_enter Tryd.func36, Tryd.ntmps36
  go_wp2_with (first
    | (go_at_call 43; refine CL.out.mono ?_; rintro r w2 ⟨ad2, c2, rfl, ho2, hb2⟩; have HO2 := hide ho2; have HB2 := hide hb2; clear ho2 hb2))
  obtain ⟨L, hL⟩ : ∃ L, bts x = L := ⟨_, rfl⟩
  rw [hL] at HO2 HRG HMB hlen ⊢
  have HRA := hide (own_rowAt9 HO2.out)
  have HCC := hide (cellsAt_go HC.out HB2.out (cellsAt_lt HC.out))
  clear hL CL
  go_loopw [7, 13] (fun sv mv wr => ∃ (i y : Nat), i ≤ L.length ∧ mv = .int .i64 i ∧ sv = .int .u64 (y : Int) ∧ y < 1099511627776 ∧ Hid (wr = w2) ∧ Hid (∀ q, y.testBit q = true ↔ ∃ j : Nat, j < i ∧ (F (L[j]?.getD 0).toNat).testBit q = true)) (fun _ mv _ => L.length - (intOf mv).toNat)
  case atStart => exact ⟨0, 0, Nat.zero_le _, rfl, rfl, by decide, hide rfl, hide (fun q => by simp)⟩
  case round =>
    obtain ⟨i, y, hi, rfl, rfl, hy, HW, HA⟩ := hrel
    by_cases hlt : i < L.length
    · obtain ⟨b, off9, rfl, hb, hc⟩ := rowAt_cell HRA.out i hlt
      have k0 : wr.cell? ⟨b, off9 + i, none⟩ = some (.int .i64 (L[i]?.getD 0)) := by rw [HW.out]; exact hc i hlt
      have hz := HRG.out (L[i]?.getD 0) (by rw [List.getElem?_eq_getElem hlt]; exact List.getElem_mem hlt)
      obtain ⟨v, hv⟩ : ∃ v, L[i]?.getD 0 = v := ⟨_, rfl⟩
      have HV := hide hv
      rw [hv] at k0 hz
      obtain ⟨p, rfl⟩ : ∃ p : Nat, v = (p : Int) := ⟨v.toNat, by omega⟩
      have hp41 : p < 41 := by omega
      have k1 : wr.cell? ⟨T, 1 + p, none⟩ = some (.int .u64 (F p : Int)) := by rw [HW.out]; exact (cellsAt_cell HCC.out (1 + p)).trans (tkC_at _ _ _ _ hp41)
      have hfp := HF.out p hp41
      have b1 : bits .or .u64 (y : Int) (F p : Int) = ((y ||| F p : Nat) : Int) := u64_or_nat y (F p) (by omega) (by omega)
      have HY2 : Hid (y ||| F p < 1099511627776) := hide (or_lt40 hy hfp)
      have HA2 : Hid (∀ q, (y ||| F p).testBit q = true ↔ ∃ j : Nat, j < i + 1 ∧ (F (L[j]?.getD 0).toNat).testBit q = true) := hide (fun q => by
        rw [Nat.testBit_or, Bool.or_eq_true, HA.out q]
        constructor
        · rintro (⟨j, hj, h⟩ | h)
          · exact ⟨j, by omega, h⟩
          · exact ⟨i, by omega, by rw [HV.out]; exact h⟩
        · rintro ⟨j, hj, h⟩
          by_cases e : j = i
          · subst e; rw [HV.out] at h; exact .inr h
          · exact .inl ⟨j, by omega, h⟩)
      obtain ⟨fp, hfp2⟩ : ∃ fp, F p = fp := ⟨_, rfl⟩
      rw [hfp2] at k1 b1 HY2 HA2 hfp
      have hii : (i : Int) < (L.length : Int) := by omega
      have hi0 : (0 : Int) ≤ (i : Int) := by omega
      have hpi : (p : Int) < 41 := by omega
      have hp0 : (0 : Int) ≤ (p : Int) := by omega
      clear hc hv hfp2 hz
      go_wp2
      go_roundw
      case rel => exact ⟨i + 1, y ||| fp, by omega, by go_num, rfl, HY2.out, HW, HA2⟩
      case measure => simp [intOf]; omega
    · have hil : i = L.length := by omega
      subst hil
      have HW2 : Hid (Below w.heap.size w wr) := hide (by rw [HW.out]; exact HB2.out)
      have CN2 := hide (CNM.out wr HW2.out)
      go_wp2_with (first
        | (go_at_call 72; refine CN2.out.mono ?_; rintro r w3 ⟨z, rfl, hz, hb3⟩; have HZ := hide hz; have hz40 := hz.1; have b2 : bits .and .u64 (y : Int) (z : Int) = ((y &&& z : Nat) : Int) := bits_and_u64_nat y z (by omega) (by omega); have HB3 := hide (HW2.out.trans (hb3.mono HW2.out.size)); clear hz hb3))
      go_ret
      refine ⟨y &&& z, rfl, Nat.lt_of_le_of_lt Nat.and_le_left hy, fun q => ?_, HB3.out⟩
      rw [Nat.testBit_and, Bool.and_eq_true, HZ.out.2 q, HA.out q]
      refine and_congr_left (fun _ => ?_)
      constructor
      · rintro ⟨j, hj, h⟩
        have hm : L[j]?.getD 0 ∈ L := by rw [List.getElem?_eq_getElem hj]; exact List.getElem_mem hj
        obtain ⟨p, e, hp⟩ := (HMB.out _).1 hm
        have := HRG.out _ hm
        rw [e] at h this
        exact ⟨p, by omega, hp, h⟩
      · rintro ⟨p, hp, h1, h2⟩
        have hm : (p : Int) ∈ L := (HMB.out _).2 ⟨p, rfl, h1⟩
        obtain ⟨j, hj, e⟩ := List.mem_iff_getElem.1 hm
        exact ⟨j, hj, by rw [List.getElem?_eq_getElem hj]; show (F (L[j]).toNat).testBit q = true; rw [e]; exact h2⟩
end Go.Proofs.YtfohfljdgmlibaaDoor

/-
  Plain facts on rows of numbers in order, each once, of no program.
-/
namespace Go.Proofs.YtfohfljdgmlibaaDoor
set_option linter.unusedVariables false
set_option linter.unusedSimpArgs false
/-- In order, each once. -/
def insL (v : Int) : List Int → List Int
  | [] => [v]
  | h :: t => if h < v then h :: insL v t else if h = v then h :: t else v :: h :: t
def srtL (L : List Int) : List Int := L.foldl (fun o v => insL v o) []
theorem insL_mem {v x : Int} : ∀ {l : List Int}, x ∈ insL v l ↔ x = v ∨ x ∈ l
  | [] => by simp [insL]
  | h :: t => by
    rw [insL]
    split
    · rw [List.mem_cons, insL_mem (l := t), List.mem_cons]; constructor <;> (intro h; rcases h with h | h | h <;> simp [h])
    · split
      · rename_i e; subst e; simp
      · simp
theorem insL_sorted {v : Int} : ∀ {l : List Int}, l.Pairwise (· < ·) → (insL v l).Pairwise (· < ·)
  | [], _ => by simp [insL]
  | h :: t, hp => by
    obtain ⟨h1, h2⟩ := List.pairwise_cons.1 hp
    rw [insL]
    split
    · refine List.pairwise_cons.2 ⟨fun x hx => ?_, insL_sorted h2⟩
      rcases insL_mem.1 hx with rfl | hx
      · assumption
      · exact h1 x hx
    · split
      · exact hp
      · refine List.pairwise_cons.2 ⟨fun x hx => ?_, hp⟩
        rcases List.mem_cons.1 hx with rfl | hx
        · omega
        · have := h1 x hx; omega
theorem srt_fold : ∀ (L o : List Int), o.Pairwise (· < ·) → (L.foldl (fun o v => insL v o) o).Pairwise (· < ·) ∧ ∀ x, x ∈ L.foldl (fun o v => insL v o) o ↔ x ∈ L ∨ x ∈ o
  | [], o, h => ⟨h, fun x => by simp⟩
  | v :: L, o, h => by
    obtain ⟨h1, h2⟩ := srt_fold L (insL v o) (insL_sorted h)
    refine ⟨h1, fun x => ?_⟩
    rw [List.foldl_cons, h2 x, insL_mem, List.mem_cons]
    constructor
    · rintro (h | h | h) <;> simp [h]
    · rintro ((h | h) | h) <;> simp [h]
theorem srt_sorted (L : List Int) : (srtL L).Pairwise (· < ·) := (srt_fold L [] List.Pairwise.nil).1
theorem srt_mem (L : List Int) (x : Int) : x ∈ srtL L ↔ x ∈ L := by
  have := (srt_fold L [] List.Pairwise.nil).2 x
  unfold srtL
  simpa using this
theorem lt_nodup {l : List Int} (h : l.Pairwise (· < ·)) : l.Nodup := h.imp fun hab e => by omega
theorem srt_merge {L : List Int} (h : L.Nodup) : L.mergeSort (fun x y => decide (x ≤ y)) = srtL L := by
  have hp : (L.mergeSort fun x y => decide (x ≤ y)).Perm (srtL L) := by
    refine (List.mergeSort_perm _ _).trans ?_
    exact (List.perm_ext_iff_of_nodup h (lt_nodup (srt_sorted L))).2 fun x => (srt_mem L x).symm
  refine List.Perm.eq_of_pairwise (le := fun a b => decide (a ≤ b) = true) (fun a b _ _ h1 h2 => by simp only [decide_eq_true_eq] at h1 h2; omega) (List.pairwise_mergeSort (fun a b c h1 h2 => by simp only [decide_eq_true_eq] at h1 h2 ⊢; omega) (fun a b => by simp only [Bool.or_eq_true, decide_eq_true_eq]; omega) L) ((srt_sorted L).imp fun h => by simp only [decide_eq_true_eq]; omega) hp
theorem srt_len {L : List Int} (h : L.Nodup) : (srtL L).length = L.length := by rw [← srt_merge h, List.length_mergeSort]
/-- What one more number makes of a row in order: k of it stand ahead. -/
theorem insL_at {v : Int} : ∀ {l : List Int} {k : Nat}, k ≤ l.length → (∀ j, j < k → l[j]?.getD 0 < v) → (∀ h : k < l.length, v < l[k]?.getD 0) → insL v l = l.take k ++ v :: l.drop k
  | [], k, hk, h1, h2 => by
    have : k = 0 := by simpa using hk
    subst this; rfl
  | h :: t, 0, hk, h1, h2 => by
    have := h2 (by simp)
    simp at this
    rw [insL, if_neg (by omega), if_neg (by omega)]
    rfl
  | h :: t, k + 1, hk, h1, h2 => by
    have h0 := h1 0 (by omega)
    simp at h0
    rw [insL, if_pos h0, insL_at (l := t) (k := k) (by simpa using hk) (fun j hj => by have := h1 (j + 1) (by omega); simpa using this) (fun hh => by have := h2 (by simpa using hh); simpa using this)]
    rfl
theorem insL_dup {v : Int} : ∀ {l : List Int} {k : Nat}, k < l.length → (∀ j, j < k → l[j]?.getD 0 < v) → l[k]?.getD 0 = v → insL v l = l
  | [], k, hk, h1, h2 => by simp at hk
  | h :: t, 0, hk, h1, h2 => by
    simp at h2
    rw [insL, if_neg (by omega), if_pos h2]
  | h :: t, k + 1, hk, h1, h2 => by
    have h0 := h1 0 (by omega)
    simp at h0
    rw [insL, if_pos h0, insL_dup (l := t) (k := k) (by simpa using hk) (fun j hj => by have := h1 (j + 1) (by omega); simpa using this) (by simpa using h2)]
theorem srt_take {L : List Int} {k : Nat} (h : k < L.length) : srtL (L.take (k + 1)) = insL (L[k]?.getD 0) (srtL (L.take k)) := by
  unfold srtL
  rw [List.take_succ_eq_append_getElem h, List.foldl_append, List.getElem?_eq_getElem h]
  rfl
theorem insL_len (v : Int) : ∀ l : List Int, (insL v l).length ≤ l.length + 1
  | [] => by simp [insL]
  | h :: t => by
    rw [insL]
    split
    · have := insL_len v t; simp; omega
    · split <;> simp
theorem srt_len_le (L : List Int) : ∀ k, k ≤ L.length → (srtL (L.take k)).length ≤ k
  | 0, h => by simp [srtL]
  | k + 1, h => by
    rw [srt_take (by omega)]
    have h1 := insL_len (L[k]?.getD 0) (srtL (L.take k))
    have h2 := srt_len_le L k (by omega)
    omega
end Go.Proofs.YtfohfljdgmlibaaDoor
