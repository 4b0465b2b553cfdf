/-
  Contracts: where a row may end that has one name more (the program's).
-/
import Derived.Test.YtfohfljdgmlibaaDoorR16
namespace Go.Proofs.YtfohfljdgmlibaaDoor
open Go.RowKit Go.Joins
set_option linter.unusedVariables false
set_option linter.unusedSimpArgs false
/-- A position that a name leads to. -/
def mtP (D : Pn) (s : ByteArray) (q : Nat) : Bool := decide (q < D.n) && (decide (D.K q = 4) || (decide (D.K q = 1) && ((D.NM q).toList == s.toList)))
/-- A set is told by its bits. -/
def BitP (x : Nat) (P : Nat → Bool) : Prop := x < 1099511627776 ∧ ∀ q : Nat, x.testBit q = P q
set_option maxRecDepth 100000 in
set_option maxHeartbeats 4000000 in
theorem i_named (D : Pn) (n b0 off cap T : Nat) (F : Nat → Nat) (e : Nat) (s : ByteArray) (w : World) (hRN : RN D n) (hbs : b0 < w.heap.size) (hr : PnRow w b0 off D w.heap.size) (hC : CellsAt w T (tkC (.slice (some ⟨b0, off, none⟩) n cap) F e)) :
    Calls Tryd.prog 72 #[.pointer (some ⟨T, 0, none⟩), .string s] w fun r w' => ∃ x : Nat, r = .returned (.int .u64 (x : Int)) ∧ BitP x (mtP D s) ∧ Below w.heap.size w w' := by
  have HR := hide hr
  have HRN := hide hRN
  have hn40 := hRN.2.1
  have t0 := (cellsAt_cell hC 0).trans (tkC_get _ _ _ 0 (by decide))
  have t1 : tkV (.slice (some ⟨b0, off, none⟩) n cap) F e 0 = .slice (some ⟨b0, off, none⟩) n cap := rfl
  rw [t1] at t0
  clear hr hRN hC t1
  go_enter Tryd.func72, Tryd.ntmps72
  go_wp2
  go_loopw [5, 13] (fun sv mv wr => ∃ (i x : Nat), i ≤ n ∧ mv = .int .i64 i ∧ sv = .int .u64 (x : Int) ∧ x < 2 ^ i ∧ Hid (Below w.heap.size w wr) ∧ Hid (∀ q, q < i → x.testBit q = mtP D s q)) (fun _ mv _ => n - (intOf mv).toNat)
  case atStart => exact ⟨0, 0, Nat.zero_le _, rfl, rfl, by decide, hide (Below.refl _ _), hide (fun q hq => by omega)⟩
  case round =>
    obtain ⟨i, x, hi, rfl, rfl, hx, HB, HA⟩ := hrel
    by_cases hlt : i < n
    · obtain ⟨ad, cp, hc, -, -⟩ := HR.out i (by rw [HRN.out.1]; exact hlt)
      obtain ⟨c0, c1, c2, c3⟩ := pnCells_go hc hbs HB.out
      have hbl : b0 < wr.heap.size := Nat.lt_of_lt_of_le hbs HB.out.size
      have hii : (i : Int) < (n : Int) := by omega
      have hi0 : (0 : Int) ≤ (i : Int) := by omega
      have HMT : Hid (mtP D s i = (decide (D.K i = 4) || (decide (D.K i = 1) && ((D.NM i).toList == s.toList)))) := hide (by unfold mtP; rw [decide_eq_true (by rw [HRN.out.1]; exact hlt)]; rfl)
      have HB2 := hide (fun (o : Obj) => HB.out.alloc HB.out.size o)
      have hx40 : x < 1099511627776 := Nat.lt_of_lt_of_le hx (show (2 : Nat) ^ i ≤ 2 ^ 40 from Nat.pow_le_pow_right (by decide) (by omega))
      have h240 : 2 ^ i < 1099511627776 := Nat.pow_lt_pow_right (a := 2) (n := 40) (by decide) (by omega)
      have b1 : bits .or .u64 (x : Int) ((2 ^ i : Nat) : Int) = ((x ||| 2 ^ i : Nat) : Int) := u64_or_nat x (2 ^ i) (by omega) (by omega)
      have HX2 : Hid (x ||| 2 ^ i < 2 ^ (i + 1)) := hide (Nat.or_lt_two_pow (Nat.lt_of_lt_of_le hx (Nat.pow_le_pow_right (by decide) (by omega))) (Nat.pow_lt_pow_right (by decide) (by omega)))
      have HX3 : Hid (x < 2 ^ (i + 1)) := hide (Nat.lt_of_lt_of_le hx (Nat.pow_le_pow_right (by decide) (by omega)))
      have HXI : Hid (x.testBit i = false) := hide (Nat.testBit_lt_two_pow hx)
      have HY : Hid (mtP D s i = true → ∀ q, q < i + 1 → (x ||| 2 ^ i).testBit q = mtP D s q) := hide (fun h q hq => by
        rw [Nat.testBit_or, Nat.testBit_two_pow]
        by_cases e : q = i
        · subst e; rw [h]; simp
        · rw [HA.out q (by omega), decide_eq_false (fun h => e h.symm), Bool.or_false])
      have HNO : Hid (mtP D s i = false → ∀ q, q < i + 1 → x.testBit q = mtP D s q) := hide (fun h q hq => by
        by_cases e : q = i
        · subst e; rw [h]; exact HXI.out
        · exact HA.out q (by omega))
      have CN := hide (fun (W : World) => i_only i W (by omega))
      obtain ⟨pw, hpw⟩ : ∃ pw, 2 ^ i = pw := ⟨_, rfl⟩
      rw [hpw] at CN b1 HX2 HY
      obtain ⟨K, hK⟩ : ∃ K, D.K i = K := ⟨_, rfl⟩
      obtain ⟨NM, hNM⟩ : ∃ NM, D.NM i = NM := ⟨_, rfl⟩
      rw [hK] at c0 HMT
      rw [hNM] at c1 HMT
      clear hc hx hpw hK hNM h240
      by_cases h4 : K = 4
      · have HM : Hid (mtP D s i = true) := hide (by rw [HMT.out, h4]; rfl)
        subst h4
        go_wp2_with (first | (go_at_call 35; refine (CN.out _).mono ?_; rintro r9 w9 ⟨rfl, h9⟩; rw [h9]; clear h9 w9))
        go_roundw
        case rel => exact ⟨i + 1, x ||| pw, by omega, by go_num, rfl, HX2.out, hide (HB2.out _), hide (HY.out HM.out)⟩
        case measure => simp [intOf]; omega
      · have e4 : (K == 4) = false := by simpa using h4
        by_cases h1 : K = 1
        · subst h1
          cases hs : (NM.toList == s.toList)
          · have HM : Hid (mtP D s i = false) := hide (by rw [HMT.out, hs]; rfl)
            go_wp2
            go_roundw
            case rel => exact ⟨i + 1, x, by omega, by go_num, rfl, HX3.out, hide (HB2.out _), hide (HNO.out HM.out)⟩
            case measure => simp [intOf]; omega
          · have HM : Hid (mtP D s i = true) := hide (by rw [HMT.out, hs]; rfl)
            go_wp2_with (first | (go_at_call 35; refine (CN.out _).mono ?_; rintro r9 w9 ⟨rfl, h9⟩; rw [h9]; clear h9 w9))
            go_roundw
            case rel => exact ⟨i + 1, x ||| pw, by omega, by go_num, rfl, HX2.out, hide (HB2.out _), hide (HY.out HM.out)⟩
            case measure => simp [intOf]; omega
        · have e1 : (K == 1) = false := by simpa using h1
          have HM : Hid (mtP D s i = false) := hide (by rw [HMT.out, decide_eq_false h4, decide_eq_false h1]; rfl)
          clear h1 h4
          go_wp2
          go_roundw
          case rel => exact ⟨i + 1, x, by omega, by go_num, rfl, HX3.out, hide (HB2.out _), hide (HNO.out HM.out)⟩
          case measure => simp [intOf]; omega
    · have hin : i = n := by omega
      subst hin
      have HF : Hid (BitP x (mtP D s)) := hide ⟨Nat.lt_of_lt_of_le hx (show (2 : Nat) ^ i ≤ 2 ^ 40 from Nat.pow_le_pow_right (by decide) (by omega)), fun q => by
        by_cases hq : q < i
        · exact HA.out q hq
        · rw [Nat.testBit_lt_two_pow (Nat.lt_of_lt_of_le hx (Nat.pow_le_pow_right (by decide) (by omega)))]
          unfold mtP
          rw [decide_eq_false (by rw [HRN.out.1]; exact hq)]
          rfl⟩
      clear hx
      go_wp2
      go_ret
      exact ⟨x, rfl, HF.out, HB.out⟩
set_option maxRecDepth 100000 in
set_option maxHeartbeats 4000000 in
theorem i_after (D : Pn) (n b0 off cap T x : Nat) (F : Nat → Nat) (e : Nat) (s : ByteArray) (w : World) (hRN : RN D n) (hbs : b0 < w.heap.size) (hr : PnRow w b0 off D w.heap.size) (hC : CellsAt w T (tkC (.slice (some ⟨b0, off, none⟩) n cap) F e)) (hT : TzT w) (hx : x < 2199023255552) (hF : ∀ p, p < 41 → F p < 1099511627776) :
    Calls Tryd.prog 36 #[.pointer (some ⟨T, 0, none⟩), .int .u64 (x : Int), .string s] w fun r w' => ∃ y : Nat, r = .returned (.int .u64 (y : Int)) ∧ y < 1099511627776 ∧ (∀ q, y.testBit q = true ↔ (∃ p : Nat, p < 41 ∧ x.testBit p = true ∧ (F p).testBit q = true) ∧ mtP D s q = true) ∧ Below w.heap.size w w' := by
  have CNM := hide (fun (W : World) (hW : Below w.heap.size w W) => i_named D n b0 off cap T F e s W hRN (Nat.lt_of_lt_of_le hbs hW.size) (pnRow_up (pnRow_go hr hbs hW) hW.size) (cellsAt_go hC hW (cellsAt_lt hC)))
  have CL := hide (i_list x w (by omega) hT)
  have HC := hide hC
  have HF := hide hF
  have HRG := hide (fun z hz => bts_range (n := 41) (x := x) (by omega) hx z hz)
  have HMB := hide (fun z => bts_mem (x + 1) x (by omega) (by omega) z)
  have hlen := bts_len (x := x) (by omega)
  clear hr hRN hC hT hF
  go_enter Tryd.func36, Tryd.ntmps36
  go_wp2_with (first
    | (go_at_call 43; refine CL.out.mono ?_; rintro r w2 ⟨ad2, c2, rfl, ho2, hb2⟩; have HO2 := hide ho2; have HB2 := hide hb2; clear ho2 hb2))
  obtain ⟨L, hL⟩ : ∃ L, bts x = L := ⟨_, rfl⟩
  rw [hL] at HO2 HRG HMB hlen ⊢
  have HRA := hide (own_rowAt9 HO2.out)
  have HCC := hide (cellsAt_go HC.out HB2.out (cellsAt_lt HC.out))
  clear hL CL
  go_loopw [7, 13] (fun sv mv wr => ∃ (i y : Nat), i ≤ L.length ∧ mv = .int .i64 i ∧ sv = .int .u64 (y : Int) ∧ y < 1099511627776 ∧ Hid (wr = w2) ∧ Hid (∀ q, y.testBit q = true ↔ ∃ j : Nat, j < i ∧ (F (L[j]?.getD 0).toNat).testBit q = true)) (fun _ mv _ => L.length - (intOf mv).toNat)
  case atStart => exact ⟨0, 0, Nat.zero_le _, rfl, rfl, by decide, hide rfl, hide (fun q => by simp)⟩
  case round =>
    obtain ⟨i, y, hi, rfl, rfl, hy, HW, HA⟩ := hrel
    by_cases hlt : i < L.length
    · obtain ⟨b, off9, rfl, hb, hc⟩ := rowAt_cell HRA.out i hlt
      have k0 : wr.cell? ⟨b, off9 + i, none⟩ = some (.int .i64 (L[i]?.getD 0)) := by rw [HW.out]; exact hc i hlt
      have hz := HRG.out (L[i]?.getD 0) (by rw [List.getElem?_eq_getElem hlt]; exact List.getElem_mem hlt)
      obtain ⟨v, hv⟩ : ∃ v, L[i]?.getD 0 = v := ⟨_, rfl⟩
      have HV := hide hv
      rw [hv] at k0 hz
      obtain ⟨p, rfl⟩ : ∃ p : Nat, v = (p : Int) := ⟨v.toNat, by omega⟩
      have hp41 : p < 41 := by omega
      have k1 : wr.cell? ⟨T, 1 + p, none⟩ = some (.int .u64 (F p : Int)) := by rw [HW.out]; exact (cellsAt_cell HCC.out (1 + p)).trans (tkC_at _ _ _ _ hp41)
      have hfp := HF.out p hp41
      have b1 : bits .or .u64 (y : Int) (F p : Int) = ((y ||| F p : Nat) : Int) := u64_or_nat y (F p) (by omega) (by omega)
      have HY2 : Hid (y ||| F p < 1099511627776) := hide (or_lt40 hy hfp)
      have HA2 : Hid (∀ q, (y ||| F p).testBit q = true ↔ ∃ j : Nat, j < i + 1 ∧ (F (L[j]?.getD 0).toNat).testBit q = true) := hide (fun q => by
        rw [Nat.testBit_or, Bool.or_eq_true, HA.out q]
        constructor
        · rintro (⟨j, hj, h⟩ | h)
          · exact ⟨j, by omega, h⟩
          · exact ⟨i, by omega, by rw [HV.out]; exact h⟩
        · rintro ⟨j, hj, h⟩
          by_cases e : j = i
          · subst e; rw [HV.out] at h; exact .inr h
          · exact .inl ⟨j, by omega, h⟩)
      obtain ⟨fp, hfp2⟩ : ∃ fp, F p = fp := ⟨_, rfl⟩
      rw [hfp2] at k1 b1 HY2 HA2 hfp
      have hii : (i : Int) < (L.length : Int) := by omega
      have hi0 : (0 : Int) ≤ (i : Int) := by omega
      have hpi : (p : Int) < 41 := by omega
      have hp0 : (0 : Int) ≤ (p : Int) := by omega
      clear hc hv hfp2 hz
      go_wp2
      go_roundw
      case rel => exact ⟨i + 1, y ||| fp, by omega, by go_num, rfl, HY2.out, HW, HA2⟩
      case measure => simp [intOf]; omega
    · have hil : i = L.length := by omega
      subst hil
      have HW2 : Hid (Below w.heap.size w wr) := hide (by rw [HW.out]; exact HB2.out)
      have CN2 := hide (CNM.out wr HW2.out)
      go_wp2_with (first
        | (go_at_call 72; refine CN2.out.mono ?_; rintro r w3 ⟨z, rfl, hz, hb3⟩; have HZ := hide hz; have hz40 := hz.1; have b2 : bits .and .u64 (y : Int) (z : Int) = ((y &&& z : Nat) : Int) := bits_and_u64_nat y z (by omega) (by omega); have HB3 := hide (HW2.out.trans (hb3.mono HW2.out.size)); clear hz hb3))
      go_ret
      refine ⟨y &&& z, rfl, Nat.lt_of_le_of_lt Nat.and_le_left hy, fun q => ?_, HB3.out⟩
      rw [Nat.testBit_and, Bool.and_eq_true, HZ.out.2 q, HA.out q]
      refine and_congr_left (fun _ => ?_)
      constructor
      · rintro ⟨j, hj, h⟩
        have hm : L[j]?.getD 0 ∈ L := by rw [List.getElem?_eq_getElem hj]; exact List.getElem_mem hj
        obtain ⟨p, e, hp⟩ := (HMB.out _).1 hm
        have := HRG.out _ hm
        rw [e] at h this
        exact ⟨p, by omega, hp, h⟩
      · rintro ⟨p, hp, h1, h2⟩
        have hm : (p : Int) ∈ L := (HMB.out _).2 ⟨p, rfl, h1⟩
        obtain ⟨j, hj, e⟩ := List.mem_iff_getElem.1 hm
        exact ⟨j, hj, by rw [List.getElem?_eq_getElem hj]; show (F (L[j]).toNat).testBit q = true; rw [e]; exact h2⟩
end Go.Proofs.YtfohfljdgmlibaaDoor
