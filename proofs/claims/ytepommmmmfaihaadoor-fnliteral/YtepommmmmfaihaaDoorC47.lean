/-
  Texts put together: ShU, RnMath.
-/
import Derived.Test.YtepommmmmfaihaaDoorC46
import Derived.Test.YtepommmmmfaihaaDoorC16
import Derived.Lib.RuneBytes
import Derived.Lib.MapLaws
import Derived.Laws.BytesArg
/-
  Contract of the specification: one of the shortest texts of a node: counts, and the whole.
-/
namespace Go.Proofs.YtepommmmmfaihaaDoor
open Go.RowKit Go.Joins
set_option linter.unusedVariables false
set_option linter.unusedSimpArgs false
theorem sp_more {f : FuncId} {args : Array Value} {X : Rx} {n bd bd' : Nat} {w : World} (h : Calls Tryd.prog f args w (ShAns X n bd w)) (hb : bd ≤ bd') : Calls Tryd.prog f args w (ShAns X n bd' w) := by
  refine h.mono ?_
  rintro e w' ⟨ad, c, k, M, o, h1, h2, h3, h4, h5, h6⟩
  exact ⟨ad, c, k, M, o, h1, h2, h3, Nat.le_trans h4 hb, h5, h6⟩
set_option maxRecDepth 100000 in
set_option maxHeartbeats 8000000 in
theorem h_cnt (X : Rx) (len : Nat) (hX : X.len = len) (hlen : len ≤ 120) (b off cap n : Nat) (w : World) (hn : n < len) (hb : b < w.heap.size) (hr : RxRow w b off X w.heap.size) (i : Nat) (hk : X.K n = 5) (hA : X.A n = (i : Int)) (hai : i < n) (hmn : 0 ≤ X.MN n ∧ X.MN n ≤ 20) (zi : Nat) (hz : zi ≤ 40000) (CA : SpC X len b off cap i zi) :
    Calls Tryd.prog 32 #[.slice (some ⟨b, off, none⟩) len cap, .int .i64 n] w (ShAns X n (300 + zi) w) := by
  have HR := hide hr
  have hXn : n < X.len := by rw [hX]; exact hn
  obtain ⟨ad, cp, hc, hrg⟩ := hr n hXn
  obtain ⟨c0, c1, c2, c3, c4, c5, c6⟩ := hc
  have hi : (n : Int) < (len : Int) := by omega
  have st : ∀ o, Below w.heap.size w (w.alloc o) := fun o => (Below.refl _ _).alloc (Nat.le_refl _) _
  have HW0 : ∀ T, Hid (WS w (w.alloc (.cells #[.int .i64 (X.K n), .bool (X.NT n), .slice ad (X.NR n) cp, .int .i64 (X.A n), .int .i64 (X.B n), .int .i64 (X.MN n), .int .i64 (X.MX n)] T)) b off X n ad cp) := fun T => ⟨nodeAt_new _ _ _ _ _ _ _ _ _ _ _, rxRow_go HR.out hb (st _), hb, st _⟩
  have HE := hide (sh_cnt hk hA hai)
  have CA0 := hide CA
  obtain ⟨i0, hi0, hz0, hz1, hz2⟩ := info_parts info64S
  rw [hk] at c0
  rw [hA] at c3
  simp only [hk, hA] at HW0
  clear hr hrg CA
  by_cases h0 : X.MN n = 0
  · have HV := hide (sv_cnt0 HE.out h0)
    rw [h0] at c5
    clear HE CA0 hmn h0 HW0
    go_enter Tryd.func32, Tryd.ntmps32
    go_wp2
    go_ret2
    exact ⟨none, 0, 0, [], true, rfl, rfl, HV.out, Nat.zero_le _, ir_nil _ _, st _⟩
  · obtain ⟨q, hq⟩ : ∃ q : Nat, X.MN n = (q : Int) := ⟨(X.MN n).toNat, by omega⟩
    have hq0 : (q : Int) ≠ 0 := by omega
    have hqb : ((q : Int) == 0) = false := by rw [beq_eq_false_iff_ne]; exact hq0
    have hq20 : q ≤ 20 := by omega
    rw [hq] at c5 HE
    simp only [hq] at HW0
    clear hmn h0
    go_enter Tryd.func32, Tryd.ntmps32
    go_wp2_with fail
    refine (CA0.out _ (ws_lt (HW0 _).out) (ws_row (HW0 _).out)).mono ?_
    rintro e w1 ⟨a1, k1, m1, M1, o1, rfl, hm1, hv1, hl1, hi1, hb1⟩
    have HM1 := hide hm1
    have HV1 := hide hv1
    have HW1 := hide (ws_go (HW0 _).out hb1)
    have HI1 := hide (ir_low hi1 (ws_below (HW0 _).out).size)
    obtain ⟨n0, n1, n2, n3, n4, n5, n6⟩ := nodeAt_cells HW1.out.1
    rw [hq] at n5
    clear hm1 hv1 hi1 hb1
    go_wp2_with fail
    go_loopw [18, 19] (fun ov kv wr => ∃ (t c5 L : Nat) (a5 : Option Addr), t ≤ q ∧ kv = .int .i64 t ∧ ov = .slice a5 L c5 ∧ L ≤ 300 + m1 ∧ Hid (L = t * m1) ∧ Hid (wr.ownsRow w1.heap.size 2 1 (.slice a5 L c5) L ((repL M1 t).map (Value.int .i64))) ∧ Hid (WS w wr b off X n ad cp) ∧ Hid (Below w1.heap.size w1 wr)) (fun _ kv _ => q - (intOf kv).toNat)
    case atStart => exact ⟨0, 0, 0, _, Nat.zero_le _, rfl, rfl, Nat.zero_le _, hide (by rw [Nat.zero_mul]), hide (ir_empty w1), hide (ws_go HW1.out ((Below.refl _ _).alloc (Nat.le_refl _) _)), hide ((Below.refl _ _).alloc (Nat.le_refl _) _)⟩
    case round =>
      obtain ⟨t, c5, L, a5, ht, rfl, rfl, hL, HL, HO, HW, HB⟩ := hrel
      obtain ⟨n0, n1, n2, n3, n4, n5, n6⟩ := nodeAt_cells HW.out.1
      rw [hq] at n5
      by_cases htq : t < q
      · have htd : (t : Int) < (q : Int) := by omega
        by_cases hL3 : L ≤ 300
        · have hLd : (L : Int) ≤ 300 := by omega
          go_wp2_with (at_builtin; refine wpList_append_src rfl (.tmp 122) (.tmp 123) 38 rfl w1.heap.size 2 i0 (.int .i64 0) 1 8 Tryd.underlying38 hi0 hz0 hz1 hz2 rfl (by decide) _ _ _ rfl HO.out a1 m1 k1 (M1.map (Value.int .i64)) rfl (by rw [List.length_map, Nat.mul_one]; exact HM1.out.symm) (fun h9 => ir_src (ir_go HI1.out HB.out) (by rw [← HM1.out]; exact h9)) (ints_one _) (by unfold maxLen; omega) (by omega) HB.out.size ?_; intro a6 c6 w6 hown6 hgr6; rw [← List.map_append] at hown6; have HO6 := hide hown6; have HB6 := hide (gr_below HB.out HO.out HB.out.size hgr6); have HW6 := hide (ws_go HW1.out HB6.out); clear hown6 hgr6)
          go_roundw
          case rel => exact ⟨t + 1, c6, L + m1, a6, by omega, by go_num, rfl, by omega, hide (by rw [Nat.succ_mul, ← HL.out]), HO6, HW6, HB6⟩
          case measure => simp [intOf]; omega
        · have hLd : ¬ (L : Int) ≤ 300 := by omega
          have hLb : decide ((L : Int) ≤ 300) = false := decide_eq_false hLd
          cases o1
          · have HF := hide (sv_cntF HE.out hq0 HV1.out (repL M1 t))
            go_wp2
            go_ret2
            exact ⟨a5, c5, L, repL M1 t, _, rfl, by rw [rep_len, ← HM1.out]; exact HL.out, HF.out, by omega, ir_row (by rw [rep_len, ← HM1.out]; exact HL.out.symm) (gOwn_lower HO.out (ws_below HW1.out).size), ws_below HW.out⟩
          · have HF := hide (sv_cntL HE.out hq0 HV1.out (by rw [Int.toNat_natCast, ← HM1.out]; have h9 := Nat.mul_le_mul_left m1 ht; rw [Nat.mul_comm m1 t, ← HL.out] at h9; omega) (repL M1 t))
            go_wp2
            go_ret2
            exact ⟨a5, c5, L, repL M1 t, _, rfl, by rw [rep_len, ← HM1.out]; exact HL.out, HF.out, by omega, ir_row (by rw [rep_len, ← HM1.out]; exact HL.out.symm) (gOwn_lower HO.out (ws_below HW1.out).size), ws_below HW.out⟩
      · have htd : ¬ (t : Int) < (q : Int) := by omega
        have htb : decide ((t : Int) < (q : Int)) = false := decide_eq_false htd
        have hte : t = q := by omega
        by_cases hL3 : L ≤ 300
        · have hLd : (L : Int) ≤ 300 := by omega
          have hLb : decide ((L : Int) ≤ 300) = true := decide_eq_true hLd
          cases o1
          · clear hte
            have HF := hide (sv_cntF HE.out hq0 HV1.out (repL M1 t))
            go_wp2
            go_ret2
            exact ⟨a5, c5, L, repL M1 t, _, rfl, by rw [rep_len, ← HM1.out]; exact HL.out, HF.out, by omega, ir_row (by rw [rep_len, ← HM1.out]; exact HL.out.symm) (gOwn_lower HO.out (ws_below HW1.out).size), ws_below HW.out⟩
          · have HF : Hid (ShV X n (repL M1 t) true) := hide (by have h9 := sv_cnt HE.out hq0 HV1.out (by rw [Int.toNat_natCast, ← HM1.out, ← hte, Nat.mul_comm, ← HL.out]; exact hL3); rw [Int.toNat_natCast, ← hte] at h9; exact h9)
            clear hte
            go_wp2
            go_ret2
            exact ⟨a5, c5, L, repL M1 t, _, rfl, by rw [rep_len, ← HM1.out]; exact HL.out, HF.out, by omega, ir_row (by rw [rep_len, ← HM1.out]; exact HL.out.symm) (gOwn_lower HO.out (ws_below HW1.out).size), ws_below HW.out⟩
        · have hLd : ¬ (L : Int) ≤ 300 := by omega
          have hLb : decide ((L : Int) ≤ 300) = false := decide_eq_false hLd
          clear hte
          cases o1
          · have HF := hide (sv_cntF HE.out hq0 HV1.out (repL M1 t))
            go_wp2
            go_ret2
            exact ⟨a5, c5, L, repL M1 t, _, rfl, by rw [rep_len, ← HM1.out]; exact HL.out, HF.out, by omega, ir_row (by rw [rep_len, ← HM1.out]; exact HL.out.symm) (gOwn_lower HO.out (ws_below HW1.out).size), ws_below HW.out⟩
          · have HF := hide (sv_cntL HE.out hq0 HV1.out (by rw [Int.toNat_natCast, ← HM1.out]; have h9 := Nat.mul_le_mul_left m1 ht; rw [Nat.mul_comm m1 t, ← HL.out] at h9; omega) (repL M1 t))
            go_wp2
            go_ret2
            exact ⟨a5, c5, L, repL M1 t, _, rfl, by rw [rep_len, ← HM1.out]; exact HL.out, HF.out, by omega, ir_row (by rw [rep_len, ← HM1.out]; exact HL.out.symm) (gOwn_lower HO.out (ws_below HW1.out).size), ws_below HW.out⟩
/-- A node's shortest text, by the specification. -/
theorem s_short (X : Rx) (len : Nat) (hX : X.len = len) (hlen : len ≤ 120) (hm : NdOk X len) (hnd : ∀ j, j < len → nodeX X j = true) (b off cap : Nat) : ∀ (m n f : Nat), n < m → n < len → trX X n = some f → SpC X len b off cap n (301 * (n + 1 - f))
  | 0, n, f, hmn, hn, htr => by omega
  | m + 1, n, f, hmn, hn, htr => by
    have IH := s_short X len hX hlen hm hnd b off cap m
    have hfn : f ≤ n := tr_le _ _ _ _ htr
    intro w hb hr
    obtain ⟨h5, h2, hk⟩ := hm n hn
    rcases hk with k1 | k2 | k3 | k4 | k5
    · exact sp_more (h_empty X len hX hlen b off cap n w hn hb hr k1) (by omega)
    · refine sp_more (h_class X len hX hlen b off cap n w hn hb hr k2 (h2 k2) ?_) (by omega)
      have h9 := hnd n hn
      unfold nodeX at h9
      rw [k2] at h9
      exact h9
    · obtain ⟨c, hA, hB, ha, hb9, h1, hc, t1, t2⟩ := tr_parts htr (.inl k3)
      have q1 := tr_le _ _ _ _ t1
      have q2 := tr_le _ _ _ _ t2
      exact sp_more (h_seq X len hX hlen b off cap n w hn hb hr _ _ k3 hA hB ha hb9 _ _ (by omega) (IH _ _ (by omega) (by omega) t2) (IH _ _ (by omega) (by omega) t1)) (by omega)
    · obtain ⟨c, hA, hB, ha, hb9, h1, hc, t1, t2⟩ := tr_parts htr (.inr k4)
      have q1 := tr_le _ _ _ _ t1
      have q2 := tr_le _ _ _ _ t2
      exact sp_more (h_or X len hX hlen b off cap n w hn hb hr _ _ k4 hA hB ha hb9 _ _ (by omega) (IH _ _ (by omega) (by omega) t2) (IH _ _ (by omega) (by omega) t1)) (by omega)
    · obtain ⟨hA, ha, t1⟩ := tr_part1 htr k5
      have q1 := tr_le _ _ _ _ t1
      exact sp_more (h_cnt X len hX hlen b off cap n w hn hb hr _ k5 hA ha ⟨(h5 k5).1, (h5 k5).2.1⟩ _ (by omega) (IH _ _ (by omega) (by omega) t1)) (by omega)
end Go.Proofs.YtepommmmmfaihaaDoor

/-
  Plain facts on UTF-8: characters come back from their bytes, and bytes from the characters that they are.
-/
namespace Go.Proofs.YtepommmmmfaihaaDoor
open Go.RowKit
set_option linter.unusedVariables false
set_option linter.unusedSimpArgs false
theorem u8n (k : Nat) (h : k < 256) : (k.toUInt8).toNat = k := by
  show (UInt8.ofNat k).toNat = k
  rw [UInt8.toNat_ofNat']; omega
/-- The bytes of one character, with whatever stands behind them, are read as that character. -/
theorem enc_dec {r : Int} (hc : charB r = true) (t : List UInt8) : Lib.decodeL (Lib.encodeRune r ++ t) = (r.toNat, (Lib.encodeRuneZ r).length) := by
  have hr : (0 ≤ r ∧ r ≤ 55295) ∨ (57344 ≤ r ∧ r ≤ 1114111) := of_decide_eq_true hc
  clear hc
  rw [Lib.decodeL_N]
  unfold Lib.encodeRune
  by_cases h1 : r ≤ 127
  · rw [Lib.encodeRuneZ_one (by omega) h1]
    simp only [List.map_cons, List.map_nil, List.cons_append, List.nil_append, List.length_cons, List.length_nil, List.getD_cons_zero, List.getD_cons_succ]
    rw [u8n _ (by omega), d1 (by omega)]
  · by_cases h2 : r ≤ 2047
    · rw [Lib.encodeRuneZ_two (by omega) h2]
      simp only [List.map_cons, List.map_nil, List.cons_append, List.nil_append, List.length_cons, List.length_nil, List.getD_cons_zero, List.getD_cons_succ]
      rw [u8n _ (by omega), u8n _ (by omega), d2y (by omega) (by omega) (by omega) (by omega) (by omega) (by omega)]
      exact Prod.ext (by show _ = _; omega) rfl
    · by_cases h3 : r ≤ 65535
      · rw [Lib.encodeRuneZ_three (by omega)]
        simp only [List.map_cons, List.map_nil, List.cons_append, List.nil_append, List.length_cons, List.length_nil, List.getD_cons_zero, List.getD_cons_succ]
        rw [u8n _ (by omega), u8n _ (by omega), u8n _ (by omega), d3y (by omega) (by omega) (by omega) (by omega) (by omega) (by omega) (by omega) (by omega) (by omega)]
        exact Prod.ext (by show _ = _; omega) rfl
      · rw [Lib.encodeRuneZ_four (by omega) (by omega)]
        simp only [List.map_cons, List.map_nil, List.cons_append, List.nil_append, List.length_cons, List.length_nil, List.getD_cons_zero, List.getD_cons_succ]
        rw [u8n _ (by omega), u8n _ (by omega), u8n _ (by omega), u8n _ (by omega), d4y (by omega) (by omega) (by omega) (by omega) (by omega) (by omega) (by omega) (by omega) (by omega) (by omega) (by omega)]
        exact Prod.ext (by show _ = _; omega) rfl
/-- What is read of bytes that are right is a character. -/
theorem dec_char (l : List UInt8) (hb : Lib.decodeL l ≠ (65533, 1)) : charB ((Lib.decodeL l).1 : Int) = true := by
  rw [Lib.decodeL_N] at hb ⊢
  have k0 := (l.getD 0 0).toNat_lt
  have k1 := (l.getD 1 0).toNat_lt
  have k2 := (l.getD 2 0).toNat_lt
  have k3 := (l.getD 3 0).toNat_lt
  apply decide_eq_true
  rcases Lib.decodeN_shape l.length (l.getD 0 0).toNat (l.getD 1 0).toNat (l.getD 2 0).toNat (l.getD 3 0).toNat with ⟨c, e⟩ | ⟨c1, c2, c3, cv, e⟩ | ⟨c1, c2, c3, c4, cv, cs, e⟩ | ⟨c1, c2, c3, c4, c5, cv, cw, e⟩ | e
  · rw [e]; dsimp only; omega
  · rw [e]; dsimp only; omega
  · rw [e]; dsimp only; omega
  · rw [e]; dsimp only; omega
  · exact absurd e hb
theorem encZ_of (r : Int) : Lib.encodeRuneZ r = (Lib.encodeRune r).map fun b => (b.toNat : Int) := by
  have h := Lib.encodeRuneZ_byte r
  unfold Lib.encodeRune
  rw [List.map_map]
  conv => lhs; rw [← List.map_id (Lib.encodeRuneZ r)]
  apply List.map_congr_left
  intro x hx
  have := h x hx
  show x = (((x.toNat).toUInt8).toNat : Int)
  rw [u8n _ (by omega)]; omega
/-- The bytes of the characters, if all are such and there are not too many. -/
def goR : List Int → List Int → Option (List Int)
  | acc, [] => some acc
  | acc, x :: r => if charB x = true then (if acc.length + (Lib.encodeRuneZ x).length ≤ 20000 then goR (acc ++ Lib.encodeRuneZ x) r else none) else none
def resT (o : Option (List Int)) : ByteArray := match o with | some l => strOfNums l | none => ⟨#[]⟩
def resB (o : Option (List Int)) : Bool := o.isSome
def numsL (l : List UInt8) : List Int := l.map fun b => (b.toNat : Int)
theorem runes_back : ∀ (f : Nat) (l : List UInt8), l.length ≤ f → ∀ xs acc, runesL l = some xs → acc.length + l.length ≤ 20000 → goR acc xs = some (acc ++ numsL l)
  | 0, l, hf, xs, acc, hx, hn => by
    have : l = [] := List.length_eq_zero_iff.1 (by omega)
    subst this
    rw [runesL_nil] at hx
    cases hx
    simp [goR, numsL]
  | f + 1, l, hf, xs, acc, hx, hn => by
    by_cases h : l = []
    · subst h
      rw [runesL_nil] at hx
      cases hx
      simp [goR, numsL]
    · by_cases hb : Lib.decodeL l = (65533, 1)
      · rw [runesL_bad h hb] at hx; cases hx
      · have hl : 0 < l.length := List.length_pos_iff.2 h
        have hw := Lib.decodeL_width l
        have hle := Lib.decodeL_le l h
        rw [runesL_step h hb] at hx
        cases hy : runesL (l.drop (Lib.decodeL l).2) with
        | none => rw [hy] at hx; cases hx
        | some y =>
          rw [hy] at hx
          simp at hx
          subst hx
          have hc := dec_char l hb
          have he := Lib.encode_decode l h (fun hh => hb (Prod.ext hh.1 hh.2))
          have hz : Lib.encodeRuneZ ((Lib.decodeL l).1 : Int) = numsL (l.take (Lib.decodeL l).2) := by rw [encZ_of, he]; rfl
          have hzl : (Lib.encodeRuneZ ((Lib.decodeL l).1 : Int)).length = (Lib.decodeL l).2 := by rw [hz]; simp [numsL]; omega
          rw [goR, if_pos hc, if_pos (by omega)]
          rw [runes_back f (l.drop (Lib.decodeL l).2) (by rw [List.length_drop]; omega) y _ hy (by rw [List.length_append, List.length_drop]; omega)]
          rw [hz, List.append_assoc]
          congr 2
          unfold numsL
          rw [← List.map_append, List.take_append_drop]
theorem nums_str (s : ByteArray) : strOfNums (numsL s.data.toList) = s := by
  apply ByteArray.ext
  apply Array.ext'
  rw [strOfNums_data]
  unfold numsL
  rw [List.map_map]
  conv => rhs; rw [← List.map_id s.data.toList]
  apply List.map_congr_left
  intro x hx
  show UInt8.ofNat ((x.toNat : Int).toNat) = x
  rw [Int.toNat_natCast, UInt8.ofNat_toNat]
/-- All characters, one behind the other. -/
def encA : List Int → List Int
  | [] => []
  | x :: r => Lib.encodeRuneZ x ++ encA r
theorem goR_enc : ∀ (xs acc bs : List Int), goR acc xs = some bs → bs = acc ++ encA xs ∧ (∀ x ∈ xs, charB x = true) ∧ (acc.length ≤ 20000 → bs.length ≤ 20000)
  | [], acc, bs, h => by
    rw [goR] at h
    cases h
    exact ⟨by simp [encA], fun x hx => (by cases hx), fun h => h⟩
  | x :: r, acc, bs, h => by
    rw [goR] at h
    by_cases hc : charB x = true
    · rw [if_pos hc] at h
      by_cases hl : acc.length + (Lib.encodeRuneZ x).length ≤ 20000
      · rw [if_pos hl] at h
        obtain ⟨h1, h2, h3⟩ := goR_enc r _ bs h
        refine ⟨by rw [h1, encA, List.append_assoc], fun y hy => ?_, fun _ => h3 (by rw [List.length_append]; exact hl)⟩
        rcases List.mem_cons.1 hy with e | e
        · rw [e]; exact hc
        · exact h2 y e
      · rw [if_neg hl] at h; cases h
    · rw [if_neg hc] at h; cases h
theorem runes_enc : ∀ (xs : List Int), (∀ x ∈ xs, charB x = true) → runesL ((encA xs).map fun n => UInt8.ofNat n.toNat) = some xs
  | [], _ => runesL_nil
  | x :: r, h => by
    have hc := h x (List.mem_cons_self ..)
    have h0 : 0 ≤ x := by have := of_decide_eq_true hc; omega
    have hd := enc_dec hc ((encA r).map fun n => UInt8.ofNat n.toNat)
    have e : ((encA (x :: r)).map fun n => UInt8.ofNat n.toNat) = Lib.encodeRune x ++ ((encA r).map fun n => UInt8.ofNat n.toNat) := by
      rw [encA, List.map_append]; rfl
    have hl := Lib.encodeRuneZ_length x
    have hel : (Lib.encodeRune x).length = (Lib.encodeRuneZ x).length := by simp [Lib.encodeRune]
    rw [e]
    have hne : Lib.encodeRune x ++ ((encA r).map fun n => UInt8.ofNat n.toNat) ≠ [] := by
      intro hh
      have := congrArg List.length hh
      rw [List.length_append, List.length_nil] at this
      omega
    have hb : Lib.decodeL (Lib.encodeRune x ++ ((encA r).map fun n => UInt8.ofNat n.toNat)) ≠ (65533, 1) := by
      rw [hd]
      intro hh
      have h1 : x.toNat = 65533 := congrArg Prod.fst hh
      have h2 : (Lib.encodeRuneZ x).length = 1 := congrArg Prod.snd hh
      rw [Lib.encodeRuneZ_three (by omega)] at h2
      simp at h2
    rw [runesL_step hne hb, hd]
    dsimp only
    rw [← hel, List.drop_left, runes_enc r (fun y hy => h y (List.mem_cons_of_mem _ hy))]
    show some (((x.toNat : Nat) : Int) :: r) = some (x :: r)
    rw [show ((x.toNat : Nat) : Int) = x by omega]
end Go.Proofs.YtepommmmmfaihaaDoor
