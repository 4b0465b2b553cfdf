/-
  Texts put together: ShU, ShelfM, ShG.
-/
import Derived.Test.YtepommmmmfaihaaGreatDoorB10
import Derived.Shelf.Bits.Mul64
import Derived.Test.YtepommmmmfaihaaGreatDoorProg
import Derived.Lib.AppendZerosOnto
import Derived.Lib.SliceRun
import Derived.Laws.CopyOwn
import Derived.Deep.RegionLaw
/-
  Contract of the specification: one of the shortest texts of a node: counts, and the whole.
-/
namespace Go.Proofs.YtepommmmmfaihaaGreatDoor
open Go.RowKit Go.Joins
set_option linter.unusedVariables false
set_option linter.unusedSimpArgs false
theorem sp_more {f : FuncId} {args : Array Value} {X : Rx} {n bd bd' : Nat} {w : World} (h : Calls Tryz.prog f args w (ShAns X n bd w)) (hb : bd ≤ bd') : Calls Tryz.prog f args w (ShAns X n bd' w) := by
  refine h.mono ?_
  rintro e w' ⟨ad, c, k, M, o, h1, h2, h3, h4, h5, h6⟩
  exact ⟨ad, c, k, M, o, h1, h2, h3, Nat.le_trans h4 hb, h5, h6⟩
set_option maxRecDepth 100000 in
set_option maxHeartbeats 8000000 in
theorem h_cnt (X : Rx) (len : Nat) (hX : X.len = len) (hlen : len ≤ 120) (b off cap n : Nat) (w : World) (hn : n < len) (hb : b < w.heap.size) (hr : RxRow w b off X w.heap.size) (i : Nat) (hk : X.K n = 5) (hA : X.A n = (i : Int)) (hai : i < n) (hmn : 0 ≤ X.MN n ∧ X.MN n ≤ 20) (zi : Nat) (hz : zi ≤ 40000) (CA : SpC X len b off cap i zi) :
    Calls Tryz.prog 36 #[.slice (some ⟨b, off, none⟩) len cap, .int .i64 n] w (ShAns X n (300 + zi) w) := by
  have HR := hide hr
  have hXn : n < X.len := by rw [hX]; exact hn
  obtain ⟨ad, cp, hc, hrg⟩ := hr n hXn
  obtain ⟨c0, c1, c2, c3, c4, c5, c6⟩ := hc
  have hi : (n : Int) < (len : Int) := by omega
  have st : ∀ o, Below w.heap.size w (w.alloc o) := fun o => (Below.refl _ _).alloc (Nat.le_refl _) _
  have HW0 : ∀ T, Hid (WS w (w.alloc (.cells #[.int .i64 (X.K n), .bool (X.NT n), .slice ad (X.NR n) cp, .int .i64 (X.A n), .int .i64 (X.B n), .int .i64 (X.MN n), .int .i64 (X.MX n)] T)) b off X n ad cp) := fun T => ⟨nodeAt_new _ _ _ _ _ _ _ _ _ _ _, rxRow_go HR.out hb (st _), hb, st _⟩
  have HE := hide (sh_cnt hk hA hai)
  have CA0 := hide CA
  obtain ⟨i0, hi0, hz0, hz1, hz2⟩ := info_parts info64S
  rw [hk] at c0
  rw [hA] at c3
  simp only [hk, hA] at HW0
  clear hr hrg CA
  by_cases h0 : X.MN n = 0
  · have HV := hide (sv_cnt0 HE.out h0)
    rw [h0] at c5
    clear HE CA0 hmn h0 HW0
    go_enter Tryz.func36, Tryz.ntmps36
    go_wp2
    go_ret2
    exact ⟨none, 0, 0, [], true, rfl, rfl, HV.out, Nat.zero_le _, ir_nil _ _, st _⟩
  · obtain ⟨q, hq⟩ : ∃ q : Nat, X.MN n = (q : Int) := ⟨(X.MN n).toNat, by omega⟩
    have hq0 : (q : Int) ≠ 0 := by omega
    have hqb : ((q : Int) == 0) = false := by rw [beq_eq_false_iff_ne]; exact hq0
    have hq20 : q ≤ 20 := by omega
    rw [hq] at c5 HE
    simp only [hq] at HW0
    clear hmn h0
    go_enter Tryz.func36, Tryz.ntmps36
    go_wp2_with fail
    refine (CA0.out _ (ws_lt (HW0 _).out) (ws_row (HW0 _).out)).mono ?_
    rintro e w1 ⟨a1, k1, m1, M1, o1, rfl, hm1, hv1, hl1, hi1, hb1⟩
    have HM1 := hide hm1
    have HV1 := hide hv1
    have HW1 := hide (ws_go (HW0 _).out hb1)
    have HI1 := hide (ir_low hi1 (ws_below (HW0 _).out).size)
    obtain ⟨n0, n1, n2, n3, n4, n5, n6⟩ := nodeAt_cells HW1.out.1
    rw [hq] at n5
    clear hm1 hv1 hi1 hb1
    go_wp2_with fail
    go_loopw [18, 19] (fun ov kv wr => ∃ (t c5 L : Nat) (a5 : Option Addr), t ≤ q ∧ kv = .int .i64 t ∧ ov = .slice a5 L c5 ∧ L ≤ 300 + m1 ∧ Hid (L = t * m1) ∧ Hid (wr.ownsRow w1.heap.size 2 1 (.slice a5 L c5) L ((repL M1 t).map (Value.int .i64))) ∧ Hid (WS w wr b off X n ad cp) ∧ Hid (Below w1.heap.size w1 wr)) (fun _ kv _ => q - (intOf kv).toNat)
    case atStart => exact ⟨0, 0, 0, _, Nat.zero_le _, rfl, rfl, Nat.zero_le _, hide (by rw [Nat.zero_mul]), hide (ir_empty w1), hide (ws_go HW1.out ((Below.refl _ _).alloc (Nat.le_refl _) _)), hide ((Below.refl _ _).alloc (Nat.le_refl _) _)⟩
    case round =>
      obtain ⟨t, c5, L, a5, ht, rfl, rfl, hL, HL, HO, HW, HB⟩ := hrel
      obtain ⟨n0, n1, n2, n3, n4, n5, n6⟩ := nodeAt_cells HW.out.1
      rw [hq] at n5
      by_cases htq : t < q
      · have htd : (t : Int) < (q : Int) := by omega
        by_cases hL3 : L ≤ 300
        · have hLd : (L : Int) ≤ 300 := by omega
          go_wp2_with (at_builtin; refine wpList_append_src rfl (.tmp 122) (.tmp 123) 31 rfl w1.heap.size 2 i0 (.int .i64 0) 1 8 Tryz.underlying31 hi0 hz0 hz1 hz2 rfl (by decide) _ _ _ rfl HO.out a1 m1 k1 (M1.map (Value.int .i64)) rfl (by rw [List.length_map, Nat.mul_one]; exact HM1.out.symm) (fun h9 => ir_src (ir_go HI1.out HB.out) (by rw [← HM1.out]; exact h9)) (ints_one _) (by unfold maxLen; omega) (by omega) HB.out.size ?_; intro a6 c6 w6 hown6 hgr6; rw [← List.map_append] at hown6; have HO6 := hide hown6; have HB6 := hide (gr_below HB.out HO.out HB.out.size hgr6); have HW6 := hide (ws_go HW1.out HB6.out); clear hown6 hgr6)
          go_roundw
          case rel => exact ⟨t + 1, c6, L + m1, a6, by omega, by go_num, rfl, by omega, hide (by rw [Nat.succ_mul, ← HL.out]), HO6, HW6, HB6⟩
          case measure => simp [intOf]; omega
        · have hLd : ¬ (L : Int) ≤ 300 := by omega
          have hLb : decide ((L : Int) ≤ 300) = false := decide_eq_false hLd
          cases o1
          · have HF := hide (sv_cntF HE.out hq0 HV1.out (repL M1 t))
            go_wp2
            go_ret2
            exact ⟨a5, c5, L, repL M1 t, _, rfl, by rw [rep_len, ← HM1.out]; exact HL.out, HF.out, by omega, ir_row (by rw [rep_len, ← HM1.out]; exact HL.out.symm) (gOwn_lower HO.out (ws_below HW1.out).size), ws_below HW.out⟩
          · have HF := hide (sv_cntL HE.out hq0 HV1.out (by rw [Int.toNat_natCast, ← HM1.out]; have h9 := Nat.mul_le_mul_left m1 ht; rw [Nat.mul_comm m1 t, ← HL.out] at h9; omega) (repL M1 t))
            go_wp2
            go_ret2
            exact ⟨a5, c5, L, repL M1 t, _, rfl, by rw [rep_len, ← HM1.out]; exact HL.out, HF.out, by omega, ir_row (by rw [rep_len, ← HM1.out]; exact HL.out.symm) (gOwn_lower HO.out (ws_below HW1.out).size), ws_below HW.out⟩
      · have htd : ¬ (t : Int) < (q : Int) := by omega
        have htb : decide ((t : Int) < (q : Int)) = false := decide_eq_false htd
        have hte : t = q := by omega
        by_cases hL3 : L ≤ 300
        · have hLd : (L : Int) ≤ 300 := by omega
          have hLb : decide ((L : Int) ≤ 300) = true := decide_eq_true hLd
          cases o1
          · clear hte
            have HF := hide (sv_cntF HE.out hq0 HV1.out (repL M1 t))
            go_wp2
            go_ret2
            exact ⟨a5, c5, L, repL M1 t, _, rfl, by rw [rep_len, ← HM1.out]; exact HL.out, HF.out, by omega, ir_row (by rw [rep_len, ← HM1.out]; exact HL.out.symm) (gOwn_lower HO.out (ws_below HW1.out).size), ws_below HW.out⟩
          · have HF : Hid (ShV X n (repL M1 t) true) := hide (by have h9 := sv_cnt HE.out hq0 HV1.out (by rw [Int.toNat_natCast, ← HM1.out, ← hte, Nat.mul_comm, ← HL.out]; exact hL3); rw [Int.toNat_natCast, ← hte] at h9; exact h9)
            clear hte
            go_wp2
            go_ret2
            exact ⟨a5, c5, L, repL M1 t, _, rfl, by rw [rep_len, ← HM1.out]; exact HL.out, HF.out, by omega, ir_row (by rw [rep_len, ← HM1.out]; exact HL.out.symm) (gOwn_lower HO.out (ws_below HW1.out).size), ws_below HW.out⟩
        · have hLd : ¬ (L : Int) ≤ 300 := by omega
          have hLb : decide ((L : Int) ≤ 300) = false := decide_eq_false hLd
          clear hte
          cases o1
          · have HF := hide (sv_cntF HE.out hq0 HV1.out (repL M1 t))
            go_wp2
            go_ret2
            exact ⟨a5, c5, L, repL M1 t, _, rfl, by rw [rep_len, ← HM1.out]; exact HL.out, HF.out, by omega, ir_row (by rw [rep_len, ← HM1.out]; exact HL.out.symm) (gOwn_lower HO.out (ws_below HW1.out).size), ws_below HW.out⟩
          · have HF := hide (sv_cntL HE.out hq0 HV1.out (by rw [Int.toNat_natCast, ← HM1.out]; have h9 := Nat.mul_le_mul_left m1 ht; rw [Nat.mul_comm m1 t, ← HL.out] at h9; omega) (repL M1 t))
            go_wp2
            go_ret2
            exact ⟨a5, c5, L, repL M1 t, _, rfl, by rw [rep_len, ← HM1.out]; exact HL.out, HF.out, by omega, ir_row (by rw [rep_len, ← HM1.out]; exact HL.out.symm) (gOwn_lower HO.out (ws_below HW1.out).size), ws_below HW.out⟩
/-- A node's shortest text, by the specification. -/
theorem s_short (X : Rx) (len : Nat) (hX : X.len = len) (hlen : len ≤ 120) (hm : NdOk X len) (hnd : ∀ j, j < len → nodeX X j = true) (b off cap : Nat) : ∀ (m n f : Nat), n < m → n < len → trX X n = some f → SpC X len b off cap n (301 * (n + 1 - f))
  | 0, n, f, hmn, hn, htr => by omega
  | m + 1, n, f, hmn, hn, htr => by
    have IH := s_short X len hX hlen hm hnd b off cap m
    have hfn : f ≤ n := tr_le _ _ _ _ htr
    intro w hb hr
    obtain ⟨h5, h2, hk⟩ := hm n hn
    rcases hk with k1 | k2 | k3 | k4 | k5
    · exact sp_more (h_empty X len hX hlen b off cap n w hn hb hr k1) (by omega)
    · refine sp_more (h_class X len hX hlen b off cap n w hn hb hr k2 (h2 k2) ?_) (by omega)
      have h9 := hnd n hn
      unfold nodeX at h9
      rw [k2] at h9
      exact h9
    · obtain ⟨c, hA, hB, ha, hb9, h1, hc, t1, t2⟩ := tr_parts htr (.inl k3)
      have q1 := tr_le _ _ _ _ t1
      have q2 := tr_le _ _ _ _ t2
      exact sp_more (h_seq X len hX hlen b off cap n w hn hb hr _ _ k3 hA hB ha hb9 _ _ (by omega) (IH _ _ (by omega) (by omega) t2) (IH _ _ (by omega) (by omega) t1)) (by omega)
    · obtain ⟨c, hA, hB, ha, hb9, h1, hc, t1, t2⟩ := tr_parts htr (.inr k4)
      have q1 := tr_le _ _ _ _ t1
      have q2 := tr_le _ _ _ _ t2
      exact sp_more (h_or X len hX hlen b off cap n w hn hb hr _ _ k4 hA hB ha hb9 _ _ (by omega) (IH _ _ (by omega) (by omega) t2) (IH _ _ (by omega) (by omega) t1)) (by omega)
    · obtain ⟨hA, ha, t1⟩ := tr_part1 htr k5
      have q1 := tr_le _ _ _ _ t1
      exact sp_more (h_cnt X len hX hlen b off cap n w hn hb hr _ k5 hA ha ⟨(h5 k5).1, (h5 k5).2.1⟩ _ (by omega) (IH _ _ (by omega) (by omega) t1)) (by omega)
end Go.Proofs.YtepommmmmfaihaaGreatDoor

/-
  Contracts of Go's own library at this program, laid by the shelf's plain mode: each is one application of a theorem of the library.
-/
namespace Go.Proofs
open Go.Shelf
def Tryz.lays212_ren : Go.Shelf.Ren := ⟨fun | 212 => 98 | 263 => 117 | 264 => 118 | n => n, fun | 46 => 115 | 51 => 112 | 146 => 141 | 53 => 113 | 148 => 143 | n => n, fun | n => n⟩
theorem Tryz.lays212 : Go.Proofs.Lays.n212 Tryz.prog Tryz.lays212_ren := {
  mixed := by kernel_rfl
  f212 := Tryz.func98.trans (congrArg some (by kernel_rfl))
  f263 := Tryz.func117.trans (congrArg some (by kernel_rfl))
  f264 := Tryz.func118.trans (congrArg some (by kernel_rfl))
  t46 := Tryz.underlying115
  a46 := Tryz.isAgg115
  z46 := Tryz.sizeOf115
  v46 := Tryz.zeroValue115
  t51 := Tryz.underlying112
  a51 := Tryz.isAgg112
  z51 := Tryz.sizeOf112
  v51 := Tryz.zeroValue112
  t53 := Tryz.underlying113
  a53 := Tryz.isAgg113
  z53 := Tryz.sizeOf113
  v53 := Tryz.zeroValue113
  t146 := Tryz.underlying141
  a146 := Tryz.isAgg141
  z146 := Tryz.sizeOf141
  v146 := Tryz.zeroValue141
  t148 := Tryz.underlying143
  a148 := Tryz.isAgg143
  z148 := Tryz.sizeOf143
  v148 := Tryz.zeroValue143 }
open Go.RowKit Go.Lib in
/-- math/bits.Mul: "Mul returns the full-width product of x and y": on a machine of 64 bits: Mul64's. (LAID: no walk: one application.) -/
theorem Tryz.bits_Mul (x y : Nat) (hx : x < 18446744073709551616) (hy : y < 18446744073709551616) (w : World) :
    Calls Tryz.prog 98 #[.int .u64 x, .int .u64 y] w fun e w' => e = .returned (.tuple #[.int .u64 ((x * y / 18446744073709551616 : Nat) : Int), .int .u64 ((x * y % 18446744073709551616 : Nat) : Int)]) ∧ w' = w := Any.bits_Mul Tryz.lays212 x y hx hy w
end Go.Proofs

/-
  Contracts of Go's own library: slices.Grow of nothing, slices.Concat of two rows of numbers, slices.Repeat.
-/
namespace Go.Proofs.YtepommmmmfaihaaGreatDoor
open Go.RowKit Go.Joins
set_option linter.unusedVariables false
set_option linter.unusedSimpArgs false
set_option maxRecDepth 100000 in
set_option maxHeartbeats 4000000 in
theorem i_grow0 (w : World) : Calls Tryz.prog 97 #[.slice none 0 0, .int .i64 0] w fun e w' => e = .returned (.slice none 0 0) ∧ w' = w := by
  go_enter Tryz.func97, Tryz.ntmps97
  go_wp2
  go_ret
  exact ⟨rfl, rfl⟩
set_option maxRecDepth 100000 in
set_option maxHeartbeats 4000000 in
theorem i_grow (N : Nat) (w : World) (h1 : 1 ≤ N) (hN : N ≤ 1000) : Calls Tryz.prog 97 #[.slice none 0 0, .int .i64 N] w fun e w' => ∃ (ad : Option Addr) (c : Nat), e = .returned (.slice ad 0 c) ∧ IR w.heap.size w' ad c [] ∧ Below w.heap.size w w' := by
  obtain ⟨i0, hi0, hz0, hz1, hz2⟩ := info_parts info64S
  have hold : (Builtin.firstCells i0.size 0 (.slice none 0 0)).run Tryz.prog w.drew = .ok ([] : List Value).toArray w.drew := run_firstCells_none w.drew i0.size 0 0 0
  obtain ⟨G, hG⟩ : ∃ G, G = grownCap w (0 + N) 0 2 := ⟨_, rfl⟩
  have hGn : 0 + N ≤ G := hG ▸ grownCap_ge w _ _ _
  have hGm : G ≤ maxLen := hG ▸ grownCap_le_maxLen w (0 + N) 0 _ (by unfold maxLen; omega)
  have hrz : ∀ ty, (Builtin.append_ #[31, 3] ty #[.slice none 0 0, .int .i64 N]).run Tryz.prog w = .ok (.slice (some ⟨w.heap.size, 0, none⟩) (0 + N) G) (w.drew.alloc (.cells (([] : List Value).toArray ++ Builtin.zeroCells (Value.int .i64 0).cells N ++ Builtin.zeroCells (Value.int .i64 0).cells (G - (0 + N))) 2)) := fun ty => by
    have h := Lib.run_append_grow_zeros w 31 3 ty 2 i0 (.int .i64 0) .i64 .i64 Tryz.underlying31 Tryz.underlying3 hi0 hz0 none 0 0 [] hold N (by omega) (by omega) (by omega) (by omega) (by rw [hz2]; omega) (growslice_fits (by omega) (by rw [hz2]; omega))
    rw [← hG] at h
    exact h
  have HO : Hid (IR w.heap.size (w.drew.alloc (.cells (([] : List Value).toArray ++ Builtin.zeroCells (Value.int .i64 0).cells N ++ Builtin.zeroCells (Value.int .i64 0).cells (G - (0 + N))) 2)) (some ⟨w.heap.size, 0, none⟩) G []) := hide ⟨rfl, .inr ⟨w.heap.size, G, _, rfl, Nat.le_refl _, heap_alloc_new w.drew _, Nat.zero_le _, hGm, by rw [Array.size_append, Array.size_append, size_zeroCells, size_zeroCells]; show 0 + N * 1 + (G - (0 + N)) * 1 = G * 1; omega, rfl⟩⟩
  have HB : Hid (∀ o, Below w.heap.size w (w.drew.alloc o)) := hide (fun o => ⟨rfl, rfl, rfl, by rw [World.size_alloc]; exact Nat.le_succ _, fun k hk => heap_alloc_old w.drew _ hk⟩)
  have hG63 : G ≤ 9223372036854775807 := by unfold maxLen at hGm; omega
  have hN0 : (0 : Int) < N := by omega
  obtain ⟨O, hO⟩ : ∃ O, Obj.cells (([] : List Value).toArray ++ Builtin.zeroCells (Value.int .i64 0).cells N ++ Builtin.zeroCells (Value.int .i64 0).cells (G - (0 + N))) 2 = O := ⟨_, rfl⟩
  have hO2 : ∀ ty, (Builtin.append_ #[31, 3] ty #[.slice none 0 0, .int .i64 N]).run Tryz.prog w = .ok (.slice (some ⟨w.heap.size, 0, none⟩) N G) (w.drew.alloc O) := fun ty => by rw [hrz ty, hO, Nat.zero_add]
  rw [hO] at HO
  have HR := hide hO2
  clear hrz hold hO hG hO2
  go_enter Tryz.func97, Tryz.ntmps97
  go_wp2_with (at_builtin; refine Lib.wpList_append_run _ rfl _ _ _ _ rfl _ _ rfl rfl _ _ (HR.out _) ?_)
  all_goals (go_ret; exact ⟨_, G, rfl, HO.out, HB.out _⟩)
theorem i_growA (N : Nat) (w : World) (hN : N ≤ 1000) : Calls Tryz.prog 97 #[.slice none 0 0, .int .i64 N] w fun e w' => ∃ (ad : Option Addr) (c : Nat), e = .returned (.slice ad 0 c) ∧ IR w.heap.size w' ad c [] ∧ Below w.heap.size w w' := by
  by_cases h : N = 0
  · subst h
    refine (i_grow0 w).mono ?_
    rintro e w' ⟨rfl, rfl⟩
    exact ⟨none, 0, rfl, ir_nil _ _, Below.refl _ _⟩
  · exact i_grow N w (by omega) hN
theorem ir_rowQ {B L c : Nat} {w : World} {ad : Option Addr} {Q M : List Int} (hQ : Q = M) (hL : L = Q.length) (h : w.ownsRow B 2 1 (.slice ad L c) L (Q.map (Value.int .i64))) : IR B w ad c M := by subst hQ; subst hL; exact h
set_option maxRecDepth 100000 in
set_option maxHeartbeats 4000000 in
theorem i_concat (B B2 g : Nat) (T : TypeId) (a1 a2 : Option Addr) (k1 k2 m1 m2 : Nat) (M1 M2 : List Int) (w : World) (h1 : m1 = M1.length) (h2 : m2 = M2.length) (hz : m1 + m2 ≤ 300) (hi1 : IR B w a1 k1 M1) (hi2 : IR B2 w a2 k2 M2) (hg : w.heap[g]? = some (.cells #[.slice a1 m1 k1, .slice a2 m2 k2] T (0, 0))) :
    Calls Tryz.prog 81 #[.slice (some ⟨g, 0, none⟩) 2 2] w fun e w' => ∃ (ad : Option Addr) (c : Nat), e = .returned (.slice ad (m1 + m2) c) ∧ IR w.heap.size w' ad c (M1 ++ M2) ∧ Below w.heap.size w w' := by
  obtain ⟨i0, hi0, hz0, hz1, hz2⟩ := info_parts info64S
  have H1 := hide h1
  have H2 := hide h2
  have HI1 := hide hi1
  have HI2 := hide hi2
  have hgl : g < w.heap.size := (Array.getElem?_eq_some_iff.1 hg).1
  have x0 : w.cell? ⟨g, 0, none⟩ = some (.slice a1 m1 k1) := cell_of_row w g 0 _ T (0, 0) hg
  have x1 : w.cell? ⟨g, 1, none⟩ = some (.slice a2 m2 k2) := cell_of_row w g 1 _ T (0, 0) hg
  have hw1 : IntKind.i64.wrap ((m1 : Int) + (m2 : Int)) = (m1 : Int) + (m2 : Int) := by rw [IntKind.wrap_i64]; omega
  clear h1 h2 hi1 hi2 hg
  go_enter Tryz.func81, Tryz.ntmps81
  go_wp2
  go_loopw [3, 11] (fun sv iv wr => w = wr ∧ ((iv = .int .i64 0 ∧ sv = .int .i64 0) ∨ (iv = .int .i64 1 ∧ sv = .int .i64 (m1 : Int)) ∨ (iv = .int .i64 2 ∧ sv = .int .i64 ((m1 : Int) + (m2 : Int))))) (fun _ iv _ => 2 - (intOf iv).toNat)
  case atStart => exact ⟨rfl, .inl ⟨rfl, rfl⟩⟩
  case round =>
    rcases hrel with ⟨rfl, ⟨rfl, rfl⟩ | ⟨rfl, rfl⟩ | ⟨rfl, rfl⟩⟩
    · go_wp2
      go_roundw
      case rel => exact ⟨by first | rfl | trivial, .inr (.inl ⟨rfl, by first | rfl | simp⟩)⟩
      case measure => simp [intOf]
    · go_wp2
      go_roundw
      case rel => exact ⟨by first | rfl | trivial, .inr (.inr ⟨rfl, rfl⟩)⟩
      case measure => simp [intOf]
    · have CG : Hid (Calls Tryz.prog 97 #[.slice none 0 0, .int .i64 ((m1 : Int) + (m2 : Int))] w fun e w' => ∃ (ad : Option Addr) (c : Nat), e = .returned (.slice ad 0 c) ∧ IR w.heap.size w' ad c [] ∧ Below w.heap.size w w') := hide (by rw [show (m1 : Int) + (m2 : Int) = ((m1 + m2 : Nat) : Int) by omega]; exact i_growA (m1 + m2) w (by omega))
      go_wp2_with (go_at_call 97; refine CG.out.mono ?_; rintro e w3 ⟨a3, c3, rfl, hi3, hb3⟩; have HI3 := hide hi3; have HB3 := hide hb3; clear hi3 hb3)
      go_loopw [6, 27] (fun nv iv wr2 => ∃ (j L c5 : Nat) (a5 : Option Addr) (Q : List Int), j ≤ 2 ∧ iv = .int .i64 j ∧ nv = .slice a5 L c5 ∧ Hid (L = Q.length) ∧ (j = 0 → L = 0) ∧ (j = 1 → L = m1) ∧ (j = 2 → L = m1 + m2) ∧ Hid (j = 0 → Q = []) ∧ Hid (j = 1 → Q = M1) ∧ Hid (j = 2 → Q = M1 ++ M2) ∧ Hid (wr2.ownsRow w.heap.size 2 1 (.slice a5 L c5) L (Q.map (Value.int .i64))) ∧ Hid (Below w.heap.size w wr2)) (fun _ iv _ => 2 - (intOf iv).toNat)
      case atStart => exact ⟨0, 0, c3, a3, [], by omega, rfl, rfl, hide rfl, fun _ => rfl, by omega, by omega, hide (fun _ => rfl), hide (fun h => by omega), hide (fun h => by omega), HI3, HB3⟩
      case round =>
        obtain ⟨j, L, c5, a5, Q, hj, rfl, rfl, HQ, l0, l1, l2, q0, q1, q2, HO, HB⟩ := hrel
        have y0 := (HB.out.cell (p := ⟨g, 0, none⟩) hgl).trans x0
        have y1 := (HB.out.cell (p := ⟨g, 1, none⟩) hgl).trans x1
        have hsz := HB.out.size
        rcases (show j = 0 ∨ j = 1 ∨ j = 2 by omega) with hj0 | hj0 | hj0
        · have hL := l0 hj0
          have HQ0 := hide (q0.out hj0)
          subst hj0
          subst hL
          clear l0 l1 l2 q0 q1 q2
          go_wp2_with (at_builtin; refine wpList_append_src rfl (.tmp 31) (.tmp 32) 31 rfl w.heap.size 2 i0 (.int .i64 0) 1 8 Tryz.underlying31 hi0 hz0 hz1 hz2 rfl (by decide) _ 0 _ rfl HO.out a1 m1 k1 (M1.map (Value.int .i64)) rfl (by rw [List.length_map, Nat.mul_one]; exact H1.out.symm) (fun h9 => ir_src (ir_go HI1.out HB.out) (by rw [← H1.out]; exact h9)) (ints_one _) (by unfold maxLen; omega) (by omega) hsz ?_; intro a6 c6 w6 hown6 hgr6; rw [Nat.zero_add, HQ0.out] at hown6; rw [Nat.zero_add]; have HO6 := hide hown6; have HB6 := hide (gr_below HB.out HO.out hsz hgr6); clear hown6 hgr6)
          go_roundw
          case rel => exact ⟨1, m1, c6, a6, M1, by omega, by go_num, rfl, H1, fun h => by omega, fun _ => rfl, fun h => by omega, hide (fun h => by omega), hide (fun _ => rfl), hide (fun h => by omega), HO6, HB6⟩
          case measure => simp [intOf]
        · have hL := l1 hj0
          have HQ0 := hide (q1.out hj0)
          subst hj0
          subst hL
          clear l0 l1 l2 q0 q1 q2
          go_wp2_with (at_builtin; refine wpList_append_src rfl (.tmp 31) (.tmp 32) 31 rfl w.heap.size 2 i0 (.int .i64 0) 1 8 Tryz.underlying31 hi0 hz0 hz1 hz2 rfl (by decide) _ L _ rfl HO.out a2 m2 k2 (M2.map (Value.int .i64)) rfl (by rw [List.length_map, Nat.mul_one]; exact H2.out.symm) (fun h9 => ir_src (ir_go HI2.out HB.out) (by rw [← H2.out]; exact h9)) (ints_one _) (by unfold maxLen; omega) (by omega) hsz ?_; intro a6 c6 w6 hown6 hgr6; rw [HQ0.out, ← List.map_append] at hown6; have HO6 := hide hown6; have HB6 := hide (gr_below HB.out HO.out hsz hgr6); clear hown6 hgr6)
          go_roundw
          case rel => exact ⟨2, L + m2, c6, a6, M1 ++ M2, by omega, by go_num, rfl, hide (by rw [List.length_append, ← H1.out, ← H2.out]), fun h => by omega, fun h => by omega, fun _ => rfl, hide (fun h => by omega), hide (fun h => by omega), hide (fun _ => rfl), HO6, HB6⟩
          case measure => simp [intOf]
        · have HL := hide (l2 hj0)
          have HQ0 := hide (q2.out hj0)
          subst hj0
          clear l0 l1 l2 q0 q1 q2
          go_wp2
          go_ret
          exact ⟨a5, c5, by rw [HL.out]; rfl, ir_rowQ HQ0.out HQ.out HO.out, HB.out⟩
end Go.Proofs.YtepommmmmfaihaaGreatDoor
