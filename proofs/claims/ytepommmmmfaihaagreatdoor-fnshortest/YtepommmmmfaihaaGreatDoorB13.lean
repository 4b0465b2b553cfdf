/-
  Contract of the program: one of the shortest texts of a node.
-/
import Derived.Test.YtepommmmmfaihaaGreatDoorB12
namespace Go.Proofs.YtepommmmmfaihaaGreatDoor
open Go.RowKit Go.Joins
set_option linter.unusedVariables false
set_option linter.unusedSimpArgs false
def ImC (X : Rx) (len b off cap n : Nat) : Prop := ∀ w : World, b < w.heap.size → RxRow w b off X w.heap.size → Calls Tryz.prog 34 #[.slice (some ⟨b, off, none⟩) len cap, .int .i64 n] w (ShAns X n 300 w)
set_option maxRecDepth 100000 in
set_option maxHeartbeats 8000000 in
theorem r_seq (X : Rx) (len : Nat) (hX : X.len = len) (hlen : len ≤ 120) (b off cap n : Nat) (ad : Option Addr) (cp : Nat) (w : World) (hn : n < len) (hb : b < w.heap.size) (hr : RxRow w b off X w.heap.size) (i j : Nat) (hk : X.K n = 3) (hA : X.A n = (i : Int)) (hB : X.B n = (j : Int)) (hai : i < n) (hbj : j < n) (CA : ImC X len b off cap i) (CB : ImC X len b off cap j) :
    Calls Tryz.prog 56 #[.slice (some ⟨b, off, none⟩) len cap, .agg #[.int .i64 3, .bool (X.NT n), .slice ad (X.NR n) cp, .int .i64 (i : Int), .int .i64 (j : Int), .int .i64 (X.MN n), .int .i64 (X.MX n)]] w (ShAns X n 300 w) := by
  obtain ⟨i0, hi0, hz0, hz1, hz2⟩ := info_parts info64S
  have HR := hide hr
  have st : ∀ o, Below w.heap.size w (w.alloc o) := fun o => (Below.refl _ _).alloc (Nat.le_refl _) _
  have HW0 : ∀ T, Hid (WS w (w.alloc (.cells #[.int .i64 (X.K n), .bool (X.NT n), .slice ad (X.NR n) cp, .int .i64 (X.A n), .int .i64 (X.B n), .int .i64 (X.MN n), .int .i64 (X.MX n)] T)) b off X n ad cp) := fun T => ⟨nodeAt_new _ _ _ _ _ _ _ _ _ _ _, rxRow_go HR.out hb (st _), hb, st _⟩
  have HE := hide (sh_seq hk hA hB hai hbj)
  have CA0 := hide CA
  have CB0 := hide CB
  simp only [hk, hA, hB] at HW0
  clear hr CA CB
  go_enter Tryz.func56, Tryz.ntmps56
  go_wp2_with fail
  refine (CA0.out _ (ws_lt (HW0 _).out) (ws_row (HW0 _).out)).mono ?_
  rintro e w1 ⟨a1, k1, m1, M1, o1, rfl, hm1, hv1, hl1, hi1, hb1⟩
  have HM1 := hide hm1
  have HV1 := hide hv1
  have HW1 := hide (ws_go (HW0 _).out hb1)
  have HI1 := hide (ir_low hi1 (ws_below (HW0 _).out).size)
  obtain ⟨n0, n1, n2, n3, n4, n5, n6⟩ := nodeAt_cells HW1.out.1
  rw [hA] at n3
  rw [hB] at n4
  clear hm1 hv1 hi1 hb1
  go_wp2_with fail
  refine (CB0.out _ (ws_lt HW1.out) (ws_row HW1.out)).mono ?_
  rintro e w2 ⟨a2, k2, m2, M2, o2, rfl, hm2, hv2, hl2, hi2, hb2⟩
  have HM2 := hide hm2
  have HV2 := hide hv2
  have HW2 := hide (ws_go HW1.out hb2)
  have HI1b := hide (ir_go HI1.out hb2)
  have HI2 := hide (ir_low hi2 (ws_below HW1.out).size)
  clear hm2 hv2 hi2 hb2 n0 n1 n2 n3 n4 n5 n6
  cases o1
  · have HF := hide (sv_rowF HE.out HV1.out HV2.out rfl [])
    go_wp2
    go_ret2
    exact ⟨none, 0, 0, [], false, rfl, rfl, HF.out, Nat.zero_le _, ir_nil _ _, ws_below HW2.out⟩
  · cases o2
    · have HF := hide (sv_rowF HE.out HV1.out HV2.out rfl [])
      go_wp2
      go_ret2
      exact ⟨none, 0, 0, [], false, rfl, rfl, HF.out, Nat.zero_le _, ir_nil _ _, ws_below HW2.out⟩
    · have hwz : IntKind.i64.wrap ((m1 : Int) + (m2 : Int)) = (m1 : Int) + (m2 : Int) := by rw [IntKind.wrap_i64]; omega
      by_cases hz3 : m1 + m2 ≤ 300
      · have HT := hide (sv_row HE.out HV1.out HV2.out (by rw [← HM1.out, ← HM2.out]; exact hz3))
        have hzd : decide ((300 : Int) < (m1 : Int) + (m2 : Int)) = false := decide_eq_false (by omega)
        have CN := hide (fun T => i_concat w.heap.size w.heap.size w2.heap.size T a1 a2 k1 k2 m1 m2 M1 M2 (w2.alloc (.cells #[.slice a1 m1 k1, .slice a2 m2 k2] T)) HM1.out HM2.out hz3 (ir_go HI1b.out ((Below.refl _ _).alloc (Nat.le_refl _) _)) (ir_go HI2.out ((Below.refl _ _).alloc (Nat.le_refl _) _)) (heap_alloc_new w2 _))
        go_wp2_with (go_at_call 81; refine (CN.out _).mono ?_; rintro e w3 ⟨a3, c3, rfl, hi3, hb3⟩; have HB3 := hide (((ws_below HW2.out).alloc (ws_below HW2.out).size _).trans (hb3.mono ((ws_below HW2.out).alloc (ws_below HW2.out).size _).size)); have HI3 := hide (ir_low hi3 ((ws_below HW2.out).alloc (ws_below HW2.out).size _).size); clear hi3 hb3)
        go_ret2
        exact ⟨a3, c3, m1 + m2, M1 ++ M2, true, rfl, by rw [List.length_append, HM1.out, HM2.out], HT.out, hz3, HI3.out, HB3.out⟩
      · have HF := hide (sv_rowL HE.out HV1.out HV2.out (by rw [← HM1.out, ← HM2.out]; exact hz3) [])
        have hzd : decide ((300 : Int) < (m1 : Int) + (m2 : Int)) = true := decide_eq_true (by omega)
        go_wp2
        go_ret2
        exact ⟨none, 0, 0, [], false, rfl, rfl, HF.out, Nat.zero_le _, ir_nil _ _, ws_below HW2.out⟩
set_option maxRecDepth 100000 in
set_option maxHeartbeats 8000000 in
theorem r_or (X : Rx) (len : Nat) (hX : X.len = len) (hlen : len ≤ 120) (b off cap n : Nat) (ad : Option Addr) (cp : Nat) (w : World) (hn : n < len) (hb : b < w.heap.size) (hr : RxRow w b off X w.heap.size) (i j : Nat) (hk : X.K n = 4) (hA : X.A n = (i : Int)) (hB : X.B n = (j : Int)) (hai : i < n) (hbj : j < n) (CA : ImC X len b off cap i) (CB : ImC X len b off cap j) :
    Calls Tryz.prog 57 #[.slice (some ⟨b, off, none⟩) len cap, .agg #[.int .i64 4, .bool (X.NT n), .slice ad (X.NR n) cp, .int .i64 (i : Int), .int .i64 (j : Int), .int .i64 (X.MN n), .int .i64 (X.MX n)]] w (ShAns X n 300 w) := by
  obtain ⟨i0, hi0, hz0, hz1, hz2⟩ := info_parts info64S
  have HR := hide hr
  have st : ∀ o, Below w.heap.size w (w.alloc o) := fun o => (Below.refl _ _).alloc (Nat.le_refl _) _
  have HW0 : ∀ T, Hid (WS w (w.alloc (.cells #[.int .i64 (X.K n), .bool (X.NT n), .slice ad (X.NR n) cp, .int .i64 (X.A n), .int .i64 (X.B n), .int .i64 (X.MN n), .int .i64 (X.MX n)] T)) b off X n ad cp) := fun T => ⟨nodeAt_new _ _ _ _ _ _ _ _ _ _ _, rxRow_go HR.out hb (st _), hb, st _⟩
  have HE := hide (sh_or hk hA hB hai hbj)
  have CA0 := hide CA
  have CB0 := hide CB
  simp only [hk, hA, hB] at HW0
  clear hr CA CB
  go_enter Tryz.func57, Tryz.ntmps57
  go_wp2_with fail
  refine (CA0.out _ (ws_lt (HW0 _).out) (ws_row (HW0 _).out)).mono ?_
  rintro e w1 ⟨a1, k1, m1, M1, o1, rfl, hm1, hv1, hl1, hi1, hb1⟩
  have HM1 := hide hm1
  have HV1 := hide hv1
  have HW1 := hide (ws_go (HW0 _).out hb1)
  have HI1 := hide (ir_low hi1 (ws_below (HW0 _).out).size)
  obtain ⟨n0, n1, n2, n3, n4, n5, n6⟩ := nodeAt_cells HW1.out.1
  rw [hA] at n3
  rw [hB] at n4
  clear hm1 hv1 hi1 hb1
  go_wp2_with fail
  refine (CB0.out _ (ws_lt HW1.out) (ws_row HW1.out)).mono ?_
  rintro e w2 ⟨a2, k2, m2, M2, o2, rfl, hm2, hv2, hl2, hi2, hb2⟩
  have HM2 := hide hm2
  have HV2 := hide hv2
  have HW2 := hide (ws_go HW1.out hb2)
  have HI1b := hide (ir_go HI1.out hb2)
  have HI2 := hide (ir_low hi2 (ws_below HW1.out).size)
  clear hm2 hv2 hi2 hb2 n0 n1 n2 n3 n4 n5 n6
  cases o1
  · have HT := hide (sv_orB HE.out HV1.out HV2.out)
    go_wp2
    go_ret2
    exact ⟨a2, k2, m2, M2, o2, rfl, HM2.out, HT.out, by omega, HI2.out, ws_below HW2.out⟩
  · cases o2
    · have HT := hide (sv_orF HE.out HV1.out HV2.out)
      go_wp2
      go_ret2
      exact ⟨a1, k1, m1, M1, true, rfl, HM1.out, HT.out, by omega, HI1b.out, ws_below HW2.out⟩
    · by_cases hz3 : m2 < m1
      · have HT := hide (sv_orL HE.out HV1.out HV2.out (by rw [← HM1.out, ← HM2.out]; exact hz3))
        have hzd : decide ((m2 : Int) < (m1 : Int)) = true := decide_eq_true (by omega)
        go_wp2
        go_ret2
        exact ⟨a2, k2, m2, M2, true, rfl, HM2.out, HT.out, by omega, HI2.out, ws_below HW2.out⟩
      · have HT := hide (sv_orA HE.out HV1.out HV2.out (by rw [← HM1.out, ← HM2.out]; exact hz3))
        have hzd : decide ((m2 : Int) < (m1 : Int)) = false := decide_eq_false (by omega)
        go_wp2
        go_ret2
        exact ⟨a1, k1, m1, M1, true, rfl, HM1.out, HT.out, by omega, HI1b.out, ws_below HW2.out⟩
set_option maxRecDepth 100000 in
set_option maxHeartbeats 8000000 in
theorem r_cnt (X : Rx) (len : Nat) (hX : X.len = len) (hlen : len ≤ 120) (b off cap n : Nat) (ad : Option Addr) (cp : Nat) (w : World) (hn : n < len) (hb : b < w.heap.size) (hr : RxRow w b off X w.heap.size) (i q : Nat) (hk : X.K n = 5) (hA : X.A n = (i : Int)) (hai : i < n) (hq : X.MN n = (q : Int)) (hq20 : q ≤ 20) (CA : ImC X len b off cap i) :
    Calls Tryz.prog 58 #[.slice (some ⟨b, off, none⟩) len cap, .agg #[.int .i64 5, .bool (X.NT n), .slice ad (X.NR n) cp, .int .i64 (i : Int), .int .i64 (X.B n), .int .i64 (q : Int), .int .i64 (X.MX n)]] w (ShAns X n 300 w) := by
  obtain ⟨i0, hi0, hz0, hz1, hz2⟩ := info_parts info64S
  have HR := hide hr
  have st : ∀ o, Below w.heap.size w (w.alloc o) := fun o => (Below.refl _ _).alloc (Nat.le_refl _) _
  have HW0 : ∀ T, Hid (WS w (w.alloc (.cells #[.int .i64 (X.K n), .bool (X.NT n), .slice ad (X.NR n) cp, .int .i64 (X.A n), .int .i64 (X.B n), .int .i64 (X.MN n), .int .i64 (X.MX n)] T)) b off X n ad cp) := fun T => ⟨nodeAt_new _ _ _ _ _ _ _ _ _ _ _, rxRow_go HR.out hb (st _), hb, st _⟩
  have HE := hide (sh_cnt hk hA hai)
  have CA0 := hide CA
  rw [hq] at HE
  simp only [hk, hA, hq] at HW0
  clear hr CA
  by_cases h0 : q = 0
  · have HV := hide (sv_cnt0 HE.out (by omega))
    subst h0
    clear HE CA0 HW0
    go_enter Tryz.func58, Tryz.ntmps58
    go_wp2
    go_ret2
    exact ⟨none, 0, 0, [], true, rfl, rfl, HV.out, Nat.zero_le _, ir_nil _ _, st _⟩
  · have hq0 : (q : Int) ≠ 0 := by omega
    have hqb : ((q : Int) == 0) = false := by rw [beq_eq_false_iff_ne]; exact hq0
    go_enter Tryz.func58, Tryz.ntmps58
    go_wp2_with fail
    refine (CA0.out _ (ws_lt (HW0 _).out) (ws_row (HW0 _).out)).mono ?_
    rintro e w2 ⟨a1, k1, m1, M1, o1, rfl, hm1, hv1, hl1, hi1, hb1⟩
    have HM1 := hide hm1
    have HV1 := hide hv1
    have HW2 := hide (ws_go (HW0 _).out hb1)
    have HI1 := hide (ir_low hi1 (ws_below (HW0 _).out).size)
    obtain ⟨n0, n1, n2, n3, n4, n5, n6⟩ := nodeAt_cells HW2.out.1
    rw [hq] at n5
    clear hm1 hv1 hi1 hb1
    cases o1
    · have HF := hide (sv_cntF HE.out hq0 HV1.out [])
      go_wp2
      go_ret2
      exact ⟨none, 0, 0, [], false, rfl, rfl, HF.out, Nat.zero_le _, ir_nil _ _, ws_below HW2.out⟩
    · have hmq : m1 * q ≤ 6000 := Nat.le_trans (Nat.mul_le_mul hl1 hq20) (by decide)
      obtain ⟨z, hz⟩ : ∃ z, m1 * q = z := ⟨_, rfl⟩
      have hwz : IntKind.i64.wrap ((m1 : Int) * (q : Int)) = (z : Int) := by rw [← Int.natCast_mul, hz, IntKind.wrap_i64]; omega
      by_cases hz3 : z ≤ 300
      · have HT : Hid (ShV X n (repL M1 q) true) := hide (by have h9 := sv_cnt HE.out hq0 HV1.out (by rw [Int.toNat_natCast, ← HM1.out, hz]; exact hz3); rw [Int.toNat_natCast] at h9; exact h9)
        have hzd : decide ((300 : Int) < (z : Int)) = false := decide_eq_false (by omega)
        have CN := hide (i_repeat w.heap.size a1 k1 m1 q M1 w2 HM1.out (by omega) hq20 (by rw [hz]; exact hz3) HI1.out)
        rw [hz] at CN
        have HLn : Hid (z = (repL M1 q).length) := hide (by rw [rep_len, ← HM1.out, Nat.mul_comm]; exact hz.symm)
        clear hz
        go_wp2_with (go_at_call 82; refine CN.out.mono ?_; rintro e w3 ⟨a3, c3, rfl, hi3, hb3⟩; have HB3 := hide ((ws_below HW2.out).trans (hb3.mono (ws_below HW2.out).size)); have HI3 := hide (ir_low hi3 (ws_below HW2.out).size); clear hi3 hb3)
        go_ret2
        exact ⟨a3, c3, z, repL M1 q, true, rfl, HLn.out, HT.out, hz3, HI3.out, HB3.out⟩
      · have HF := hide (sv_cntL HE.out hq0 HV1.out (by rw [Int.toNat_natCast, ← HM1.out, hz]; exact hz3) [])
        have hzd : decide ((300 : Int) < (z : Int)) = true := decide_eq_true (by omega)
        clear hz
        go_wp2
        go_ret2
        exact ⟨none, 0, 0, [], false, rfl, rfl, HF.out, Nat.zero_le _, ir_nil _ _, ws_below HW2.out⟩
set_option maxRecDepth 100000 in
set_option maxHeartbeats 8000000 in
theorem o_empty (X : Rx) (len : Nat) (hX : X.len = len) (hlen : len ≤ 120) (b off cap n : Nat) (w : World) (hn : n < len) (hb : b < w.heap.size) (hr : RxRow w b off X w.heap.size) (h1 : X.K n = 1) :
    Calls Tryz.prog 34 #[.slice (some ⟨b, off, none⟩) len cap, .int .i64 n] w (ShAns X n 300 w) := by
  have HR := hide hr
  have hXn : n < X.len := by rw [hX]; exact hn
  obtain ⟨ad, cp, hc, hrg⟩ := hr n hXn
  obtain ⟨c0, c1, c2, c3, c4, c5, c6⟩ := hc
  have hi : (n : Int) < (len : Int) := by omega
  have st : ∀ o, Below w.heap.size w (w.alloc o) := fun o => (Below.refl _ _).alloc (Nat.le_refl _) _
  have HW0 : ∀ T, Hid (WS w (w.alloc (.cells #[.int .i64 (X.K n), .bool (X.NT n), .slice ad (X.NR n) cp, .int .i64 (X.A n), .int .i64 (X.B n), .int .i64 (X.MN n), .int .i64 (X.MX n)] T)) b off X n ad cp) := fun T => ⟨nodeAt_new _ _ _ _ _ _ _ _ _ _ _, rxRow_go HR.out hb (st _), hb, st _⟩
  have HV := hide (sv_empty h1)
  rw [h1] at c0
  clear hr h1 HW0 hrg
  go_enter Tryz.func34, Tryz.ntmps34
  go_wp2
  go_ret2
  exact ⟨none, 0, 0, [], true, rfl, rfl, HV.out, Nat.zero_le _, ir_nil _ _, st _⟩
set_option maxRecDepth 100000 in
set_option maxHeartbeats 8000000 in
theorem o_class (X : Rx) (len : Nat) (hX : X.len = len) (hlen : len ≤ 120) (b off cap n : Nat) (w : World) (hn : n < len) (hb : b < w.heap.size) (hr : RxRow w b off X w.heap.size) (h2 : X.K n = 2) (hok : RgOk (X.NR n) (X.L n) (X.H n)) :
    Calls Tryz.prog 34 #[.slice (some ⟨b, off, none⟩) len cap, .int .i64 n] w (ShAns X n 300 w) := by
  have HR := hide hr
  have hXn : n < X.len := by rw [hX]; exact hn
  obtain ⟨ad, cp, hc, hrg⟩ := hr n hXn
  obtain ⟨c0, c1, c2, c3, c4, c5, c6⟩ := hc
  have hi : (n : Int) < (len : Int) := by omega
  have st : ∀ o, Below w.heap.size w (w.alloc o) := fun o => (Below.refl _ _).alloc (Nat.le_refl _) _
  have HW0 : ∀ T, Hid (WS w (w.alloc (.cells #[.int .i64 (X.K n), .bool (X.NT n), .slice ad (X.NR n) cp, .int .i64 (X.A n), .int .i64 (X.B n), .int .i64 (X.MN n), .int .i64 (X.MX n)] T)) b off X n ad cp) := fun T => ⟨nodeAt_new _ _ _ _ _ _ _ _ _ _ _, rxRow_go HR.out hb (st _), hb, st _⟩
  have CL := hide (fun w2 (h : Below w.heap.size w w2) => i_least (X.NT n) ad (X.NR n) cp (X.A n) (X.B n) (X.MN n) (X.MX n) (X.L n) (X.H n) w2 hok (rngAt_up (rngAt_go hrg h) h.size))
  have HV1 := hide (fun x => sv_class (X := X) h2 (x := x))
  have HV0 := hide (fun M h => sv_classF (X := X) h2 h M)
  rw [h2] at c0
  simp only [h2] at HW0
  clear hr h2 hrg hok
  cases hle : leC (X.NT n) (X.NR n) (X.L n) (X.H n) with
  | none =>
    rw [hle] at CL
    go_enter Tryz.func34, Tryz.ntmps34
    go_wp2_with (go_at_call 55; refine (CL.out _ (st _)).mono ?_; rintro e w2 ⟨rfl, hb2⟩; have HB2 := hide ((st _).trans (hb2.mono (st _).size)); clear hb2; simp only [Option.getD_none, Option.isSome_none])
    go_ret2
    exact ⟨_, 1, 1, [0], false, rfl, rfl, HV0.out _ hle, by omega, ir_low (ir_one _ _) HB2.out.size, HB2.out.alloc HB2.out.size _⟩
  | some x =>
    rw [hle] at CL
    go_enter Tryz.func34, Tryz.ntmps34
    go_wp2_with (go_at_call 55; refine (CL.out _ (st _)).mono ?_; rintro e w2 ⟨rfl, hb2⟩; have HB2 := hide ((st _).trans (hb2.mono (st _).size)); clear hb2; simp only [Option.getD_some, Option.isSome_some])
    go_ret2
    exact ⟨_, 1, 1, [x], true, rfl, rfl, HV1.out _ hle, by omega, ir_low (ir_one _ _) HB2.out.size, HB2.out.alloc HB2.out.size _⟩
set_option maxRecDepth 100000 in
set_option maxHeartbeats 8000000 in
theorem o_seq (X : Rx) (len : Nat) (hX : X.len = len) (hlen : len ≤ 120) (b off cap n : Nat) (w : World) (hn : n < len) (hb : b < w.heap.size) (hr : RxRow w b off X w.heap.size) (i j : Nat) (hk : X.K n = 3) (hA : X.A n = (i : Int)) (hB : X.B n = (j : Int)) (hai : i < n) (hbj : j < n) (CA : ImC X len b off cap i) (CB : ImC X len b off cap j) :
    Calls Tryz.prog 34 #[.slice (some ⟨b, off, none⟩) len cap, .int .i64 n] w (ShAns X n 300 w) := by
  have HR := hide hr
  have hXn : n < X.len := by rw [hX]; exact hn
  obtain ⟨ad, cp, hc, hrg⟩ := hr n hXn
  obtain ⟨c0, c1, c2, c3, c4, c5, c6⟩ := hc
  have hi : (n : Int) < (len : Int) := by omega
  have st : ∀ o, Below w.heap.size w (w.alloc o) := fun o => (Below.refl _ _).alloc (Nat.le_refl _) _
  have HW0 : ∀ T, Hid (WS w (w.alloc (.cells #[.int .i64 (X.K n), .bool (X.NT n), .slice ad (X.NR n) cp, .int .i64 (X.A n), .int .i64 (X.B n), .int .i64 (X.MN n), .int .i64 (X.MX n)] T)) b off X n ad cp) := fun T => ⟨nodeAt_new _ _ _ _ _ _ _ _ _ _ _, rxRow_go HR.out hb (st _), hb, st _⟩
  have CR := hide (fun T => r_seq X len hX hlen b off cap n ad cp (w.alloc (.cells #[.int .i64 3, .bool (X.NT n), .slice ad (X.NR n) cp, .int .i64 (i : Int), .int .i64 (j : Int), .int .i64 (X.MN n), .int .i64 (X.MX n)] T)) hn (Nat.lt_of_lt_of_le hb (st _).size) (rxRow_up (rxRow_go HR.out hb (st _)) (st _).size) i j hk hA hB hai hbj CA CB)
  rw [hk] at c0
  rw [hA] at c3
  rw [hB] at c4
  clear hr hrg CA CB
  go_enter Tryz.func34, Tryz.ntmps34
  go_wp2_with (go_at_call 56; refine (CR.out _).mono ?_; rintro e w3 ⟨a3, c3, m3, M3, o3, rfl, hm3, hv3, hl3, hi3, hb3⟩; have H3 := hide hm3; have HV3 := hide hv3; have HI3 := hide (ir_low hi3 (st _).size); have HB3 := hide ((st _).trans (hb3.mono (st _).size)); clear hm3 hv3 hi3 hb3)
  go_ret2
  exact ⟨a3, c3, m3, M3, o3, rfl, H3.out, HV3.out, hl3, HI3.out, HB3.out⟩
set_option maxRecDepth 100000 in
set_option maxHeartbeats 8000000 in
theorem o_or (X : Rx) (len : Nat) (hX : X.len = len) (hlen : len ≤ 120) (b off cap n : Nat) (w : World) (hn : n < len) (hb : b < w.heap.size) (hr : RxRow w b off X w.heap.size) (i j : Nat) (hk : X.K n = 4) (hA : X.A n = (i : Int)) (hB : X.B n = (j : Int)) (hai : i < n) (hbj : j < n) (CA : ImC X len b off cap i) (CB : ImC X len b off cap j) :
    Calls Tryz.prog 34 #[.slice (some ⟨b, off, none⟩) len cap, .int .i64 n] w (ShAns X n 300 w) := by
  have HR := hide hr
  have hXn : n < X.len := by rw [hX]; exact hn
  obtain ⟨ad, cp, hc, hrg⟩ := hr n hXn
  obtain ⟨c0, c1, c2, c3, c4, c5, c6⟩ := hc
  have hi : (n : Int) < (len : Int) := by omega
  have st : ∀ o, Below w.heap.size w (w.alloc o) := fun o => (Below.refl _ _).alloc (Nat.le_refl _) _
  have HW0 : ∀ T, Hid (WS w (w.alloc (.cells #[.int .i64 (X.K n), .bool (X.NT n), .slice ad (X.NR n) cp, .int .i64 (X.A n), .int .i64 (X.B n), .int .i64 (X.MN n), .int .i64 (X.MX n)] T)) b off X n ad cp) := fun T => ⟨nodeAt_new _ _ _ _ _ _ _ _ _ _ _, rxRow_go HR.out hb (st _), hb, st _⟩
  have CR := hide (fun T => r_or X len hX hlen b off cap n ad cp (w.alloc (.cells #[.int .i64 4, .bool (X.NT n), .slice ad (X.NR n) cp, .int .i64 (i : Int), .int .i64 (j : Int), .int .i64 (X.MN n), .int .i64 (X.MX n)] T)) hn (Nat.lt_of_lt_of_le hb (st _).size) (rxRow_up (rxRow_go HR.out hb (st _)) (st _).size) i j hk hA hB hai hbj CA CB)
  rw [hk] at c0
  rw [hA] at c3
  rw [hB] at c4
  clear hr hrg CA CB
  go_enter Tryz.func34, Tryz.ntmps34
  go_wp2_with (go_at_call 57; refine (CR.out _).mono ?_; rintro e w3 ⟨a3, c3, m3, M3, o3, rfl, hm3, hv3, hl3, hi3, hb3⟩; have H3 := hide hm3; have HV3 := hide hv3; have HI3 := hide (ir_low hi3 (st _).size); have HB3 := hide ((st _).trans (hb3.mono (st _).size)); clear hm3 hv3 hi3 hb3)
  go_ret2
  exact ⟨a3, c3, m3, M3, o3, rfl, H3.out, HV3.out, hl3, HI3.out, HB3.out⟩
set_option maxRecDepth 100000 in
set_option maxHeartbeats 8000000 in
theorem o_cnt (X : Rx) (len : Nat) (hX : X.len = len) (hlen : len ≤ 120) (b off cap n : Nat) (w : World) (hn : n < len) (hb : b < w.heap.size) (hr : RxRow w b off X w.heap.size) (i q : Nat) (hk : X.K n = 5) (hA : X.A n = (i : Int)) (hai : i < n) (hq : X.MN n = (q : Int)) (hq20 : q ≤ 20) (CA : ImC X len b off cap i) :
    Calls Tryz.prog 34 #[.slice (some ⟨b, off, none⟩) len cap, .int .i64 n] w (ShAns X n 300 w) := by
  have HR := hide hr
  have hXn : n < X.len := by rw [hX]; exact hn
  obtain ⟨ad, cp, hc, hrg⟩ := hr n hXn
  obtain ⟨c0, c1, c2, c3, c4, c5, c6⟩ := hc
  have hi : (n : Int) < (len : Int) := by omega
  have st : ∀ o, Below w.heap.size w (w.alloc o) := fun o => (Below.refl _ _).alloc (Nat.le_refl _) _
  have HW0 : ∀ T, Hid (WS w (w.alloc (.cells #[.int .i64 (X.K n), .bool (X.NT n), .slice ad (X.NR n) cp, .int .i64 (X.A n), .int .i64 (X.B n), .int .i64 (X.MN n), .int .i64 (X.MX n)] T)) b off X n ad cp) := fun T => ⟨nodeAt_new _ _ _ _ _ _ _ _ _ _ _, rxRow_go HR.out hb (st _), hb, st _⟩
  have CR := hide (fun T => r_cnt X len hX hlen b off cap n ad cp (w.alloc (.cells #[.int .i64 5, .bool (X.NT n), .slice ad (X.NR n) cp, .int .i64 (i : Int), .int .i64 (X.B n), .int .i64 (q : Int), .int .i64 (X.MX n)] T)) hn (Nat.lt_of_lt_of_le hb (st _).size) (rxRow_up (rxRow_go HR.out hb (st _)) (st _).size) i q hk hA hai hq hq20 CA)
  rw [hk] at c0
  rw [hA] at c3
  rw [hq] at c5
  clear hr hrg CA
  go_enter Tryz.func34, Tryz.ntmps34
  go_wp2_with (go_at_call 58; refine (CR.out _).mono ?_; rintro e w3 ⟨a3, c3, m3, M3, o3, rfl, hm3, hv3, hl3, hi3, hb3⟩; have H3 := hide hm3; have HV3 := hide hv3; have HI3 := hide (ir_low hi3 (st _).size); have HB3 := hide ((st _).trans (hb3.mono (st _).size)); clear hm3 hv3 hi3 hb3)
  go_ret2
  exact ⟨a3, c3, m3, M3, o3, rfl, H3.out, HV3.out, hl3, HI3.out, HB3.out⟩
/-- A node's shortest text, by the program. -/
theorem i_short (X : Rx) (len : Nat) (hX : X.len = len) (hlen : len ≤ 120) (hm : NdOk X len) (b off cap : Nat) : ∀ (m n f : Nat), n < m → n < len → trX X n = some f → ImC X len b off cap n
  | 0, n, f, hmn, hn, htr => by omega
  | m + 1, n, f, hmn, hn, htr => by
    have IH := i_short X len hX hlen hm b off cap m
    intro w hb hr
    obtain ⟨h5, h2, hk⟩ := hm n hn
    rcases hk with k1 | k2 | k3 | k4 | k5
    · exact o_empty X len hX hlen b off cap n w hn hb hr k1
    · exact o_class X len hX hlen b off cap n w hn hb hr k2 (h2 k2)
    · obtain ⟨c, hA, hB, ha, hb9, h1, hc, t1, t2⟩ := tr_parts htr (.inl k3)
      exact o_seq X len hX hlen b off cap n w hn hb hr _ _ k3 hA hB ha hb9 (IH _ _ (by omega) (by omega) t2) (IH _ _ (by omega) (by omega) t1)
    · obtain ⟨c, hA, hB, ha, hb9, h1, hc, t1, t2⟩ := tr_parts htr (.inr k4)
      exact o_or X len hX hlen b off cap n w hn hb hr _ _ k4 hA hB ha hb9 (IH _ _ (by omega) (by omega) t2) (IH _ _ (by omega) (by omega) t1)
    · obtain ⟨hA, ha, t1⟩ := tr_part1 htr k5
      exact o_cnt X len hX hlen b off cap n w hn hb hr _ (X.MN n).toNat k5 hA ha (by have := (h5 k5).1; omega) (by have := (h5 k5).2.1; omega) (IH _ _ (by omega) (by omega) t1)
end Go.Proofs.YtepommmmmfaihaaGreatDoor
