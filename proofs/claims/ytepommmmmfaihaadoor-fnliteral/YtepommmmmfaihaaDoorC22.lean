/-
  Contract: entering a node.
-/
import Derived.Test.YtepommmmmfaihaaDoorC21
import Derived.Deep.RegionHeld3
namespace Go.Proofs.YtepommmmmfaihaaDoor
open Go.RowKit Go.Joins
set_option linter.unusedVariables false
set_option linter.unusedSimpArgs false
theorem ma_drew {B R : Nat} {w : World} {v0 v2 v3 : Value} {M : List Sp} (h : MA B w R v0 v2 v3 M) : MA B w.drew R v0 v2 v3 M := h
theorem bx_twoM {w : World} {G : Nat} {kd : Int} {nt : Bool} {a : Option Addr} {n c : Nat} {A B mn mx : Int} (h : BXm w G kd nt a n c A B mn mx) : w.cell? ⟨G, 3, none⟩ = some (.int .i64 A) ∧ w.cell? ⟨G, 4, none⟩ = some (.int .i64 B) := by
  obtain ⟨a0, a1, a2, a3, a4, a5, a6⟩ := nodeAt_cells (bx_nd h)
  exact ⟨a3, a4⟩
set_option maxRecDepth 100000 in
set_option maxHeartbeats 8000000 in
theorem e_empty (X : Rx) (len : Nat) (hX : X.len = len) (hlen : len ≤ 120) (b off cap B n : Nat) (hn : n < len) (R : Nat) (v2 v3 : Value) (M : List Sp) (next : Nat) (w : World) (hr : RxRow w b off X B) (hb : b < B) (h : MA B w R (.slice (some ⟨b, off, none⟩) len cap) v2 v3 M) (h0 : M ≠ []) (hx : next < M.length) (hz : M.length + tsX X n ≤ 300000) (hk : X.K n = 1) :
    Calls Tryd.prog 39 #[.pointer (some ⟨R, 0, none⟩), .int .i64 n, .int .i64 next] w (EnA X B R (.slice (some ⟨b, off, none⟩) len cap) v2 v3 M n next w) := by
  have HR := hide hr
  have hB := (ma_lt h).1
  have hRw := (ma_lt h).2
  have hXn : n < X.len := by rw [hX]; exact hn
  obtain ⟨ad, cp, hc, hrg⟩ := hr n hXn
  obtain ⟨c0, c1, c2, c3, c4, c5, c6⟩ := hc
  have hi : (n : Int) < (len : Int) := by omega
  have hi0 : (0 : Int) ≤ (n : Int) := by omega
  have HBA := fun o => hide (bf_alloc (R := R) hB o)
  have HMA := fun o => hide (ma_go h ((Below.refl w.heap.size w).alloc (Nat.le_refl _) o))
  have HBX := fun kd A' B' mn mx => hide (bx_new w kd (X.NT n) ad (X.NR n) cp A' B' mn mx)
  have hne : w.heap.size ≠ R := by omega
  have HGE := hide hne
  obtain ⟨sa, sc, d0, d1, d2, d3, -⟩ := ma_at h
  have HN := hide h0
  have HX := hide hx
  rw [hk] at c0
  have HT := hide (fun c => tk_empty (c := c) hk)
  clear hr h h0 hrg hX hXn hx hk
  go_enter Tryd.func39, Tryd.ntmps39
  go_wp2
  go_ret
  exact ⟨next, M, rfl, ent_congr (ent_next HX.out) (fun c i j => by rw [HT.out c]), by omega, (HMA _).out, (HBA _).out⟩
set_option maxRecDepth 100000 in
set_option maxHeartbeats 8000000 in
theorem e_class (X : Rx) (len : Nat) (hX : X.len = len) (hlen : len ≤ 120) (b off cap B n : Nat) (hn : n < len) (R : Nat) (v2 v3 : Value) (M : List Sp) (next : Nat) (w : World) (hr : RxRow w b off X B) (hb : b < B) (h : MA B w R (.slice (some ⟨b, off, none⟩) len cap) v2 v3 M) (h0 : M ≠ []) (hx : next < M.length) (hz : M.length + tsX X n ≤ 300000) (hk : X.K n = 2) :
    Calls Tryd.prog 39 #[.pointer (some ⟨R, 0, none⟩), .int .i64 n, .int .i64 next] w (EnA X B R (.slice (some ⟨b, off, none⟩) len cap) v2 v3 M n next w) := by
  have HR := hide hr
  have hB := (ma_lt h).1
  have hRw := (ma_lt h).2
  have hXn : n < X.len := by rw [hX]; exact hn
  obtain ⟨ad, cp, hc, hrg⟩ := hr n hXn
  obtain ⟨c0, c1, c2, c3, c4, c5, c6⟩ := hc
  have hi : (n : Int) < (len : Int) := by omega
  have hi0 : (0 : Int) ≤ (n : Int) := by omega
  have HBA := fun o => hide (bf_alloc (R := R) hB o)
  have HMA := fun o => hide (ma_go h ((Below.refl w.heap.size w).alloc (Nat.le_refl _) o))
  have HBX := fun kd A' B' mn mx => hide (bx_new w kd (X.NT n) ad (X.NR n) cp A' B' mn mx)
  have hne : w.heap.size ≠ R := by omega
  have HGE := hide hne
  obtain ⟨sa, sc, d0, d1, d2, d3, -⟩ := ma_at h
  have HN := hide h0
  have HX := hide hx
  rw [hk] at c0
  have HT := hide (fun c => tk_class (c := c) hk)
  have HCL : Hid (n < X.len ∧ X.K n = 2) := hide ⟨hXn, hk⟩
  have HS := hide (ts_class hk)
  have CA := hide (fun W hW => i_addM B R (.slice (some ⟨b, off, none⟩) len cap) v2 v3 M ⟨false, n, next, 0⟩ M.length W rfl (by omega) hW)
  clear hr h h0 hrg hX hXn hx hk
  go_enter Tryd.func39, Tryd.ntmps39
  go_wp2_with (go_at_call 52; refine (CA.out _ (HMA _).out).mono ?_; rintro e w2 ⟨rfl, h2, hb2⟩; have H2 := hide h2; have HB2 := hide (bf_trans (HBA _).out hb2); clear h2 hb2)
  go_ret
  exact ⟨M.length, _, rfl, ent_congr (ent_class HN.out HCL.out) (fun c i j => by rw [HT.out c]), by rw [HS.out]; simp, H2.out, HB2.out⟩
set_option maxRecDepth 100000 in
set_option maxHeartbeats 8000000 in
theorem e_seq (X : Rx) (len : Nat) (hX : X.len = len) (hlen : len ≤ 120) (b off cap B n : Nat) (hn : n < len) (R : Nat) (v2 v3 : Value) (M : List Sp) (next : Nat) (w : World) (hr : RxRow w b off X B) (hb : b < B) (h : MA B w R (.slice (some ⟨b, off, none⟩) len cap) v2 v3 M) (h0 : M ≠ []) (hx : next < M.length) (hz : M.length + tsX X n ≤ 300000) (i j : Nat) (hk : X.K n = 3) (hA : X.A n = (i : Int)) (hBn : X.B n = (j : Int)) (hai : i < n) (hbj : j < n) (CA0 : EnC X len b off cap B i) (CB0 : EnC X len b off cap B j) :
    Calls Tryd.prog 39 #[.pointer (some ⟨R, 0, none⟩), .int .i64 n, .int .i64 next] w (EnA X B R (.slice (some ⟨b, off, none⟩) len cap) v2 v3 M n next w) := by
  have HR := hide hr
  have hB := (ma_lt h).1
  have hRw := (ma_lt h).2
  have hXn : n < X.len := by rw [hX]; exact hn
  obtain ⟨ad, cp, hc, hrg⟩ := hr n hXn
  obtain ⟨c0, c1, c2, c3, c4, c5, c6⟩ := hc
  have hi : (n : Int) < (len : Int) := by omega
  have hi0 : (0 : Int) ≤ (n : Int) := by omega
  have HBA := fun o => hide (bf_alloc (R := R) hB o)
  have HMA := fun o => hide (ma_go h ((Below.refl w.heap.size w).alloc (Nat.le_refl _) o))
  have HBX := fun kd A' B' mn mx => hide (bx_new w kd (X.NT n) ad (X.NR n) cp A' B' mn mx)
  have hne : w.heap.size ≠ R := by omega
  have HGE := hide hne
  obtain ⟨sa, sc, d0, d1, d2, d3, -⟩ := ma_at h
  have HN := hide h0
  have HX := hide hx
  rw [hk] at c0
  rw [hA] at c3
  rw [hBn] at c4
  have HT := hide (fun c => tk_seq (c := c) hk hA hBn hai hbj)
  have HS := hide (ts_seq hk hA hBn hai hbj)
  rw [HS.out] at hz
  have CA := hide (fun (W : World) (hW : Bf B R w W) M' nx (hM : MA B W R (.slice (some ⟨b, off, none⟩) len cap) v2 v3 M') hne hlt hsz => CA0 R v2 v3 M' nx W (rxRow_go HR.out hb hW.1) hb hM hne hlt hsz)
  have CB := hide (fun (W : World) (hW : Bf B R w W) M' nx (hM : MA B W R (.slice (some ⟨b, off, none⟩) len cap) v2 v3 M') hne hlt hsz => CB0 R v2 v3 M' nx W (rxRow_go HR.out hb hW.1) hb hM hne hlt hsz)
  clear hr h h0 hrg hX hXn hx hk CA0 CB0 hA hBn
  have HD := fun o => hide (bf_drew (HBA o).out)
  have HMD := fun o => hide (ma_drew (HMA o).out)
  have HX0 := hide (bx_twoM ((HBX 3 i j (X.MN n) (X.MX n)).out))
  go_enter Tryd.func39, Tryd.ntmps39
  go_wp2_with fail
  go_region_held3 (fun w' => w'.cell? ⟨w.heap.size, 3, none⟩ = some (.int .i64 (i : Int)) ∧ w'.cell? ⟨w.heap.size, 4, none⟩ = some (.int .i64 (j : Int))) (first | assumption | exact HX4.out | exact HX5.out | exact HX6.out | exact HX0.out) (first | (go_at_call_of 39 (j : Int); refine (CB.out _ (HD _).out M next (HMD _).out HN.out HX.out (by omega)).mono ?_; rintro e w4 ⟨p4, M4, rfl, he4, hl4, hm4, hb4⟩; have HE4 := hide he4; have HL4 := hide hl4; have HM4 := hide hm4; have HB4 := hide (bf_trans (HD _).out hb4); have HY4 := hide (bf_node hb4 (HBX 3 i j (X.MN n) (X.MX n)).out HGE.out); have HX4 := hide (bx_twoM HY4.out); have hq4 := ent_len he4; have hne4 := hide (len_ne (Nat.lt_of_le_of_lt (Nat.zero_le _) hq4.2)); clear he4 hm4 hb4) | (go_at_call_of 39 (i : Int); refine (CA.out _ HB4.out M4 p4 HM4.out hne4.out hq4.2 (by omega)).mono ?_; rintro e w5 ⟨p5, M5, rfl, he5, hl5, hm5, hb5⟩; have HE5 := hide he5; have HL5 := hide hl5; have HM5 := hide hm5; have HB5 := hide (bf_trans HB4.out hb5); have HY5 := hide (bf_node hb5 HY4.out HGE.out); have HX5 := hide (bx_twoM HY5.out); have hq5 := ent_len he5; clear he5 hm5 hb5))
  all_goals
    go_wp2
    go_ret
    exact ⟨p5, M5, rfl, ent_congr (ent_comp HE4.out HE5.out) (fun c i j => by rw [HT.out c]), by rw [HS.out]; omega, HM5.out, HB5.out⟩
set_option maxRecDepth 100000 in
set_option maxHeartbeats 8000000 in
theorem e_or (X : Rx) (len : Nat) (hX : X.len = len) (hlen : len ≤ 120) (b off cap B n : Nat) (hn : n < len) (R : Nat) (v2 v3 : Value) (M : List Sp) (next : Nat) (w : World) (hr : RxRow w b off X B) (hb : b < B) (h : MA B w R (.slice (some ⟨b, off, none⟩) len cap) v2 v3 M) (h0 : M ≠ []) (hx : next < M.length) (hz : M.length + tsX X n ≤ 300000) (i j : Nat) (hk : X.K n = 4) (hA : X.A n = (i : Int)) (hBn : X.B n = (j : Int)) (hai : i < n) (hbj : j < n) (CA0 : EnC X len b off cap B i) (CB0 : EnC X len b off cap B j) :
    Calls Tryd.prog 39 #[.pointer (some ⟨R, 0, none⟩), .int .i64 n, .int .i64 next] w (EnA X B R (.slice (some ⟨b, off, none⟩) len cap) v2 v3 M n next w) := by
  have HR := hide hr
  have hB := (ma_lt h).1
  have hRw := (ma_lt h).2
  have hXn : n < X.len := by rw [hX]; exact hn
  obtain ⟨ad, cp, hc, hrg⟩ := hr n hXn
  obtain ⟨c0, c1, c2, c3, c4, c5, c6⟩ := hc
  have hi : (n : Int) < (len : Int) := by omega
  have hi0 : (0 : Int) ≤ (n : Int) := by omega
  have HBA := fun o => hide (bf_alloc (R := R) hB o)
  have HMA := fun o => hide (ma_go h ((Below.refl w.heap.size w).alloc (Nat.le_refl _) o))
  have HBX := fun kd A' B' mn mx => hide (bx_new w kd (X.NT n) ad (X.NR n) cp A' B' mn mx)
  have hne : w.heap.size ≠ R := by omega
  have HGE := hide hne
  obtain ⟨sa, sc, d0, d1, d2, d3, -⟩ := ma_at h
  have HN := hide h0
  have HX := hide hx
  rw [hk] at c0
  rw [hA] at c3
  rw [hBn] at c4
  have HT := hide (fun c => tk_or (c := c) hk hA hBn hai hbj)
  have HS := hide (ts_or hk hA hBn hai hbj)
  rw [HS.out] at hz
  have CA := hide (fun (W : World) (hW : Bf B R w W) M' nx (hM : MA B W R (.slice (some ⟨b, off, none⟩) len cap) v2 v3 M') hne hlt hsz => CA0 R v2 v3 M' nx W (rxRow_go HR.out hb hW.1) hb hM hne hlt hsz)
  have CB := hide (fun (W : World) (hW : Bf B R w W) M' nx (hM : MA B W R (.slice (some ⟨b, off, none⟩) len cap) v2 v3 M') hne hlt hsz => CB0 R v2 v3 M' nx W (rxRow_go HR.out hb hW.1) hb hM hne hlt hsz)
  clear hr h h0 hrg hX hXn hx hk CA0 CB0 hA hBn
  have HD := fun o => hide (bf_drew (HBA o).out)
  have HMD := fun o => hide (ma_drew (HMA o).out)
  have HX0 := hide (bx_twoM ((HBX 4 i j (X.MN n) (X.MX n)).out))
  go_enter Tryd.func39, Tryd.ntmps39
  go_wp2_with fail
  go_region_held3 (fun w' => w'.cell? ⟨w.heap.size, 3, none⟩ = some (.int .i64 (i : Int)) ∧ w'.cell? ⟨w.heap.size, 4, none⟩ = some (.int .i64 (j : Int))) (first | assumption | exact HX4.out | exact HX5.out | exact HX6.out | exact HX0.out) (first | (go_at_call_of 39 (i : Int); refine (CA.out _ (HD _).out M next (HMD _).out HN.out HX.out (by omega)).mono ?_; rintro e w4 ⟨p4, M4, rfl, he4, hl4, hm4, hb4⟩; have HE4 := hide he4; have HL4 := hide hl4; have HM4 := hide hm4; have HB4 := hide (bf_trans (HD _).out hb4); have HY4 := hide (bf_node hb4 (HBX 4 i j (X.MN n) (X.MX n)).out HGE.out); have HX4 := hide (bx_twoM HY4.out); have hq4 := ent_len he4; have hne4 := hide (len_ne (Nat.lt_of_le_of_lt (Nat.zero_le _) hq4.2)); clear he4 hm4 hb4) | (go_at_call_of 39 (j : Int); refine (CB.out _ HB4.out M4 next HM4.out hne4.out (Nat.lt_of_lt_of_le HX.out hq4.1) (by omega)).mono ?_; rintro e w5 ⟨p5, M5, rfl, he5, hl5, hm5, hb5⟩; have HE5 := hide he5; have HL5 := hide hl5; have HM5 := hide hm5; have HB5 := hide (bf_trans HB4.out hb5); have HY5 := hide (bf_node hb5 HY4.out HGE.out); have HX5 := hide (bx_twoM HY5.out); have hq5 := ent_len he5; clear he5 hm5 hb5) | (go_at_call 53; refine (i_either B R (.slice (some ⟨b, off, none⟩) len cap) v2 v3 M5 p4 p5 M5.length w5 rfl (by omega) (by omega) hq5.2 HM5.out).mono ?_; rintro e w6 ⟨p6, M6, rfl, he6, hm6, hb6⟩; have HE6 := hide he6; have HM6 := hide hm6; have HB6 := hide (bf_trans HB5.out hb6); have HX6 := hide (bx_twoM (bf_node hb6 HY5.out HGE.out)); clear he6 hm6 hb6))
  all_goals
    go_wp2
    go_ret
    exact ⟨p6, M6, rfl, ent_congr (ent_either HN.out HE4.out HE5.out HE6.out) (fun c i j => by rw [HT.out c]), by rw [HS.out]; have := ei_len HE6.out; omega, HM6.out, HB6.out⟩
set_option maxRecDepth 100000 in
set_option maxHeartbeats 8000000 in
theorem e_cnt (X : Rx) (len : Nat) (hX : X.len = len) (hlen : len ≤ 120) (b off cap B n : Nat) (hn : n < len) (R : Nat) (v2 v3 : Value) (M : List Sp) (next : Nat) (w : World) (hr : RxRow w b off X B) (hb : b < B) (h : MA B w R (.slice (some ⟨b, off, none⟩) len cap) v2 v3 M) (h0 : M ≠ []) (hx : next < M.length) (hz : M.length + tsX X n ≤ 300000) (i f q : Nat) (mx : Int) (hk : X.K n = 5) (hA : X.A n = (i : Int)) (hai : i < n) (hMN : X.MN n = (q : Int)) (hMX : X.MX n = mx) (hq20 : q ≤ 20) (hm20 : mx ≤ 20) (hmx : mx = -1 ∨ (q : Int) ≤ mx) (hf : trX X i = some f) (CE : ∀ n f, n ≤ i → trX X n = some f → EnC X len b off cap B n) :
    Calls Tryd.prog 39 #[.pointer (some ⟨R, 0, none⟩), .int .i64 n, .int .i64 next] w (EnA X B R (.slice (some ⟨b, off, none⟩) len cap) v2 v3 M n next w) := by
  have HR := hide hr
  have hB := (ma_lt h).1
  have hRw := (ma_lt h).2
  have hXn : n < X.len := by rw [hX]; exact hn
  obtain ⟨ad, cp, hc, hrg⟩ := hr n hXn
  obtain ⟨c0, c1, c2, c3, c4, c5, c6⟩ := hc
  have hi : (n : Int) < (len : Int) := by omega
  have hi0 : (0 : Int) ≤ (n : Int) := by omega
  have HBA := fun o => hide (bf_alloc (R := R) hB o)
  have HMA := fun o => hide (ma_go h ((Below.refl w.heap.size w).alloc (Nat.le_refl _) o))
  have HBX := fun kd A' B' mn mx => hide (bx_new w kd (X.NT n) ad (X.NR n) cp A' B' mn mx)
  have hne : w.heap.size ≠ R := by omega
  have HGE := hide hne
  obtain ⟨sa, sc, d0, d1, d2, d3, -⟩ := ma_at h
  have HN := hide h0
  have HX := hide hx
  have CC := hide (fun (W : World) (hW : Bf B R w W) (hM : MA B W R (.slice (some ⟨b, off, none⟩) len cap) v2 v3 M) => i_countM X len hX hlen b off cap B n i f q _ _ mx ad cp hn hk hA hai hMN hMX hq20 hm20 hmx rfl rfl hf CE R v2 v3 M M.length next W (rxRow_go HR.out hb hW.1) hb hM rfl HN.out HX.out hz)
  rw [hk] at c0
  rw [hA] at c3
  rw [hMN] at c5
  rw [hMX] at c6
  clear hr h h0 hrg hX hXn hx hk CE hA hMN hMX hf hmx
  go_enter Tryd.func39, Tryd.ntmps39
  go_wp2_with (go_at_call 54; refine (CC.out _ (HBA _).out (HMA _).out).mono ?_; rintro e w2 ⟨p2, M2, rfl, he2, hl2, h2, hb2⟩; have H2 := hide h2; have HE2 := hide he2; have HL2 := hide hl2; have HB2 := hide (bf_trans (HBA _).out hb2); clear h2 hb2 he2 hl2)
  go_ret
  exact ⟨p2, M2, rfl, HE2.out, HL2.out, H2.out, HB2.out⟩
/-- Entering a node, by the program. -/
theorem i_enter (X : Rx) (len : Nat) (hX : X.len = len) (hlen : len ≤ 120) (hm : NdOk X len) (hcn : ∀ j, j < len → X.K j = 5 → X.MX j = -1 ∨ X.MN j ≤ X.MX j) (b off cap B : Nat) : ∀ (m n f : Nat), n < m → n < len → trX X n = some f → EnC X len b off cap B n
  | 0, n, f, hmn, hn, htr => by omega
  | m + 1, n, f, hmn, hn, htr => by
    have IH := i_enter X len hX hlen hm hcn b off cap B m
    intro R v2 v3 M next w hr hb h h0 hx hz
    obtain ⟨h5, h2, hk⟩ := hm n hn
    rcases hk with k1 | k2 | k3 | k4 | k5
    · exact e_empty X len hX hlen b off cap B n hn R v2 v3 M next w hr hb h h0 hx hz k1
    · exact e_class X len hX hlen b off cap B n hn R v2 v3 M next w hr hb h h0 hx hz k2
    · obtain ⟨c, hA, hB, ha, hb9, h1, hc, t1, t2⟩ := tr_parts htr (.inl k3)
      exact e_seq X len hX hlen b off cap B n hn R v2 v3 M next w hr hb h h0 hx hz _ _ k3 hA hB ha hb9 (IH _ _ (by omega) (by omega) t2) (IH _ _ (by omega) (by omega) t1)
    · obtain ⟨c, hA, hB, ha, hb9, h1, hc, t1, t2⟩ := tr_parts htr (.inr k4)
      exact e_or X len hX hlen b off cap B n hn R v2 v3 M next w hr hb h h0 hx hz _ _ k4 hA hB ha hb9 (IH _ _ (by omega) (by omega) t2) (IH _ _ (by omega) (by omega) t1)
    · obtain ⟨hA, ha, t1⟩ := tr_part1 htr k5
      have q5 := h5 k5
      have e1 : X.MN n = ((X.MN n).toNat : Int) := by omega
      exact e_cnt X len hX hlen b off cap B n hn R v2 v3 M next w hr hb h h0 hx hz _ f (X.MN n).toNat (X.MX n) k5 hA ha e1 rfl (by omega) q5.2.2.1 (by rw [← e1]; exact hcn n hn k5) t1 (fun n' f' hn' ht' => IH n' f' (by omega) (by omega) ht')
end Go.Proofs.YtepommmmmfaihaaDoor
