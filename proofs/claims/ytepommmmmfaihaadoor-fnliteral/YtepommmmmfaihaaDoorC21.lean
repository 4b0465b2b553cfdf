/-
  Contract: counts.
-/
import Derived.Test.YtepommmmmfaihaaDoorC20
namespace Go.Proofs.YtepommmmmfaihaaDoor
open Go.RowKit Go.Joins
set_option linter.unusedVariables false
set_option linter.unusedSimpArgs false
/-- What stands behind the pieces that must be there. -/
def Q1 (mx : Int) (t : Nat) (R : Nat → Nat → Prop) (i j : Nat) : Prop := (mx = -1 ∧ stR R i j) ∨ (mx ≠ -1 ∧ ∃ k, k ≤ t ∧ cnR R k i j)
theorem q1_zero {mx : Int} (h : mx ≠ -1) {R : Nat → Nat → Prop} (i j : Nat) : i = j ↔ Q1 mx 0 R i j := by
  constructor
  · intro e; exact .inr ⟨h, 0, Nat.le_refl _, e⟩
  · rintro (⟨e, -⟩ | ⟨-, k, hk, hc⟩)
    · exact absurd e h
    · have : k = 0 := by omega
      subst this
      exact hc
theorem q1_succ {mx : Int} (h : mx ≠ -1) {R : Nat → Nat → Prop} (t i j : Nat) : ((∃ m, R i m ∧ Q1 mx t R m j) ∨ i = j) ↔ Q1 mx (t + 1) R i j := by
  constructor
  · rintro (⟨m, h1, ⟨e, -⟩ | ⟨-, k, hk, hc⟩⟩ | e)
    · exact absurd e h
    · exact .inr ⟨h, k + 1, by omega, m, h1, hc⟩
    · exact .inr ⟨h, 0, by omega, e⟩
  · rintro (⟨e, -⟩ | ⟨-, k, hk, hc⟩)
    · exact absurd e h
    · cases k with
      | zero => exact .inr hc
      | succ k =>
        obtain ⟨m, h1, h2⟩ := hc
        exact .inl ⟨m, h1, .inr ⟨h, k, by omega, h2⟩⟩
theorem q1_end {mx : Int} {q D : Nat} (hmx : mx = -1 ∨ (q : Int) ≤ mx) (hD : D = (mx - q).toNat) {R : Nat → Nat → Prop} (i j : Nat) : (∃ m, cnR R q i m ∧ Q1 mx D R m j) ↔ ctR q mx R i j := by
  constructor
  · rintro ⟨m, h1, ⟨e, k, hk⟩ | ⟨e, k, hk, hc⟩⟩
    · exact ⟨q + k, by omega, .inl e, cn_add _ _ _ _ _ h1 hk⟩
    · exact ⟨q + k, by omega, .inr (by omega), cn_add _ _ _ _ _ h1 hc⟩
  · rintro ⟨k, h1, h2, h3⟩
    obtain ⟨d, rfl⟩ : ∃ d, k = q + d := ⟨k - q, by omega⟩
    obtain ⟨m, h4, h5⟩ := cn_split _ _ _ _ h3
    refine ⟨m, h4, ?_⟩
    by_cases e : mx = -1
    · exact .inl ⟨e, d, h5⟩
    · exact .inr ⟨e, d, by omega, h5⟩
theorem q2_succ {R Q : Nat → Nat → Prop} (u i j : Nat) : (∃ m, R i m ∧ ∃ m2, cnR R u m m2 ∧ Q m2 j) ↔ ∃ m, cnR R (u + 1) i m ∧ Q m j := by
  constructor
  · rintro ⟨m, h1, m2, h2, h3⟩; exact ⟨m2, ⟨m, h1, h2⟩, h3⟩
  · rintro ⟨m2, ⟨m, h1, h2⟩, h3⟩; exact ⟨m, h1, m2, h2, h3⟩
theorem q2_zero {R Q : Nat → Nat → Prop} (i j : Nat) : Q i j ↔ ∃ m, cnR R 0 i m ∧ Q m j := by
  constructor
  · intro h; exact ⟨i, rfl, h⟩
  · rintro ⟨m, rfl, h⟩; exact h
/-- How many places a loop begins with. -/
def s0F (mx : Int) (T : Nat) : Nat := if mx = -1 then T + 1 else 0
theorem sz_ok {mx : Int} {q D T mu : Nat} (hmx : mx = -1 ∨ (q : Int) ≤ mx) (hD : D = (mx - q).toNat) (h1 : q + 1 ≤ mu) (h2 : mx ≤ mu) : s0F mx T + D * (T + 1) + q * T ≤ mu * (T + 1) := by
  unfold s0F
  split
  · rename_i e
    have : D = 0 := by omega
    subst this
    have h3 : (q + 1) * (T + 1) ≤ mu * (T + 1) := Nat.mul_le_mul h1 (Nat.le_refl _)
    have h4 : (q + 1) * (T + 1) = q * T + q + (T + 1) := by rw [Nat.succ_mul, Nat.mul_succ]
    omega
  · have h3 : (D + q) * (T + 1) ≤ mu * (T + 1) := Nat.mul_le_mul (by omega) (Nat.le_refl _)
    have h4 : (D + q) * (T + 1) = D * (T + 1) + (q * T + q) := by rw [Nat.add_mul, Nat.mul_succ q T]
    omega
theorem sz_more {t D T : Nat} (h : t < D) : t * T + T ≤ D * T := by
  have := Nat.mul_le_mul (show t + 1 ≤ D by omega) (Nat.le_refl T)
  rw [Nat.succ_mul] at this
  exact this
theorem len_ne {M : List Sp} (h : 0 < M.length) : M ≠ [] := List.length_pos_iff.1 h
theorem ei_len {M M3 : List Sp} {p q r : Nat} (h : EiP M p q r M3) : M3.length ≤ M.length + 1 := by
  rcases h with ⟨-, -, rfl⟩ | ⟨-, -, -, rfl⟩ | ⟨-, -, rfl⟩
  · omega
  · omega
  · simp
theorem ent_len {X : Rx} {M M' : List Sp} {Q : (Nat → Nat → Bool) → Nat → Nat → Prop} {next p : Nat} (h : Ent X M Q next p M') : M.length ≤ M'.length ∧ p < M'.length := by
  obtain ⟨⟨E, rfl⟩, h2, -⟩ := h
  exact ⟨by simp, h2⟩
set_option maxRecDepth 100000 in
set_option maxHeartbeats 8000000 in
theorem i_countM (X : Rx) (len : Nat) (hX : X.len = len) (hlen : len ≤ 120) (b off cap B n i f q D mu : Nat) (mx : Int) (ad : Option Addr) (cp : Nat) (hn : n < len) (hk5 : X.K n = 5) (hA : X.A n = (i : Int)) (hai : i < n) (hMN : X.MN n = (q : Int)) (hMX : X.MX n = mx) (hq20 : q ≤ 20) (hm20 : mx ≤ 20) (hmx : mx = -1 ∨ (q : Int) ≤ mx) (hD : D = (mx - q).toNat) (hmu : (muX X n).toNat = mu)
    (hf : trX X i = some f) (CE : ∀ n f, n ≤ i → trX X n = some f → EnC X len b off cap B n)
    (R : Nat) (v2 v3 : Value) (M : List Sp) (m next : Nat) (w : World) (hr : RxRow w b off X B) (hb : b < B) (h : MA B w R (.slice (some ⟨b, off, none⟩) len cap) v2 v3 M) (hM : M.length = m) (h0 : M ≠ []) (hx : next < m) (hz : m + tsX X n ≤ 300000) :
    Calls Tryd.prog 54 #[.pointer (some ⟨R, 0, none⟩), .agg #[.int .i64 5, .bool (X.NT n), .slice ad (X.NR n) cp, .int .i64 (i : Int), .int .i64 (X.B n), .int .i64 (q : Int), .int .i64 mx], .int .i64 next] w (EnA X B R (.slice (some ⟨b, off, none⟩) len cap) v2 v3 M n next w) := by
  have hmu1 : q + 1 ≤ mu ∧ mx ≤ mu := by
    rw [← hmu]
    unfold muX
    rw [hMN, hMX]
    omega
  obtain ⟨T, hT⟩ : ∃ T, tsX X i = T := ⟨_, rfl⟩
  have hZ := sz_ok (T := T) hmx hD hmu1.1 hmu1.2
  have hts := ts_cnt hk5 hA hai
  rw [hmu, hT] at hts
  rw [hts] at hz
  obtain ⟨Z, hZe⟩ : ∃ Z, mu * (T + 1) = Z := ⟨_, rfl⟩
  rw [hZe] at hZ hz hts
  obtain ⟨s0, hs0⟩ : ∃ s0, s0F mx T = s0 := ⟨_, rfl⟩
  obtain ⟨z1, hz1⟩ : ∃ z1, D * (T + 1) = z1 := ⟨_, rfl⟩
  obtain ⟨z2, hz2⟩ : ∃ z2, q * T = z2 := ⟨_, rfl⟩
  rw [hs0, hz1, hz2] at hZ
  have HZ1 := hide (fun t (h : t < D) => by have := sz_more (T := T + 1) h; rw [hz1] at this; exact this)
  have HZ2 := hide (fun t (h : t < q) => by have := sz_more (T := T) h; rw [hz2] at this; exact this)
  have HTS := hide hts
  have HT := hide hT
  have HTK := hide (fun c => tk_cnt (c := c) hk5 hA hai)
  rw [hMN, hMX] at HTK
  have HQE := hide (fun (R : Nat → Nat → Prop) i j => q1_end hmx hD (R := R) i j)
  have HS0 := hide hs0
  have HZ1e := hide hz1
  have HZ2e := hide hz2
  have CEi := hide (CE i f (Nat.le_refl _) hf)
  have CE0 := hide CE
  have HF := hide hf
  have HR := hide hr
  have HM := hide h
  have hB := (ma_lt h).1
  have hRw := (ma_lt h).2
  have HMM := hide hM
  have HN := hide h0
  have HXL := hide hX
  have HA := hide hA
  have H5 := hide hk5
  have hil : i < len := by omega
  have hDm : mx ≠ -1 → (q : Int) + D = mx := fun e => by omega
  have hD0 : mx = -1 → D = 0 := fun e => by omega
  have HBX := hide (bx_new w 5 (X.NT n) ad (X.NR n) cp (i : Int) (X.B n) (q : Int) mx)
  have HBA := hide (bf_alloc (R := R) hB (.cells #[.int .i64 5, .bool (X.NT n), .slice ad (X.NR n) cp, .int .i64 (i : Int), .int .i64 (X.B n), .int .i64 (q : Int), .int .i64 mx] 43))
  have HMA := hide (ma_go h ((Below.refl w.heap.size w).alloc (Nat.le_refl _) (.cells #[.int .i64 5, .bool (X.NT n), .slice ad (X.NR n) cp, .int .i64 (i : Int), .int .i64 (X.B n), .int .i64 (q : Int), .int .i64 mx] 43)))
  have hne : w.heap.size ≠ R := by omega
  have HGE := hide hne
  clear CE hr h hM h0 hX hA hk5 hMN hMX hf hmu hts hZe hs0 hz1 hz2 hT hne hD
  by_cases hmx1 : mx = -1
  · have hd := hD0 hmx1
    subst hd
    have HS1 : Hid (s0 = T + 1) := hide (by rw [← HS0.out]; unfold s0F; rw [if_pos hmx1])
    have HQ0 : Hid (∀ (R : Nat → Nat → Prop) i j, stR R i j ↔ Q1 mx 0 R i j) := hide (fun R i j => ⟨fun h => .inl ⟨hmx1, h⟩, fun h => by
      rcases h with ⟨-, h⟩ | ⟨e, -⟩
      · exact h
      · exact absurd hmx1 e⟩)
    have CL := hide (i_loop X len HXL.out hlen b off cap B i f hil HF.out CE0.out R v2 v3 M m next _ (rxRow_go HR.out hb HBA.out.1) hb HMA.out HMM.out HN.out hx (by rw [HT.out]; have := HS1.out; omega))
    subst hmx1
    clear hDm hD0
    go_enter Tryd.func54, Tryd.ntmps54
    go_wp2_with (go_at_call 62; refine CL.out.mono ?_; rintro e w4 ⟨M4, rfl, he4, hl4, hm4, hb4⟩; have HE0 := hide (ent_congr he4 (fun c i0 j => HQ0.out _ i0 j)); have HL0 : Hid (M4.length ≤ m + s0 + 0 * (T + 1)) := hide (by rw [HMM.out, HT.out] at hl4; have := HS1.out; omega); have HM0 := hide hm4; have HB0 := hide (bf_trans HBA.out hb4); have HX0 := hide (bf_node hb4 HBX.out HGE.out); obtain ⟨n0, n1, n2, n3, n4, n5, n6⟩ := nodeAt_cells (bx_nd HX0.out); clear he4 hl4 hm4 hb4)
    go_loopw [7, 8] (fun v7 v8 wr => ∃ (t p : Nat) (M1 : List Sp), t ≤ 0 ∧ v7 = .int .i64 p ∧ v8 = .int .i64 ((q : Int) + t) ∧ Hid (Ent X M (fun c => Q1 (-1) t (tkX X c i)) next p M1) ∧ Hid (M1.length ≤ m + s0 + t * (T + 1)) ∧ Hid (MA B wr R (.slice (some ⟨b, off, none⟩) len cap) v2 v3 M1) ∧ Hid (Bf B R w wr) ∧ Hid (BXm wr w.heap.size 5 (X.NT n) ad (X.NR n) cp (i : Int) (X.B n) (q : Int) (-1))) (fun _ v8 _ => (q + 0) - (intOf v8).toNat)
    case atStart => exact ⟨0, M.length, M4, Nat.zero_le _, rfl, by simp, HE0, HL0, HM0, HB0, HX0⟩
    case round =>
      obtain ⟨t, p, M1, htD, rfl, rfl, HE, HL, HMr, HB, HX⟩ := hrel
      obtain ⟨n0, n1, n2, n3, n4, n5, n6⟩ := nodeAt_cells (bx_nd HX.out)
      have hlen1 := ent_len HE.out
      rw [HMM.out] at hlen1
      by_cases hlt : t < 0
      · omega
      · have htD2 : t = 0 := by omega
        subst htD2
        have hcmp : ¬ ((q : Int) + (0 : Nat) < -1) := by omega
        have HL1 : Hid (M1.length ≤ m + s0 + z1) := hide (by have := HL.out; rw [HZ1e.out] at this; exact this)
        clear HL hlen1 hlt htD
        go_wp2
        go_loopw [7, 36] (fun v7 v36 wr => ∃ (u p : Nat) (M1 : List Sp), u ≤ q ∧ v7 = .int .i64 p ∧ v36 = .int .i64 u ∧ Hid (Ent X M (fun c i0 j => ∃ m, cnR (tkX X c i) u i0 m ∧ Q1 (-1) 0 (tkX X c i) m j) next p M1) ∧ Hid (M1.length ≤ m + s0 + z1 + u * T) ∧ Hid (MA B wr R (.slice (some ⟨b, off, none⟩) len cap) v2 v3 M1) ∧ Hid (Bf B R w wr) ∧ Hid (BXm wr w.heap.size 5 (X.NT n) ad (X.NR n) cp (i : Int) (X.B n) (q : Int) (-1))) (fun _ v _ => q - (intOf v).toNat)
        case atStart => exact ⟨0, p, M1, Nat.zero_le _, rfl, rfl, hide (ent_congr HE.out (fun c i0 j => q2_zero i0 j)), hide (by have := HL1.out; omega), HMr, HB, HX⟩
        case round =>
          obtain ⟨u, p, M1, huq, rfl, rfl, HE, HL, HMr, HB, HX⟩ := hrel
          obtain ⟨n0, n1, n2, n3, n4, n5, n6⟩ := nodeAt_cells (bx_nd HX.out)
          have hlen1 := ent_len HE.out
          rw [HMM.out] at hlen1
          by_cases hlt : u < q
          · have hs2 := HZ2.out u hlt
            have hL := HL.out
            have CC := hide (CEi.out R v2 v3 M1 p wr (rxRow_go HR.out hb HB.out.1) hb HMr.out (len_ne (by omega)) hlen1.2 (by rw [HT.out]; omega))
            clear hL hs2
            go_wp2_with (go_at_call 39; refine CC.out.mono ?_; rintro e w4 ⟨p4, M4, rfl, he4, hl4, hm4, hb4⟩; have HE4 := hide he4; have HL4 := hide hl4; have HM4 := hide hm4; have HB4 := hide (bf_trans HB.out hb4); have HX4 := hide (bf_node hb4 HX.out HGE.out); clear he4 hl4 hm4 hb4)
            go_roundw
            case rel => exact ⟨u + 1, p4, M4, by omega, rfl, by go_num, hide (ent_congr (ent_comp HE.out HE4.out) (fun c i0 j => q2_succ u i0 j)), hide (by have h1 := HL4.out; have h2 := HL.out; rw [HT.out] at h1; rw [Nat.succ_mul]; omega), HM4, HB4, HX4⟩
            case measure => simp [intOf]; omega
          · have hu : u = q := by omega
            subst hu
            go_wp2
            go_ret
            refine ⟨p, M1, rfl, ent_congr HE.out (fun c i0 j => by rw [HTK.out c]; exact HQE.out _ i0 j), ?_, HMr.out, HB.out⟩
            have h1 := HL.out
            rw [HZ2e.out] at h1
            rw [HTS.out, HMM.out]
            omega
  · have HS1 : Hid (s0 = 0) := hide (by rw [← HS0.out]; unfold s0F; rw [if_neg hmx1])
    have hmxb : (mx == -1) = false := by rw [beq_eq_false_iff_ne]; exact hmx1
    have HE0 : Hid (Ent X M (fun c => Q1 mx 0 (tkX X c i)) next next M) := hide (ent_congr (ent_next (by rw [HMM.out]; exact hx)) (fun c i0 j => q1_zero hmx1 i0 j))
    have HL0 : Hid (M.length ≤ m + s0 + 0 * (T + 1)) := hide (by rw [HMM.out]; omega)
    go_enter Tryd.func54, Tryd.ntmps54
    go_wp2
    have HM0 := HMA
    have HB0 := HBA
    have HX0 := HBX
    go_loopw [7, 8] (fun v7 v8 wr => ∃ (t p : Nat) (M1 : List Sp), t ≤ D ∧ v7 = .int .i64 p ∧ v8 = .int .i64 ((q : Int) + t) ∧ Hid (Ent X M (fun c => Q1 mx t (tkX X c i)) next p M1) ∧ Hid (M1.length ≤ m + s0 + t * (T + 1)) ∧ Hid (MA B wr R (.slice (some ⟨b, off, none⟩) len cap) v2 v3 M1) ∧ Hid (Bf B R w wr) ∧ Hid (BXm wr w.heap.size 5 (X.NT n) ad (X.NR n) cp (i : Int) (X.B n) (q : Int) mx)) (fun _ v8 _ => (q + D) - (intOf v8).toNat)
    case atStart => exact ⟨0, next, M, Nat.zero_le _, rfl, by simp, HE0, HL0, HM0, HB0, HX0⟩
    case round =>
      obtain ⟨t, p, M1, htD, rfl, rfl, HE, HL, HMr, HB, HX⟩ := hrel
      obtain ⟨n0, n1, n2, n3, n4, n5, n6⟩ := nodeAt_cells (bx_nd HX.out)
      have hlen1 := ent_len HE.out
      rw [HMM.out] at hlen1
      by_cases hlt : t < D
      · have hcmp : (q : Int) + t < mx := by have := hDm hmx1; omega
        have hs1 := HZ1.out t hlt
        have hL := HL.out
        have CC := hide (CEi.out R v2 v3 M1 p wr (rxRow_go HR.out hb HB.out.1) hb HMr.out (len_ne (by omega)) hlen1.2 (by rw [HT.out]; omega))
        have HLa := hide hL
        clear hL
        go_wp2_with fail
        refine CC.out.mono ?_
        rintro e w4 ⟨p4, M4, rfl, he4, hl4, hm4, hb4⟩
        rw [HT.out] at hl4
        have hlen4 := ent_len he4
        have HE4 := hide he4
        have HL4 := hide hl4
        have HM4 := hide hm4
        have HB4 := hide (bf_trans HB.out hb4)
        have HX4 := hide (bf_node hb4 HX.out HGE.out)
        have CI := hide (i_either B R (.slice (some ⟨b, off, none⟩) len cap) v2 v3 M4 p4 next M4.length w4 rfl (by have := HLa.out; omega) hlen4.2 (by omega) hm4)
        have hx4 : next < M4.length := by omega
        clear he4 hl4 hm4 hb4 hlen4
        go_wp2_with (go_at_call 53; refine CI.out.mono ?_; rintro e w5 ⟨p5, M5, rfl, he5, hm5, hb5⟩; have HE5 := hide he5; have HM5 := hide hm5; have HB5 := hide (bf_trans HB4.out hb5); have HX5 := hide (bf_node hb5 HX4.out HGE.out); clear he5 hm5 hb5)
        go_roundw
        case rel =>
          refine ⟨t + 1, p5, M5, by omega, rfl, by go_num, hide ?_, hide ?_, HM5, HB5, HX5⟩
          · exact ent_congr (ent_either HN.out (ent_comp HE.out HE4.out) (ent_next hx4) HE5.out) (fun c i0 j => q1_succ hmx1 t i0 j)
          · have h1 := ei_len HE5.out
            have h2 := HL4.out
            have h3 := HLa.out
            rw [Nat.succ_mul]
            omega
        case measure => simp [intOf]; omega
      · have htD2 : t = D := by omega
        subst htD2
        have hcmp : ¬ ((q : Int) + t < mx) := by have := hDm hmx1; omega
        have HL1 : Hid (M1.length ≤ m + s0 + z1) := hide (by have := HL.out; rw [HZ1e.out] at this; exact this)
        clear HL hlen1 hlt htD
        go_wp2
        go_loopw [7, 36] (fun v7 v36 wr => ∃ (u p : Nat) (M1 : List Sp), u ≤ q ∧ v7 = .int .i64 p ∧ v36 = .int .i64 u ∧ Hid (Ent X M (fun c i0 j => ∃ m, cnR (tkX X c i) u i0 m ∧ Q1 mx t (tkX X c i) m j) next p M1) ∧ Hid (M1.length ≤ m + s0 + z1 + u * T) ∧ Hid (MA B wr R (.slice (some ⟨b, off, none⟩) len cap) v2 v3 M1) ∧ Hid (Bf B R w wr) ∧ Hid (BXm wr w.heap.size 5 (X.NT n) ad (X.NR n) cp (i : Int) (X.B n) (q : Int) mx)) (fun _ v _ => q - (intOf v).toNat)
        case atStart => exact ⟨0, p, M1, Nat.zero_le _, rfl, rfl, hide (ent_congr HE.out (fun c i0 j => q2_zero i0 j)), hide (by have := HL1.out; omega), HMr, HB, HX⟩
        case round =>
          obtain ⟨u, p, M1, huq, rfl, rfl, HE, HL, HMr, HB, HX⟩ := hrel
          obtain ⟨n0, n1, n2, n3, n4, n5, n6⟩ := nodeAt_cells (bx_nd HX.out)
          have hlen1 := ent_len HE.out
          rw [HMM.out] at hlen1
          by_cases hlt : u < q
          · have hs2 := HZ2.out u hlt
            have hL := HL.out
            have CC := hide (CEi.out R v2 v3 M1 p wr (rxRow_go HR.out hb HB.out.1) hb HMr.out (len_ne (by omega)) hlen1.2 (by rw [HT.out]; omega))
            clear hL hs2
            go_wp2_with (go_at_call 39; refine CC.out.mono ?_; rintro e w4 ⟨p4, M4, rfl, he4, hl4, hm4, hb4⟩; have HE4 := hide he4; have HL4 := hide hl4; have HM4 := hide hm4; have HB4 := hide (bf_trans HB.out hb4); have HX4 := hide (bf_node hb4 HX.out HGE.out); clear he4 hl4 hm4 hb4)
            go_roundw
            case rel => exact ⟨u + 1, p4, M4, by omega, rfl, by go_num, hide (ent_congr (ent_comp HE.out HE4.out) (fun c i0 j => q2_succ u i0 j)), hide (by have h1 := HL4.out; have h2 := HL.out; rw [HT.out] at h1; rw [Nat.succ_mul]; omega), HM4, HB4, HX4⟩
            case measure => simp [intOf]; omega
          · have hu : u = q := by omega
            subst hu
            go_wp2
            go_ret
            refine ⟨p, M1, rfl, ent_congr HE.out (fun c i0 j => by rw [HTK.out c]; exact HQE.out _ i0 j), ?_, HMr.out, HB.out⟩
            have h1 := HL.out
            rw [HZ2e.out] at h1
            rw [HTS.out, HMM.out]
            omega
end Go.Proofs.YtepommmmmfaihaaDoor
