/-
  Contract of the specification: the text of a node, choices and counts; the text of an expression.
-/
import Derived.Test.YtibagghpimadfaaGreatDoorV26
namespace Go.Proofs.YtibagghpimadfaaGreatDoor
open Go.RowKit Go.Joins
set_option linter.unusedVariables false
set_option linter.unusedSimpArgs false
set_option maxRecDepth 100000 in
set_option maxHeartbeats 8000000 in
theorem t_or (X : Rx) (len : Nat) (hX : X.len = len) (hlen : len ≤ 120) (b off cap n : Nat) (t : Int) (ht : t = -1 ∨ t = 0 ∨ t = 1 ∨ t = 2) (w : World) (hn : n < len) (hb : b < w.heap.size) (hr : RxRow w b off X w.heap.size) (h4 : X.K n = 4) (a c : Nat) (hA : X.A n = (a : Int)) (hB : X.B n = (c : Int)) (ha : a < n) (hc9 : c < n) (za : (ntX X a).size ≤ 18000) (zc : (ntX X c).size ≤ 18000)
    (CA0 : TextC X len b off cap (-1) a) (CB0 : TextC X len b off cap 0 c) (CC0 : TextC X len b off cap (-1) c) :
    Calls Tryz.prog 17 #[.slice (some ⟨b, off, none⟩) len cap, .int .i64 n, .int .i64 t] w fun e w' => e = .returned (.string (txX X t n)) ∧ Below w.heap.size w w' := by
  have HR := hide hr
  have hXn : n < X.len := by rw [hX]; exact hn
  obtain ⟨ad, cp, hc, hrg⟩ := hr n hXn
  obtain ⟨c0, c1, c2, c3, c4, c5, c6⟩ := hc
  have hi : (n : Int) < (len : Int) := by omega
  have st : ∀ o, Below w.heap.size w (w.alloc o) := fun o => (Below.refl _ _).alloc (Nat.le_refl _) _
  have HW0 : ∀ T, Hid (WS w (w.alloc (.cells #[.int .i64 (X.K n), .bool (X.NT n), .slice ad (X.NR n) cp, .int .i64 (X.A n), .int .i64 (X.B n), .int .i64 (X.MN n), .int .i64 (X.MX n)] T)) b off X n ad cp) := fun T => ⟨nodeAt_new _ _ _ _ _ _ _ _ _ _ _, rxRow_go HR.out hb (st _), hb, st _⟩
  have HV := hide (nt_or h4 hA hB ha hc9)
  have HK := hide h4
  have HB9 := hide hB
  have HCL : Hid (c < X.len) := hide (by omega)
  have hB0 : 0 ≤ X.B n := by omega
  have hB1 : X.B n < (len : Int) := by omega
  have hB2 : ¬ X.B n < 0 := by omega
  have y2 := tx_size (t := 0) zc
  have CA : Hid (∀ w : World, b < w.heap.size → RxRow w b off X w.heap.size → Calls Tryz.prog 36 #[.slice (some ⟨b, off, none⟩) len cap, .int .i64 (X.A n)] w fun e w' => e = .returned (.string (ntX X a)) ∧ Below w.heap.size w w') := hide (fun w h1 h2 => by rw [hA]; exact s_left X len hX b off cap a (by omega) hlen CA0 w h1 h2)
  have CB : Hid (∀ w : World, b < w.heap.size → RxRow w b off X w.heap.size → Calls Tryz.prog 17 #[.slice (some ⟨b, off, none⟩) len cap, .int .i64 (X.B n), .int .i64 0] w fun e w' => e = .returned (.string (txX X 0 c)) ∧ Below w.heap.size w w') := hide (fun w => by rw [hB]; exact CB0 w)
  have CD : Hid (∀ w : World, b < w.heap.size → RxRow w b off X w.heap.size → Calls Tryz.prog 17 #[.slice (some ⟨b, off, none⟩) len cap, .int .i64 (X.B n), .int .i64 (-1)] w fun e w' => e = .returned (.string (txX X (-1) c)) ∧ Below w.heap.size w w') := hide (fun w => by rw [hB]; exact CC0 w)
  have HKP : Hid (∀ w', WS w w' b off X n ad cp → WS w w' b off X n ad cp ∧ w'.cell? ⟨w.heap.size, 0, none⟩ = some (.int .i64 4) ∧ w'.cell? ⟨w.heap.size, 1, none⟩ = some (.bool (X.NT n)) ∧ w'.cell? ⟨w.heap.size, 2, none⟩ = some (.slice ad (X.NR n) cp) ∧ w'.cell? ⟨w.heap.size, 3, none⟩ = some (.int .i64 (X.A n)) ∧ w'.cell? ⟨w.heap.size, 4, none⟩ = some (.int .i64 (X.B n)) ∧ w'.cell? ⟨w.heap.size, 5, none⟩ = some (.int .i64 (X.MN n)) ∧ w'.cell? ⟨w.heap.size, 6, none⟩ = some (.int .i64 (X.MX n)) ∧ w'.cell? ⟨b, off + (X.B n).toNat * 7, none⟩ = some (.int .i64 (X.K c))) := hide (fun w' h => by have h9 := ws_all7 h; rw [HK.out] at h9; obtain ⟨g0, g1, g2, g3, g4, g5, g6, g7⟩ := h9; refine ⟨g0, g1, g2, g3, g4, g5, g6, g7, ?_⟩; rw [HB9.out, Int.toNat_natCast]; obtain ⟨ad9, cp9, hc9, -⟩ := h.2.1 c HCL.out; exact hc9.1)
  rw [h4] at c0
  simp only [h4] at HW0
  clear hr h4 hrg hA hB CA0 CB0 CC0 ha hc9
  by_cases k3 : X.K c = 3
  · have HW : Hid (wrT [4] (X.K c) (ntX X c) = ntX X c ∧ txX X (-1) c = ntX X c) := hide ⟨wr_no (by rw [k3]; decide), tx_m (by omega)⟩
    rw [HW.out.1] at HV
    rw [HW.out.2] at CD
    obtain ⟨x, hx⟩ : ∃ x, ntX X a = x := ⟨_, rfl⟩
    obtain ⟨y, hy⟩ : ∃ y, txX X 0 c = y := ⟨_, rfl⟩
    obtain ⟨z, hz⟩ : ∃ z, ntX X c = z := ⟨_, rfl⟩
    rw [hx] at HV CA za
    rw [hy] at CB y2
    rw [hz] at HV CD zc
    have a0 : ¬ 9223372036854775807 < x.size + 1 := by omega
    have a1 : ¬ 9223372036854775807 < x.size + 1 + y.size := by omega
    have a4 : ¬ 9223372036854775807 < x.size + 1 + z.size := by omega
    have a2 : ¬ 9223372036854775807 < 1 + (x.size + 1 + z.size) := by omega
    have a3 : ¬ 9223372036854775807 < 1 + (x.size + 1 + z.size) + 1 := by omega
    rw [k3] at HKP
    clear k3 hx hy hz HW
    rcases ht with rfl | rfl | rfl | rfl
    all_goals
      go_enter Tryz.func17, Tryz.ntmps17
      go_wp2
      go_region_held3 (fun w' => WS w w' b off X n ad cp ∧ w'.cell? ⟨w.heap.size, 0, none⟩ = some (.int .i64 4) ∧ w'.cell? ⟨w.heap.size, 1, none⟩ = some (.bool (X.NT n)) ∧ w'.cell? ⟨w.heap.size, 2, none⟩ = some (.slice ad (X.NR n) cp) ∧ w'.cell? ⟨w.heap.size, 3, none⟩ = some (.int .i64 (X.A n)) ∧ w'.cell? ⟨w.heap.size, 4, none⟩ = some (.int .i64 (X.B n)) ∧ w'.cell? ⟨w.heap.size, 5, none⟩ = some (.int .i64 (X.MN n)) ∧ w'.cell? ⟨w.heap.size, 6, none⟩ = some (.int .i64 (X.MX n)) ∧ w'.cell? ⟨b, off + (X.B n).toNat * 7, none⟩ = some (.int .i64 3)) (first | assumption | exact HKP.out _ (ws_drew (HW0 _).out) | exact HKP.out _ (HW0 _).out | exact HKP.out _ HTA.out | exact HKP.out _ HTB.out) (first | (go_at_call_of 36 (X.A n); refine (CA.out _ (ws_lt (And.left (by assumption))) (ws_row (And.left (by assumption)))).mono ?_; rintro e w2 ⟨rfl, hb2⟩; have HTA := hide (ws_go (And.left (by assumption)) hb2); clear hb2) | (go_at_call_of 17 (X.B n); refine (CB.out _ (ws_lt (And.left (by assumption))) (ws_row (And.left (by assumption)))).mono ?_; rintro e w2 ⟨rfl, hb2⟩; have HTB := hide (ws_go (And.left (by assumption)) hb2); clear hb2))
      all_goals
        go_wp2
        all_goals
          go_region_held3 (fun w' => WS w w' b off X n ad cp ∧ w'.cell? ⟨w.heap.size, 0, none⟩ = some (.int .i64 4) ∧ w'.cell? ⟨w.heap.size, 1, none⟩ = some (.bool (X.NT n)) ∧ w'.cell? ⟨w.heap.size, 2, none⟩ = some (.slice ad (X.NR n) cp) ∧ w'.cell? ⟨w.heap.size, 3, none⟩ = some (.int .i64 (X.A n)) ∧ w'.cell? ⟨w.heap.size, 4, none⟩ = some (.int .i64 (X.B n)) ∧ w'.cell? ⟨w.heap.size, 5, none⟩ = some (.int .i64 (X.MN n)) ∧ w'.cell? ⟨w.heap.size, 6, none⟩ = some (.int .i64 (X.MX n)) ∧ w'.cell? ⟨b, off + (X.B n).toNat * 7, none⟩ = some (.int .i64 3)) (first | assumption | exact HKP.out _ (ws_drew (And.left (by assumption))) | exact HKP.out _ HTC.out | exact HKP.out _ HTD.out) (first | (go_at_call_of 36 (X.A n); refine (CA.out _ (ws_lt (And.left (by assumption))) (ws_row (And.left (by assumption)))).mono ?_; rintro e w2 ⟨rfl, hb2⟩; have HTC := hide (ws_go (And.left (by assumption)) hb2); clear hb2) | (go_at_call_of 17 (X.B n); refine (CD.out _ (ws_lt (And.left (by assumption))) (ws_row (And.left (by assumption)))).mono ?_; rintro e w2 ⟨rfl, hb2⟩; have HTD := hide (ws_go (And.left (by assumption)) hb2); clear hb2))
          all_goals
            go_wp2
            all_goals
              go_ret
              refine ⟨ret_s9 ?_, ws_below (And.left (by assumption))⟩
              first | (rw [tx_m (by rw [HK.out]; decide), HV.out]; done) | (rw [tx_0, HK.out, wr_yes (by decide), HV.out]; done) | (rw [tx_1, HK.out, wr_yes (by decide), HV.out]; done) | (rw [tx_2, HK.out, wr_yes (by decide), HV.out]; done)
  · have k3b : (X.K c == 3) = false := by rw [beq_eq_false_iff_ne]; exact k3
    rw [← tx_0] at HV
    obtain ⟨x, hx⟩ : ∃ x, ntX X a = x := ⟨_, rfl⟩
    obtain ⟨y, hy⟩ : ∃ y, txX X 0 c = y := ⟨_, rfl⟩
    rw [hx] at HV CA za
    rw [hy] at HV CB y2
    have a0 : ¬ 9223372036854775807 < x.size + 1 := by omega
    have a1 : ¬ 9223372036854775807 < x.size + 1 + y.size := by omega
    have a2 : ¬ 9223372036854775807 < 1 + (x.size + 1 + y.size) := by omega
    have a3 : ¬ 9223372036854775807 < 1 + (x.size + 1 + y.size) + 1 := by omega
    clear k3 hx hy CD
    rcases ht with rfl | rfl | rfl | rfl
    all_goals
      go_enter Tryz.func17, Tryz.ntmps17
      go_wp2
      go_region_held3 (fun w' => WS w w' b off X n ad cp ∧ w'.cell? ⟨w.heap.size, 0, none⟩ = some (.int .i64 4) ∧ w'.cell? ⟨w.heap.size, 1, none⟩ = some (.bool (X.NT n)) ∧ w'.cell? ⟨w.heap.size, 2, none⟩ = some (.slice ad (X.NR n) cp) ∧ w'.cell? ⟨w.heap.size, 3, none⟩ = some (.int .i64 (X.A n)) ∧ w'.cell? ⟨w.heap.size, 4, none⟩ = some (.int .i64 (X.B n)) ∧ w'.cell? ⟨w.heap.size, 5, none⟩ = some (.int .i64 (X.MN n)) ∧ w'.cell? ⟨w.heap.size, 6, none⟩ = some (.int .i64 (X.MX n)) ∧ w'.cell? ⟨b, off + (X.B n).toNat * 7, none⟩ = some (.int .i64 (X.K c))) (first | assumption | exact HKP.out _ (ws_drew (HW0 _).out) | exact HKP.out _ (HW0 _).out | exact HKP.out _ HTA.out | exact HKP.out _ HTB.out) (first | (go_at_call_of 36 (X.A n); refine (CA.out _ (ws_lt (And.left (by assumption))) (ws_row (And.left (by assumption)))).mono ?_; rintro e w2 ⟨rfl, hb2⟩; have HTA := hide (ws_go (And.left (by assumption)) hb2); clear hb2) | (go_at_call_of 17 (X.B n); refine (CB.out _ (ws_lt (And.left (by assumption))) (ws_row (And.left (by assumption)))).mono ?_; rintro e w2 ⟨rfl, hb2⟩; have HTB := hide (ws_go (And.left (by assumption)) hb2); clear hb2))
      all_goals
        go_wp2
        all_goals
          go_ret
          refine ⟨ret_s9 ?_, ws_below (And.left (by assumption))⟩
          first | (rw [tx_m (by rw [HK.out]; decide), HV.out]; done) | (rw [tx_0, HK.out, wr_yes (by decide), HV.out]; done) | (rw [tx_1, HK.out, wr_yes (by decide), HV.out]; done) | (rw [tx_2, HK.out, wr_yes (by decide), HV.out]; done)
set_option maxRecDepth 100000 in
set_option maxHeartbeats 8000000 in
theorem t_cnt (X : Rx) (len : Nat) (hX : X.len = len) (hlen : len ≤ 120) (b off cap n : Nat) (t : Int) (ht : t = -1 ∨ t = 0 ∨ t = 1 ∨ t = 2) (w : World) (hn : n < len) (hb : b < w.heap.size) (hr : RxRow w b off X w.heap.size) (h5 : X.K n = 5) (hm : 0 ≤ X.MN n ∧ X.MN n ≤ 20 ∧ X.MX n ≤ 20 ∧ -1 ≤ X.MX n) (a : Nat) (hA : X.A n = (a : Int)) (ha : a < n) (za : (ntX X a).size ≤ 18000)
    (CA0 : TextC X len b off cap 2 a) :
    Calls Tryz.prog 17 #[.slice (some ⟨b, off, none⟩) len cap, .int .i64 n, .int .i64 t] w fun e w' => e = .returned (.string (txX X t n)) ∧ Below w.heap.size w w' := by
  have HR := hide hr
  have hXn : n < X.len := by rw [hX]; exact hn
  obtain ⟨ad, cp, hc, hrg⟩ := hr n hXn
  obtain ⟨c0, c1, c2, c3, c4, c5, c6⟩ := hc
  have hi : (n : Int) < (len : Int) := by omega
  have st : ∀ o, Below w.heap.size w (w.alloc o) := fun o => (Below.refl _ _).alloc (Nat.le_refl _) _
  have HW0 : ∀ T, Hid (WS w (w.alloc (.cells #[.int .i64 (X.K n), .bool (X.NT n), .slice ad (X.NR n) cp, .int .i64 (X.A n), .int .i64 (X.B n), .int .i64 (X.MN n), .int .i64 (X.MX n)] T)) b off X n ad cp) := fun T => ⟨nodeAt_new _ _ _ _ _ _ _ _ _ _ _, rxRow_go HR.out hb (st _), hb, st _⟩
  have HV := hide (nt_cnt h5 hA ha)
  have HK := hide h5
  have y1 := tx_size (t := 2) za
  have y2 := cnT_size hm
  have CA : Hid (∀ w : World, b < w.heap.size → RxRow w b off X w.heap.size → Calls Tryz.prog 17 #[.slice (some ⟨b, off, none⟩) len cap, .int .i64 (X.A n), .int .i64 2] w fun e w' => e = .returned (.string (txX X 2 a)) ∧ Below w.heap.size w w') := hide (fun w => by rw [hA]; exact CA0 w)
  have CB : Hid (∀ w : World, Calls Tryz.prog 37 #[.agg #[.int .i64 5, .bool (X.NT n), .slice ad (X.NR n) cp, .int .i64 (X.A n), .int .i64 (X.B n), .int .i64 (X.MN n), .int .i64 (X.MX n)]] w fun e w' => e = .returned (.string (cnT (X.MN n) (X.MX n))) ∧ Below w.heap.size w w') := hide (fun w => s_cnt 5 (X.NT n) ad (X.NR n) cp (X.A n) (X.B n) (X.MN n) (X.MX n) w hm)
  rw [← tx_2] at HV
  obtain ⟨x, hx⟩ : ∃ x, txX X 2 a = x := ⟨_, rfl⟩
  obtain ⟨y, hy⟩ : ∃ y, cnT (X.MN n) (X.MX n) = y := ⟨_, rfl⟩
  rw [hx] at HV CA y1
  rw [hy] at HV CB y2
  have a1 : ¬ 9223372036854775807 < x.size + y.size := by omega
  have a2 : ¬ 9223372036854775807 < 1 + (x.size + y.size) := by omega
  have a3 : ¬ 9223372036854775807 < 1 + (x.size + y.size) + 1 := by omega
  have HKP : Hid (∀ w', WS w w' b off X n ad cp → WS w w' b off X n ad cp ∧ w'.cell? ⟨w.heap.size, 0, none⟩ = some (.int .i64 5) ∧ w'.cell? ⟨w.heap.size, 1, none⟩ = some (.bool (X.NT n)) ∧ w'.cell? ⟨w.heap.size, 2, none⟩ = some (.slice ad (X.NR n) cp) ∧ w'.cell? ⟨w.heap.size, 3, none⟩ = some (.int .i64 (X.A n)) ∧ w'.cell? ⟨w.heap.size, 4, none⟩ = some (.int .i64 (X.B n)) ∧ w'.cell? ⟨w.heap.size, 5, none⟩ = some (.int .i64 (X.MN n)) ∧ w'.cell? ⟨w.heap.size, 6, none⟩ = some (.int .i64 (X.MX n))) := hide (fun w' h => by have h9 := ws_all7 h; rw [HK.out] at h9; exact h9)
  rw [h5] at c0
  simp only [h5] at HW0
  clear hr h5 hrg hA CA0 hx hy za ha hm
  rcases ht with rfl | rfl | rfl | rfl
  all_goals
    go_enter Tryz.func17, Tryz.ntmps17
    go_wp2
    go_region_held3 (fun w' => WS w w' b off X n ad cp ∧ w'.cell? ⟨w.heap.size, 0, none⟩ = some (.int .i64 5) ∧ w'.cell? ⟨w.heap.size, 1, none⟩ = some (.bool (X.NT n)) ∧ w'.cell? ⟨w.heap.size, 2, none⟩ = some (.slice ad (X.NR n) cp) ∧ w'.cell? ⟨w.heap.size, 3, none⟩ = some (.int .i64 (X.A n)) ∧ w'.cell? ⟨w.heap.size, 4, none⟩ = some (.int .i64 (X.B n)) ∧ w'.cell? ⟨w.heap.size, 5, none⟩ = some (.int .i64 (X.MN n)) ∧ w'.cell? ⟨w.heap.size, 6, none⟩ = some (.int .i64 (X.MX n))) (first | assumption | exact HKP.out _ (ws_drew (HW0 _).out) | exact HKP.out _ (HW0 _).out | exact HKP.out _ HTA.out | exact HKP.out _ HTB.out) (first | (go_at_call_of 17 (X.A n); refine (CA.out _ (ws_lt (And.left (by assumption))) (ws_row (And.left (by assumption)))).mono ?_; rintro e w2 ⟨rfl, hb2⟩; have HTA := hide (ws_go (And.left (by assumption)) hb2); clear hb2) | (go_at_call 37; refine (CB.out _).mono ?_; rintro e w2 ⟨rfl, hb2⟩; have HTB := hide (ws_go (And.left (by assumption)) hb2); clear hb2))
    all_goals
      go_wp2
      all_goals
        go_ret
        refine ⟨ret_s9 ?_, ws_below (And.left (by assumption))⟩
        first | (rw [tx_m (by rw [HK.out]; decide), HV.out]; done) | (rw [tx_0, HK.out, wr_no (by decide), HV.out]; done) | (rw [tx_1, HK.out, wr_no (by decide), HV.out]; done) | (rw [tx_2, HK.out, wr_yes (by decide), HV.out]; done)
theorem s_text (X : Rx) (len : Nat) (hX : X.len = len) (hlen : len ≤ 120) (hm : NdOk X len) (b off cap : Nat) : ∀ (m n f : Nat) (t : Int), n < m → n < len → (t = -1 ∨ t = 0 ∨ t = 1 ∨ t = 2) → trX X n = some f → TextC X len b off cap t n
  | 0, n, f, t, hmn, hn, ht, htr => by omega
  | m + 1, n, f, t, hmn, hn, ht, htr => by
    have IH := s_text X len hX hlen hm b off cap m
    have hz : ∀ k g, k < len → trX X k = some g → (ntX X k).size ≤ 18000 := fun k g hk hg => by
      have := (nt_size X len hm (k + 1) k g (by omega) hk hg).1
      omega
    intro w hb hr
    obtain ⟨h5, h2, hk⟩ := hm n hn
    rcases hk with k1 | k2 | k3 | k4 | k5
    · exact t_empty X len hX hlen b off cap n t ht w hn hb hr k1
    · exact t_class X len hX hlen b off cap n t ht w hn hb hr k2 (h2 k2)
    · obtain ⟨c, hA, hB, ha, hb9, h1, hc, t1, t2⟩ := tr_parts htr (.inl k3)
      exact t_seq X len hX hlen b off cap n t ht w hn hb hr k3 _ _ hA hB ha hb9 (hz _ _ (by omega) t2) (hz _ _ (by omega) t1) (IH _ _ 0 (by omega) (by omega) (by omega) t2) (IH _ _ 1 (by omega) (by omega) (by omega) t1)
    · obtain ⟨c, hA, hB, ha, hb9, h1, hc, t1, t2⟩ := tr_parts htr (.inr k4)
      exact t_or X len hX hlen b off cap n t ht w hn hb hr k4 _ _ hA hB ha hb9 (hz _ _ (by omega) t2) (hz _ _ (by omega) t1) (IH _ _ (-1) (by omega) (by omega) (by omega) t2) (IH _ _ 0 (by omega) (by omega) (by omega) t1) (IH _ _ (-1) (by omega) (by omega) (by omega) t1)
    · obtain ⟨hA, ha, t1⟩ := tr_part1 htr k5
      exact t_cnt X len hX hlen b off cap n t ht w hn hb hr k5 (h5 k5) _ hA ha (hz _ _ (by omega) t1) (IH _ _ 2 (by omega) (by omega) (by omega) t1)
end Go.Proofs.YtibagghpimadfaaGreatDoor
