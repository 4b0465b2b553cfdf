/-
  Contracts of the specification: what a node takes, from a row of places to a row of places: one and then another, one or another.
-/
import Derived.Test.YtbijilnbbbicmaaDoorMsA
namespace Go.Proofs.YtbijilnbbbicmaaDoor
open Go.RowKit Go.Joins
set_option linter.unusedVariables false
set_option linter.unusedSimpArgs false
theorem bx_two9 {w : World} {G : Nat} {kd : Int} {nt : Bool} {a : Option Addr} {n c : Nat} {A B mn mx : Int} (h : BX w G kd nt a n c A B mn mx) : w.cell? ⟨G, 3, none⟩ = some (.int .i64 A) ∧ w.cell? ⟨G, 4, none⟩ = some (.int .i64 B) := by
  obtain ⟨a0, a1, a2, a3, a4, a5, a6⟩ := nodeAt_cells (bx_nd h)
  exact ⟨a3, a4⟩
theorem boX_drewB {B : Nat} {w : World} {g c n : Nat} {f : List Bool} (h : BoX B w g c n f) : BoX B w.drew g c n f := h
set_option maxRecDepth 100000 in
set_option maxHeartbeats 8000000 in
theorem t_seq (X : Rx) (C : List Int) (len m : Nat) (hX : X.len = len) (hlen : len ≤ 120) (hC : C.length = m) (hm : m ≤ 300) (b off cap : Nat) (sa : Option Addr) (sc n : Nat) (hn : n < len) (f : List Bool) (fa : Option Addr) (fc : Nat) (w : World) (hb : b < w.heap.size) (hr : RxRow w b off X w.heap.size) (hsr : RowAt .i64 w sa C w.heap.size) (hf : f.length = m + 1) (hfa : BoAt w fa f w.heap.size) (i j : Nat) (hk : X.K n = 3) (hA : X.A n = (i : Int)) (hBn : X.B n = (j : Int)) (hai : i < n) (hbj : j < n) (CA0 : StC X C len m b off cap sa sc i) (CB0 : StC X C len m b off cap sa sc j) :
    Calls Tryd.prog 12 #[.slice (some ⟨b, off, none⟩) len cap, .int .i64 n, .slice sa m sc, .slice fa ((m : Nat) + 1) fc] w (StA m (tkX X (clX X C) n) f w) := by
  have HT : Hid (tkX X (clX X C) n = fun a b => ∃ k, tkX X (clX X C) i a k ∧ tkX X (clX X C) j k b) := hide (tk_seq hk hA hBn hai hbj)
  obtain ⟨i0, hi0, hz0, hz1, hz2⟩ := info_parts infoBo
  have HR := hide hr
  have HSR := hide hsr
  have HF := hide hf
  have HFA := hide hfa
  have HCL := hide hC
  obtain ⟨ad, cp, hc, hrg⟩ := hr n (by rw [hX]; exact hn)
  obtain ⟨c0, c1, c2, c3, c4, c5, c6⟩ := hc
  have HRg := hide hrg
  have hin : (n : Int) < (len : Int) := by omega
  have hin0 : (0 : Int) ≤ (n : Int) := by omega
  rw [hk] at c0
  rw [hA] at c3
  rw [hBn] at c4
  have CA : Hid (∀ f fa fc (W : World), Below w.heap.size w W → f.length = m + 1 → BoAt W fa f W.heap.size → Calls Tryd.prog 12 #[.slice (some ⟨b, off, none⟩) len cap, .int .i64 (i : Int), .slice sa m sc, .slice fa ((m : Nat) + 1) fc] W (StA m (tkX X (clX X C) i) f W)) := hide (fun f fa fc W hW hf ha => CA0 f fa fc W (Nat.lt_of_lt_of_le hb hW.size) (rxRow_up (rxRow_go HR.out hb hW) hW.size) (row_go9 HSR.out hW) hf ha)
  have CB : Hid (∀ f fa fc (W : World), Below w.heap.size w W → f.length = m + 1 → BoAt W fa f W.heap.size → Calls Tryd.prog 12 #[.slice (some ⟨b, off, none⟩) len cap, .int .i64 (j : Int), .slice sa m sc, .slice fa ((m : Nat) + 1) fc] W (StA m (tkX X (clX X C) j) f W)) := hide (fun f fa fc W hW hf ha => CB0 f fa fc W (Nat.lt_of_lt_of_le hb hW.size) (rxRow_up (rxRow_go HR.out hb hW) hW.size) (row_go9 HSR.out hW) hf ha)
  clear hr hsr hf hfa hC hrg hk hA hBn CA0 CB0
  go_enter Tryd.func12, Tryd.ntmps12
  go_upto_region 13 with (first | (at_make; refine wpList_make_full _ rfl _ _ 37 rfl w.heap.size 4 i0 (.bool false) 1 Tryd.underlying37 hi0 hz0 hz1 .i64 .i64 _ _ (m + 1) rfl rfl (by go_num) (by go_num) (by rw [hz2]; omega) (by unfold maxLen; omega) (Nat.le_refl _) ?_; intro w1 hown hgrow; rw [ms_made] at hown; have HX1 : Hid (BoX w.heap.size w1 w.heap.size (m + 1) (m + 1) (List.replicate (m + 1) false)) := hide ⟨by rw [List.length_replicate], hown⟩; have HB1 : Hid (Below w.heap.size w w1) := hide ((Below.refl _ _).grown hgrow (Nat.le_refl _) (fun k h => by cases h)); clear hown hgrow; have c0 := (HB1.out.cell (p := ⟨b, off + n * 7, none⟩) hb).trans c0; have c1 := (HB1.out.cell (p := ⟨b, off + n * 7 + 1, none⟩) hb).trans c1; have c2 := (HB1.out.cell (p := ⟨b, off + n * 7 + 2, none⟩) hb).trans c2; have c3 := (HB1.out.cell (p := ⟨b, off + n * 7 + 3, none⟩) hb).trans c3; have c4 := (HB1.out.cell (p := ⟨b, off + n * 7 + 4, none⟩) hb).trans c4; have c5 := (HB1.out.cell (p := ⟨b, off + n * 7 + 5, none⟩) hb).trans c5; have c6 := (HB1.out.cell (p := ⟨b, off + n * 7 + 6, none⟩) hb).trans c6; have hb1l : b < w1.heap.size := Nat.lt_of_lt_of_le hb HB1.out.size))
  obtain ⟨wy, hwy⟩ : ∃ wy, w1.alloc (.cells #[.int .i64 3, .bool (X.NT n), .slice ad (X.NR n) cp, .int .i64 (i : Int), .int .i64 (j : Int), .int .i64 (X.MN n), .int .i64 (X.MX n)] 41) = wy := ⟨_, rfl⟩
  have HX2 := hide (boX_alloc HX1.out (.cells #[.int .i64 3, .bool (X.NT n), .slice ad (X.NR n) cp, .int .i64 (i : Int), .int .i64 (j : Int), .int .i64 (X.MN n), .int .i64 (X.MX n)] 41))
  have HN2 := hide (bx_new w1 3 (X.NT n) ad (X.NR n) cp (i : Int) (j : Int) (X.MN n) (X.MX n))
  have HB2 := hide (HB1.out.alloc HB1.out.size (.cells #[.int .i64 3, .bool (X.NT n), .slice ad (X.NR n) cp, .int .i64 (i : Int), .int .i64 (j : Int), .int .i64 (X.MN n), .int .i64 (X.MX n)] 41))
  rw [hwy] at HX2 HN2 HB2 ⊢
  obtain ⟨NB, hNB⟩ : ∃ NB, w1.heap.size = NB := ⟨_, rfl⟩
  have hNBg : w.heap.size < NB := by rw [← hNB]; exact (boX_at HX1.out).2.1
  rw [hNB] at HN2 ⊢
  clear hwy hNB c0 c1 c2 c3 c4 c5 c6 HX1 HB1 hb1l
  have HD : Hid (Below w.heap.size w wy.drew) := hide (HB2.out.trans ⟨rfl, rfl, rfl, Nat.le_refl _, fun _ _ => rfl⟩)
  have HS0 := hide (bx_two9 HN2.out)
  go_region_held3 (fun w' => w'.cell? ⟨NB, 3, none⟩ = some (.int .i64 (i : Int)) ∧ w'.cell? ⟨NB, 4, none⟩ = some (.int .i64 (j : Int))) (first | assumption | exact HS5.out | exact HS4.out | exact HS0.out) (first | (go_at_call_of 12 (i : Int); refine (CA.out f fa fc _ HD.out HF.out (bo_up (bo_go HFA.out HD.out) HD.out.size)).mono ?_; rintro e w4 ⟨g4, c4, G4, rfl, hx4, hf4, hb4⟩; have HX4 := hide hx4; have HF4 := hide hf4; have HN4 := hide (bx_go (w := wy.drew) HN2.out hb4); have HS4 := hide (bx_two9 HN4.out); have HB4 := hide (HD.out.trans (hb4.mono HD.out.size)); clear hx4 hf4 hb4) | (go_at_call_of 12 (j : Int); refine (CB.out G4 _ c4 _ HB4.out HX4.out.1 (boX_bo HX4.out)).mono ?_; rintro e w5 ⟨g5, c5, G5, rfl, hx5, hf5, hb5⟩; have HX5 := hide (boX_low hx5 HB4.out.size); have HF5 := hide hf5; have HS5 := hide (bx_two9 (bx_go HN4.out hb5)); have HB5 := hide (HB4.out.trans (hb5.mono HB4.out.size)); clear hx5 hf5 hb5))
  all_goals
    go_wp2
    go_ret
    refine ⟨g5, c5, G5, rfl, HX5.out, ?_, HB5.out⟩
    rw [HT.out]
    exact fwd_comp (fun a b h => tk_le X (clX X C) (j + 1) j a b (by omega) h) HF4.out HF5.out
set_option maxRecDepth 100000 in
set_option maxHeartbeats 8000000 in
theorem t_or (X : Rx) (C : List Int) (len m : Nat) (hX : X.len = len) (hlen : len ≤ 120) (hC : C.length = m) (hm : m ≤ 300) (b off cap : Nat) (sa : Option Addr) (sc n : Nat) (hn : n < len) (f : List Bool) (fa : Option Addr) (fc : Nat) (w : World) (hb : b < w.heap.size) (hr : RxRow w b off X w.heap.size) (hsr : RowAt .i64 w sa C w.heap.size) (hf : f.length = m + 1) (hfa : BoAt w fa f w.heap.size) (i j : Nat) (hk : X.K n = 4) (hA : X.A n = (i : Int)) (hBn : X.B n = (j : Int)) (hai : i < n) (hbj : j < n) (CA0 : StC X C len m b off cap sa sc i) (CB0 : StC X C len m b off cap sa sc j) :
    Calls Tryd.prog 12 #[.slice (some ⟨b, off, none⟩) len cap, .int .i64 n, .slice sa m sc, .slice fa ((m : Nat) + 1) fc] w (StA m (tkX X (clX X C) n) f w) := by
  have HT : Hid (tkX X (clX X C) n = fun a b => tkX X (clX X C) i a b ∨ tkX X (clX X C) j a b) := hide (tk_or hk hA hBn hai hbj)
  obtain ⟨i0, hi0, hz0, hz1, hz2⟩ := info_parts infoBo
  have HR := hide hr
  have HSR := hide hsr
  have HF := hide hf
  have HFA := hide hfa
  have HCL := hide hC
  obtain ⟨ad, cp, hc, hrg⟩ := hr n (by rw [hX]; exact hn)
  obtain ⟨c0, c1, c2, c3, c4, c5, c6⟩ := hc
  have HRg := hide hrg
  have hin : (n : Int) < (len : Int) := by omega
  have hin0 : (0 : Int) ≤ (n : Int) := by omega
  rw [hk] at c0
  rw [hA] at c3
  rw [hBn] at c4
  have CA : Hid (∀ f fa fc (W : World), Below w.heap.size w W → f.length = m + 1 → BoAt W fa f W.heap.size → Calls Tryd.prog 12 #[.slice (some ⟨b, off, none⟩) len cap, .int .i64 (i : Int), .slice sa m sc, .slice fa ((m : Nat) + 1) fc] W (StA m (tkX X (clX X C) i) f W)) := hide (fun f fa fc W hW hf ha => CA0 f fa fc W (Nat.lt_of_lt_of_le hb hW.size) (rxRow_up (rxRow_go HR.out hb hW) hW.size) (row_go9 HSR.out hW) hf ha)
  have CB : Hid (∀ f fa fc (W : World), Below w.heap.size w W → f.length = m + 1 → BoAt W fa f W.heap.size → Calls Tryd.prog 12 #[.slice (some ⟨b, off, none⟩) len cap, .int .i64 (j : Int), .slice sa m sc, .slice fa ((m : Nat) + 1) fc] W (StA m (tkX X (clX X C) j) f W)) := hide (fun f fa fc W hW hf ha => CB0 f fa fc W (Nat.lt_of_lt_of_le hb hW.size) (rxRow_up (rxRow_go HR.out hb hW) hW.size) (row_go9 HSR.out hW) hf ha)
  clear hr hsr hf hfa hC hrg hk hA hBn CA0 CB0
  go_enter Tryd.func12, Tryd.ntmps12
  go_upto_region 15 with (first | (at_make; refine wpList_make_full _ rfl _ _ 37 rfl w.heap.size 4 i0 (.bool false) 1 Tryd.underlying37 hi0 hz0 hz1 .i64 .i64 _ _ (m + 1) rfl rfl (by go_num) (by go_num) (by rw [hz2]; omega) (by unfold maxLen; omega) (Nat.le_refl _) ?_; intro w1 hown hgrow; rw [ms_made] at hown; have HX1 : Hid (BoX w.heap.size w1 w.heap.size (m + 1) (m + 1) (List.replicate (m + 1) false)) := hide ⟨by rw [List.length_replicate], hown⟩; have HB1 : Hid (Below w.heap.size w w1) := hide ((Below.refl _ _).grown hgrow (Nat.le_refl _) (fun k h => by cases h)); clear hown hgrow; have c0 := (HB1.out.cell (p := ⟨b, off + n * 7, none⟩) hb).trans c0; have c1 := (HB1.out.cell (p := ⟨b, off + n * 7 + 1, none⟩) hb).trans c1; have c2 := (HB1.out.cell (p := ⟨b, off + n * 7 + 2, none⟩) hb).trans c2; have c3 := (HB1.out.cell (p := ⟨b, off + n * 7 + 3, none⟩) hb).trans c3; have c4 := (HB1.out.cell (p := ⟨b, off + n * 7 + 4, none⟩) hb).trans c4; have c5 := (HB1.out.cell (p := ⟨b, off + n * 7 + 5, none⟩) hb).trans c5; have c6 := (HB1.out.cell (p := ⟨b, off + n * 7 + 6, none⟩) hb).trans c6; have hb1l : b < w1.heap.size := Nat.lt_of_lt_of_le hb HB1.out.size))
  obtain ⟨wy, hwy⟩ : ∃ wy, w1.alloc (.cells #[.int .i64 4, .bool (X.NT n), .slice ad (X.NR n) cp, .int .i64 (i : Int), .int .i64 (j : Int), .int .i64 (X.MN n), .int .i64 (X.MX n)] 41) = wy := ⟨_, rfl⟩
  have HX2 := hide (boX_alloc HX1.out (.cells #[.int .i64 4, .bool (X.NT n), .slice ad (X.NR n) cp, .int .i64 (i : Int), .int .i64 (j : Int), .int .i64 (X.MN n), .int .i64 (X.MX n)] 41))
  have HN2 := hide (bx_new w1 4 (X.NT n) ad (X.NR n) cp (i : Int) (j : Int) (X.MN n) (X.MX n))
  have HB2 := hide (HB1.out.alloc HB1.out.size (.cells #[.int .i64 4, .bool (X.NT n), .slice ad (X.NR n) cp, .int .i64 (i : Int), .int .i64 (j : Int), .int .i64 (X.MN n), .int .i64 (X.MX n)] 41))
  rw [hwy] at HX2 HN2 HB2 ⊢
  obtain ⟨NB, hNB⟩ : ∃ NB, w1.heap.size = NB := ⟨_, rfl⟩
  have hNBg : w.heap.size < NB := by rw [← hNB]; exact (boX_at HX1.out).2.1
  rw [hNB] at HN2 ⊢
  clear hwy hNB c0 c1 c2 c3 c4 c5 c6 HX1 HB1 hb1l
  obtain ⟨a0, a1, a2, a3, a4, a5, a6⟩ := nodeAt_cells (bx_nd HN2.out)
  go_wp2_with fail
  refine (CA.out f fa fc _ HB2.out HF.out (bo_up (bo_go HFA.out HB2.out) HB2.out.size)).mono ?_
  rintro e w4 ⟨g4, c4, G4, rfl, hx4, hf4, hb4⟩
  have hg4 := (boX_at hx4).1
  have hg4b := (boX_at hx4).2.1
  have HX4 := hide (boX_low hx4 HB2.out.size)
  have HF4 := hide hf4
  have HN4 := hide (bx_go HN2.out hb4)
  have HO4 := hide (boX_go HX2.out hb4)
  have HB4 := hide (HB2.out.trans (hb4.mono HB2.out.size))
  have hyw := (boX_at HX2.out).2.1
  clear hx4 hf4 hb4 a0 a1 a2 a3 a4 a5 a6
  obtain ⟨a0, a1, a2, a3, a4, a5, a6⟩ := nodeAt_cells (bx_nd HN4.out)
  go_wp2_with fail
  refine (CB.out f fa fc _ HB4.out HF.out (bo_up (bo_go HFA.out HB4.out) HB4.out.size)).mono ?_
  rintro e w5 ⟨g5, c5, G5, rfl, hx5, hf5, hb5⟩
  have hg5 := (boX_at hx5).1
  have HX5 := hide (boX_low hx5 HB4.out.size)
  have HF5 := hide hf5
  have HO5 := hide (boX_go HO4.out hb5)
  have HX4b := hide (boX_go HX4.out hb5)
  have HB5 := hide (HB4.out.trans (hb5.mono HB4.out.size))
  have hsz4 := HB4.out.size
  have hyw4 := (boX_at HO4.out).2.1
  clear hx5 hf5 hb5 a0 a1 a2 a3 a4 a5 a6
  go_wp2
  go_loopw [14] (fun mv wr => ∃ (q : Nat) (G : List Bool), q ≤ m + 1 ∧ mv = .int .i64 q ∧ Hid (BoX w.heap.size wr w.heap.size (m + 1) (m + 1) G) ∧ Hid (BoX w.heap.size wr g4 c4 (m + 1) G4) ∧ Hid (BoX w.heap.size wr g5 c5 (m + 1) G5) ∧ Hid (Below w.heap.size w wr) ∧ Hid (∀ b, b < q → (G[b]?.getD false = true ↔ G4[b]?.getD false = true ∨ G5[b]?.getD false = true))) (fun mv _ => m + 1 - (intOf mv).toNat)
  case atStart => exact ⟨0, List.replicate (m + 1) false, Nat.zero_le _, rfl, HO5, HX4b, HX5, HB5, hide (fun b hb => absurd hb (Nat.not_lt_zero _))⟩
  case round =>
    clear HO5 HX4b HX5 HB5
    obtain ⟨q, G, hq, rfl, HX, HY, HZ, HB, HA⟩ := hrel
    by_cases hlt : q < m + 1
    · have u0 := (boX_at HX.out).2.2 q hlt
      have uz := boX_frozen HX.out q
      have y0 := (boX_at HY.out).2.2 q hlt
      have z0 := (boX_at HZ.out).2.2 q hlt
      have hqi : (q : Int) < ((m : Nat) + 1 : Int) := by omega
      have hq0 : (0 : Int) ≤ (q : Int) := by omega
      obtain ⟨x, hx⟩ : ∃ x, G4[q]?.getD false = x := ⟨_, rfl⟩
      obtain ⟨y, hy⟩ : ∃ y, G5[q]?.getD false = y := ⟨_, rfl⟩
      rw [hx] at y0
      rw [hy] at z0
      have HXY := hide hx
      have HYY := hide hy
      have HXS := hide (boX_set HX.out q (x || y))
      have HYS := hide (boX_far HY.out (p := ⟨w.heap.size, q, none⟩) (by show w.heap.size ≠ g4; omega) (.bool (x || y)))
      have HZS := hide (boX_far HZ.out (p := ⟨w.heap.size, q, none⟩) (by show w.heap.size ≠ g5; omega) (.bool (x || y)))
      have HBS := hide (HB.out.setCell (p := ⟨w.heap.size, q, none⟩) (Nat.le_refl _) (.bool (x || y)))
      have HAS : Hid (∀ b, b < q + 1 → ((G.set q (x || y))[b]?.getD false = true ↔ G4[b]?.getD false = true ∨ G5[b]?.getD false = true)) := hide (fun b hb => by
        rw [set_at _ _ _ (by rw [HX.out.1]; exact hlt)]
        by_cases e : b = q
        · subst e
          rw [if_pos rfl, hx, hy]
          cases x <;> cases y <;> simp
        · rw [if_neg e]; exact HA.out b (by omega))
      clear hx hy
      cases x
      · rw [Bool.false_or] at HXS HYS HZS HBS HAS
        go_wp2
        go_roundw
        case rel => exact ⟨q + 1, _, by omega, by go_num, HXS, HYS, HZS, HBS, HAS⟩
        case measure => simp [intOf]; omega
      · rw [Bool.true_or] at HXS HYS HZS HBS HAS
        go_wp2
        go_roundw
        case rel => exact ⟨q + 1, _, by omega, by go_num, HXS, HYS, HZS, HBS, HAS⟩
        case measure => simp [intOf]; omega
    · have hqm : q = m + 1 := by omega
      subst hqm
      go_wp2
      go_ret
      refine ⟨w.heap.size, m + 1, G, rfl, HX.out, fun b hb => ?_, HB.out⟩
      rw [HA.out b (by omega), HF4.out b hb, HF5.out b hb, HT.out]
      constructor
      · rintro (⟨a, h1, h2, h3⟩ | ⟨a, h1, h2, h3⟩)
        · exact ⟨a, h1, h2, .inl h3⟩
        · exact ⟨a, h1, h2, .inr h3⟩
      · rintro ⟨a, h1, h2, h3 | h3⟩
        · exact .inl ⟨a, h1, h2, h3⟩
        · exact .inr ⟨a, h1, h2, h3⟩
end Go.Proofs.YtbijilnbbbicmaaDoor
