/-
  Texts put together: TeN, TeT.
-/
import Derived.Test.YtibagghpimadfaaGreatDoorV25
import Derived.Deep.RegionHeld3
import Derived.Test.YtibagghpimadfaaGreatDoorV10
/-
  Contract of the specification: a count's text.
-/
namespace Go.Proofs.YtibagghpimadfaaGreatDoor
open Go.RowKit Go.Joins
set_option linter.unusedVariables false
set_option linter.unusedSimpArgs false
theorem int_cmp (a b : Int) : (a == b) = decide (a = b) := by
  rw [Bool.eq_iff_iff, beq_iff_eq, decide_eq_true_iff]
theorem nd_next {w w1 w2 : World} {G : Nat} {kd : Int} {nt : Bool} {a : Option Addr} {n c : Nat} {A B mn mx : Int} (h : NodeAt w1 G kd nt a n c A B mn mx ∧ Below w.heap.size w w1) (k : Below w1.heap.size w1 w2) : NodeAt w2 G kd nt a n c A B mn mx ∧ Below w.heap.size w w2 := ⟨nodeAt_go h.1 k, h.2.trans (k.mono h.2.size)⟩
set_option maxRecDepth 100000 in
set_option maxHeartbeats 8000000 in
theorem s_cnt (kd : Int) (nt : Bool) (ad : Option Addr) (n cp : Nat) (A B mn mx : Int) (w : World) (h : 0 ≤ mn ∧ mn ≤ 20 ∧ mx ≤ 20 ∧ -1 ≤ mx) :
    Calls Tryz.prog 37 #[.agg #[.int .i64 kd, .bool nt, .slice ad n cp, .int .i64 A, .int .i64 B, .int .i64 mn, .int .i64 mx]] w fun e w' => e = .returned (.string (cnT mn mx)) ∧ Below w.heap.size w w' := by
  obtain ⟨h0, h1, h2, h3⟩ := h
  have st := fun o : Obj => (Below.refl w.heap.size w).alloc (Nat.le_refl _) o
  have CM : Hid (∀ w9, Calls Tryz.prog 56 #[.int .i64 mn] w9 fun e w' => e = .returned (.string (itB mn)) ∧ Below w9.heap.size w9 w') := hide (fun w9 => s_decT mn w9 h0 h1)
  have z1 := itB_size h0 h1
  have HV : Hid (cnT mn mx = if mn = 0 ∧ mx = 1 then ⟨#[63]⟩ else if mn = 0 ∧ mx = -1 then ⟨#[42]⟩ else if mn = 1 ∧ mx = -1 then ⟨#[43]⟩ else
    if mn = mx then ⟨#[123]⟩ ++ itB mn ++ ⟨#[125]⟩ else if mx = -1 then ⟨#[123]⟩ ++ itB mn ++ ⟨#[44, 125]⟩ else ⟨#[123]⟩ ++ itB mn ++ ⟨#[44]⟩ ++ itB mx ++ ⟨#[125]⟩) := hide rfl
  by_cases p1 : mn = 0 ∧ mx = 1
  · obtain ⟨rfl, rfl⟩ := p1
    go_enter Tryz.func37, Tryz.ntmps37
    go_wp2
    go_ret
    exact ⟨rfl, st _⟩
  · by_cases p2 : mn = 0 ∧ mx = -1
    · obtain ⟨rfl, rfl⟩ := p2
      go_enter Tryz.func37, Tryz.ntmps37
      go_wp2
      go_ret
      exact ⟨rfl, st _⟩
    · by_cases p3 : mn = 1 ∧ mx = -1
      · obtain ⟨rfl, rfl⟩ := p3
        go_enter Tryz.func37, Tryz.ntmps37
        go_wp2
        go_ret
        exact ⟨rfl, st _⟩
      · rw [if_neg p1, if_neg p2, if_neg p3] at HV
        obtain ⟨D, hD⟩ : ∃ D, itB mn = D := ⟨_, rfl⟩
        have b1 : (mn == 0) = true → (mx == 1) = false := fun e => by rw [beq_iff_eq] at e; rw [beq_eq_false_iff_ne]; omega
        have b2 : (mn == 0) = true → (mx == -1) = false := fun e => by rw [beq_iff_eq] at e; rw [beq_eq_false_iff_ne]; omega
        have b3 : (mn == 1) = true → (mx == -1) = false := fun e => by rw [beq_iff_eq] at e; rw [beq_eq_false_iff_ne]; omega
        have H1 := hide b1
        have H2 := hide b2
        have H3 := hide b3
        clear p1 p2 p3 b1 b2 b3
        by_cases p4 : mn = mx
        · rw [if_pos p4, hD] at HV
          rw [hD] at CM z1
          have e4 : (mn == mx) = true := by rw [beq_iff_eq]; exact p4
          subst p4
          have hm1 : (mn == -1) = false := by rw [beq_eq_false_iff_ne]; omega
          have a1 : ¬ 9223372036854775807 < 1 + D.size := by omega
          have a2 : ¬ 9223372036854775807 < 1 + D.size + 1 := by omega
          clear hD
          have hc : ((mn == 0) = true ∧ (mn == 1) = false) ∨ ((mn == 0) = false ∧ (mn == 1) = true) ∨ ((mn == 0) = false ∧ (mn == 1) = false) := by
            rw [int_cmp, int_cmp]
            by_cases h9 : mn = 0
            · subst h9; exact .inl ⟨by decide, by decide⟩
            · by_cases h8 : mn = 1
              · subst h8; exact .inr (.inl ⟨by decide, by decide⟩)
              · exact .inr (.inr ⟨decide_eq_false h9, decide_eq_false h8⟩)
          rcases hc with ⟨c0, c1⟩ | ⟨c0, c1⟩ | ⟨c0, c1⟩
          all_goals
            go_enter Tryz.func37, Tryz.ntmps37
            go_wp2_with (go_at_call 56; refine (CM.out _).mono ?_; rintro e w2 ⟨rfl, hb2⟩; have HB2 := hide ((st _).trans (hb2.mono (st _).size)); clear hb2)
            go_ret
            exact ⟨ret_s9 HV.out.symm, HB2.out⟩
        · rw [if_neg p4] at HV
          have e4 : (mn == mx) = false := by rw [beq_eq_false_iff_ne]; exact p4
          by_cases p5 : mx = -1
          · rw [if_pos p5, hD] at HV
            rw [hD] at CM z1
            have e5 : (mx == -1) = true := by rw [beq_iff_eq]; exact p5
            have e6 : (mx == 1) = false := by rw [beq_eq_false_iff_ne]; omega
            have c0 : (mn == 0) = false := by
              cases c0 : (mn == 0)
              · rfl
              · exact absurd (e5.symm.trans (H2.out c0)) (by decide)
            have c1 : (mn == 1) = false := by
              cases c1 : (mn == 1)
              · rfl
              · exact absurd (e5.symm.trans (H3.out c1)) (by decide)
            have a1 : ¬ 9223372036854775807 < 1 + D.size := by omega
            have a2 : ¬ 9223372036854775807 < 1 + D.size + 2 := by omega
            clear hD p4 p5
            go_enter Tryz.func37, Tryz.ntmps37
            go_wp2_with (go_at_call 56; refine (CM.out _).mono ?_; rintro e w2 ⟨rfl, hb2⟩; have HB2 := hide ((st _).trans (hb2.mono (st _).size)); clear hb2)
            go_ret
            exact ⟨ret_s9 HV.out.symm, HB2.out⟩
          · rw [if_neg p5, hD] at HV
            have CX : Hid (∀ w9, Calls Tryz.prog 56 #[.int .i64 mx] w9 fun e w' => e = .returned (.string (itB mx)) ∧ Below w9.heap.size w9 w') := hide (fun w9 => s_decT mx w9 (by omega) h2)
            have z2 := itB_size (n := mx) (by omega) h2
            obtain ⟨E, hE⟩ : ∃ E, itB mx = E := ⟨_, rfl⟩
            rw [hE] at HV CX z2
            rw [hD] at CM z1
            have e5 : (mx == -1) = false := by rw [beq_eq_false_iff_ne]; exact p5
            have a1 : ¬ 9223372036854775807 < 1 + D.size := by omega
            have a2 : ¬ 9223372036854775807 < 1 + D.size + 1 := by omega
            have a3 : ¬ 9223372036854775807 < 1 + D.size + 1 + E.size := by omega
            have a4 : ¬ 9223372036854775807 < 1 + D.size + 1 + E.size + 1 := by omega
            clear hD hE p4 p5
            have hc : ((mn == 0) = true ∧ (mn == 1) = false ∧ (mx == 1) = false) ∨ ((mn == 0) = false ∧ (mn == 1) = true) ∨ ((mn == 0) = false ∧ (mn == 1) = false) := by
              by_cases h9 : mn = 0
              · exact .inl ⟨by rw [beq_iff_eq]; exact h9, by rw [beq_eq_false_iff_ne]; omega, H1.out (by rw [beq_iff_eq]; exact h9)⟩
              · by_cases h8 : mn = 1
                · exact .inr (.inl ⟨by rw [beq_eq_false_iff_ne]; omega, by rw [beq_iff_eq]; exact h8⟩)
                · exact .inr (.inr ⟨by rw [beq_eq_false_iff_ne]; exact h9, by rw [beq_eq_false_iff_ne]; exact h8⟩)
            have HW0 := fun T => nodeAt_new w kd nt ad n cp A B mn mx T
            have KP : ∀ w', NodeAt w' w.heap.size kd nt ad n cp A B mn mx → Below w.heap.size w w' → (NodeAt w' w.heap.size kd nt ad n cp A B mn mx ∧ Below w.heap.size w w') ∧ w'.cell? ⟨w.heap.size, 5, none⟩ = some (.int .i64 mn) ∧ w'.cell? ⟨w.heap.size, 6, none⟩ = some (.int .i64 mx) := fun w' h k => ⟨⟨h, k⟩, (nodeAt_cells h).2.2.2.2.2.1, (nodeAt_cells h).2.2.2.2.2.2⟩
            have HKP := hide KP
            clear KP
            rcases hc with ⟨c0, c1, c2⟩ | ⟨c0, c1⟩ | ⟨c0, c1⟩
            all_goals
              go_enter Tryz.func37, Tryz.ntmps37
              go_wp2
              go_region_held3 (fun w' => (NodeAt w' w.heap.size kd nt ad n cp A B mn mx ∧ Below w.heap.size w w') ∧ w'.cell? ⟨w.heap.size, 5, none⟩ = some (.int .i64 mn) ∧ w'.cell? ⟨w.heap.size, 6, none⟩ = some (.int .i64 mx)) (first | assumption | exact HKP.out _ (nodeAt_drewN (HW0 _) 1) (te_drew (st _) 1) | exact HKP.out _ (HW0 _) (st _) | exact HKP.out _ HTA.out.1 HTA.out.2 | exact HKP.out _ HTB.out.1 HTB.out.2) (first | (go_at_call_of 56 (Value.int .i64 mn); refine (CM.out _).mono ?_; rintro e w2 ⟨rfl, hb2⟩; have HTA := hide (nd_next (And.left (by assumption)) hb2); clear hb2) | (go_at_call_of 56 (Value.int .i64 mx); refine (CX.out _).mono ?_; rintro e w2 ⟨rfl, hb2⟩; have HTB := hide (nd_next (And.left (by assumption)) hb2); clear hb2))
              all_goals
                go_wp2
                all_goals
                  go_ret
                  exact ⟨ret_s9 HV.out.symm, (And.right (And.left (by assumption)))⟩
end Go.Proofs.YtibagghpimadfaaGreatDoor

/-
  Contract of the specification: the text of a node, as it is asked for.
-/
namespace Go.Proofs.YtibagghpimadfaaGreatDoor
open Go.RowKit Go.Joins
set_option linter.unusedVariables false
set_option linter.unusedSimpArgs false
section
variable {X : Rx} {n : Nat}
theorem tx_0 : txX X 0 n = wrT [4] (X.K n) (ntX X n) := by unfold txX; rw [if_neg (by decide), if_pos rfl]
theorem tx_1 : txX X 1 n = wrT [3, 4] (X.K n) (ntX X n) := by unfold txX; rw [if_neg (by decide), if_neg (by decide), if_pos rfl]
theorem tx_2 : txX X 2 n = wrT [3, 4, 5] (X.K n) (ntX X n) := by unfold txX; rw [if_neg (by decide), if_neg (by decide), if_neg (by decide)]
theorem tx_m (h : X.K n ≠ 1) : txX X (-1) n = ntX X n := by unfold txX; rw [if_pos rfl, if_neg h]
theorem tx_e (h : X.K n = 1) : txX X (-1) n = ⟨#[]⟩ := by unfold txX; rw [if_pos rfl, if_pos h]
end
theorem wr_no {ks : List Int} {k : Int} {t : ByteArray} (h : ks.contains k = false) : wrT ks k t = t := by unfold wrT; rw [h]; rfl
theorem wr_yes {ks : List Int} {k : Int} {t : ByteArray} (h : ks.contains k = true) : wrT ks k t = ⟨#[40]⟩ ++ t ++ ⟨#[41]⟩ := by unfold wrT; rw [h]; rfl
theorem tx_size {X : Rx} {t : Int} {n : Nat} {z : Nat} (h : (ntX X n).size ≤ z) : (txX X t n).size ≤ z + 2 := by
  unfold txX
  split
  · split
    · show 0 ≤ _; omega
    · omega
  · split
    · have := wrT_size [4] (X.K n) (ntX X n); omega
    · split
      · have := wrT_size [3, 4] (X.K n) (ntX X n); omega
      · have := wrT_size [3, 4, 5] (X.K n) (ntX X n); omega
set_option maxHeartbeats 2000000 in
theorem s_left (X : Rx) (len : Nat) (hX : X.len = len) (b off cap n : Nat) (hn : n < len) (hlen : len ≤ 120) (hT : ∀ w : World, b < w.heap.size → RxRow w b off X w.heap.size → Calls Tryz.prog 17 #[.slice (some ⟨b, off, none⟩) len cap, .int .i64 n, .int .i64 (-1)] w fun e w' => e = .returned (.string (txX X (-1) n)) ∧ Below w.heap.size w w')
    (w : World) (hb : b < w.heap.size) (hr : RxRow w b off X w.heap.size) :
    Calls Tryz.prog 36 #[.slice (some ⟨b, off, none⟩) len cap, .int .i64 n] w fun e w' => e = .returned (.string (ntX X n)) ∧ Below w.heap.size w w' := by
  have C := hide (hT w hb hr)
  obtain ⟨ad, cp, hc, -⟩ := hr n (by rw [hX]; exact hn)
  obtain ⟨c0, -⟩ := hc
  have hi : (n : Int) < (len : Int) := by omega
  by_cases h4 : X.K n = 4
  · have hv := hide (tx_m (X := X) (n := n) (by omega))
    rw [hv.out] at C
    rw [h4] at c0
    clear h4 hv hT hr
    go_enter Tryz.func36, Tryz.ntmps36
    go_wp2_with (go_at_call 17; refine C.out.mono ?_; rintro e w2 ⟨rfl, hb2⟩; have HB2 := hide hb2; clear hb2)
    go_ret
    exact ⟨rfl, HB2.out⟩
  · have b4 : (X.K n == 4) = false := by rw [beq_eq_false_iff_ne]; exact h4
    by_cases h1 : X.K n = 1
    · have hv := hide (nt_empty h1)
      rw [h1] at c0
      clear hT hr C h4 h1 b4
      go_enter Tryz.func36, Tryz.ntmps36
      go_wp2
      go_ret
      exact ⟨ret_s9 hv.out.symm, Below.refl _ _⟩
    · have b1 : (X.K n == 1) = false := by rw [beq_eq_false_iff_ne]; exact h1
      have hv := hide (tx_m (X := X) (n := n) h1)
      rw [hv.out] at C
      clear hT hr h4 h1 hv
      go_enter Tryz.func36, Tryz.ntmps36
      go_wp2_with (go_at_call 17; refine C.out.mono ?_; rintro e w2 ⟨rfl, hb2⟩; have HB2 := hide hb2; clear hb2)
      go_ret
      exact ⟨rfl, HB2.out⟩
theorem ws_all7 {w w1 : World} {b off : Nat} {X : Rx} {j : Nat} {ad : Option Addr} {cp : Nat} (h : WS w w1 b off X j ad cp) : WS w w1 b off X j ad cp ∧ w1.cell? ⟨w.heap.size, 0, none⟩ = some (.int .i64 (X.K j)) ∧ w1.cell? ⟨w.heap.size, 1, none⟩ = some (.bool (X.NT j)) ∧ w1.cell? ⟨w.heap.size, 2, none⟩ = some (.slice ad (X.NR j) cp) ∧ w1.cell? ⟨w.heap.size, 3, none⟩ = some (.int .i64 (X.A j)) ∧ w1.cell? ⟨w.heap.size, 4, none⟩ = some (.int .i64 (X.B j)) ∧ w1.cell? ⟨w.heap.size, 5, none⟩ = some (.int .i64 (X.MN j)) ∧ w1.cell? ⟨w.heap.size, 6, none⟩ = some (.int .i64 (X.MX j)) := ⟨h, nodeAt_cells h.1⟩
/-- What a node's text's contract says. -/
def TextC (X : Rx) (len b off cap : Nat) (t : Int) (n : Nat) : Prop := ∀ w : World, b < w.heap.size → RxRow w b off X w.heap.size → Calls Tryz.prog 17 #[.slice (some ⟨b, off, none⟩) len cap, .int .i64 n, .int .i64 t] w fun e w' => e = .returned (.string (txX X t n)) ∧ Below w.heap.size w w'
set_option maxRecDepth 100000 in
set_option maxHeartbeats 8000000 in
theorem t_empty (X : Rx) (len : Nat) (hX : X.len = len) (hlen : len ≤ 120) (b off cap n : Nat) (t : Int) (ht : t = -1 ∨ t = 0 ∨ t = 1 ∨ t = 2) (w : World) (hn : n < len) (hb : b < w.heap.size) (hr : RxRow w b off X w.heap.size) (h1 : X.K n = 1) :
    Calls Tryz.prog 17 #[.slice (some ⟨b, off, none⟩) len cap, .int .i64 n, .int .i64 t] w fun e w' => e = .returned (.string (txX X t n)) ∧ Below w.heap.size w w' := by
  have HR := hide hr
  have hXn : n < X.len := by rw [hX]; exact hn
  obtain ⟨ad, cp, hc, hrg⟩ := hr n hXn
  obtain ⟨c0, c1, c2, c3, c4, c5, c6⟩ := hc
  have hi : (n : Int) < (len : Int) := by omega
  have st : ∀ o, Below w.heap.size w (w.alloc o) := fun o => (Below.refl _ _).alloc (Nat.le_refl _) _
  have HW0 : ∀ T, Hid (WS w (w.alloc (.cells #[.int .i64 (X.K n), .bool (X.NT n), .slice ad (X.NR n) cp, .int .i64 (X.A n), .int .i64 (X.B n), .int .i64 (X.MN n), .int .i64 (X.MX n)] T)) b off X n ad cp) := fun T => ⟨nodeAt_new _ _ _ _ _ _ _ _ _ _ _, rxRow_go HR.out hb (st _), hb, st _⟩
  have HV := hide (nt_empty h1)
  have H1 := hide h1
  rw [h1] at c0
  clear hr h1 HW0 hrg
  rcases ht with rfl | rfl | rfl | rfl
  all_goals
    go_enter Tryz.func17, Tryz.ntmps17
    go_wp2
    go_ret
  · exact ⟨ret_s9 (tx_e H1.out).symm, st _⟩
  · exact ⟨ret_s9 (by rw [tx_0, H1.out, HV.out]; rfl), st _⟩
  · exact ⟨ret_s9 (by rw [tx_1, H1.out, HV.out]; rfl), st _⟩
  · exact ⟨ret_s9 (by rw [tx_2, H1.out, HV.out]; rfl), st _⟩
set_option maxRecDepth 100000 in
set_option maxHeartbeats 8000000 in
theorem t_class (X : Rx) (len : Nat) (hX : X.len = len) (hlen : len ≤ 120) (b off cap n : Nat) (t : Int) (ht : t = -1 ∨ t = 0 ∨ t = 1 ∨ t = 2) (w : World) (hn : n < len) (hb : b < w.heap.size) (hr : RxRow w b off X w.heap.size) (h2 : X.K n = 2) (hok : RgOk (X.NR n) (X.L n) (X.H n)) :
    Calls Tryz.prog 17 #[.slice (some ⟨b, off, none⟩) len cap, .int .i64 n, .int .i64 t] w fun e w' => e = .returned (.string (txX X t n)) ∧ Below w.heap.size w w' := by
  have HR := hide hr
  have hXn : n < X.len := by rw [hX]; exact hn
  obtain ⟨ad, cp, hc, hrg⟩ := hr n hXn
  obtain ⟨c0, c1, c2, c3, c4, c5, c6⟩ := hc
  have hi : (n : Int) < (len : Int) := by omega
  have st : ∀ o, Below w.heap.size w (w.alloc o) := fun o => (Below.refl _ _).alloc (Nat.le_refl _) _
  have HW0 : ∀ T, Hid (WS w (w.alloc (.cells #[.int .i64 (X.K n), .bool (X.NT n), .slice ad (X.NR n) cp, .int .i64 (X.A n), .int .i64 (X.B n), .int .i64 (X.MN n), .int .i64 (X.MX n)] T)) b off X n ad cp) := fun T => ⟨nodeAt_new _ _ _ _ _ _ _ _ _ _ _, rxRow_go HR.out hb (st _), hb, st _⟩
  have HV := hide (nt_class h2)
  have H2 := hide h2
  have hb3 : ¬ (3 : Int) < t := by omega
  have HTX : Hid (txX X t n = ctT (X.NT n) (X.NR n) (X.L n) (X.H n)) := hide (by
    rcases ht with rfl | rfl | rfl | rfl
    · rw [tx_m (by omega), HV.out]
    · rw [tx_0, H2.out, wr_no (by decide), HV.out]
    · rw [tx_1, H2.out, wr_no (by decide), HV.out]
    · rw [tx_2, H2.out, wr_no (by decide), HV.out])
  have CC := hide (fun T => s_cls (X.NT n) ad (X.NR n) cp (X.A n) (X.B n) (X.MN n) (X.MX n) (X.L n) (X.H n) (w.alloc (.cells #[.int .i64 2, .bool (X.NT n), .slice ad (X.NR n) cp, .int .i64 (X.A n), .int .i64 (X.B n), .int .i64 (X.MN n), .int .i64 (X.MX n)] T)) hok (rngAt_up (rngAt_go hrg (st _)) (st _).size))
  rw [h2] at c0
  simp only [h2] at HW0
  clear hr h2 hrg ht hok
  go_enter Tryz.func17, Tryz.ntmps17
  go_wp2_with (go_at_call 35; refine (CC.out _).mono ?_; rintro e w2 ⟨rfl, hb2⟩; have HW2 := hide (ws_go (HW0 _).out hb2); obtain ⟨-, k0, -, -, -, -, -, -⟩ := ws_all7 HW2.out; rw [H2.out] at k0; clear hb2)
  go_ret
  exact ⟨ret_s9 HTX.out.symm, ws_below HW2.out⟩
set_option maxRecDepth 100000 in
set_option maxHeartbeats 8000000 in
theorem t_seq (X : Rx) (len : Nat) (hX : X.len = len) (hlen : len ≤ 120) (b off cap n : Nat) (t : Int) (ht : t = -1 ∨ t = 0 ∨ t = 1 ∨ t = 2) (w : World) (hn : n < len) (hb : b < w.heap.size) (hr : RxRow w b off X w.heap.size) (h3 : X.K n = 3) (a c : Nat) (hA : X.A n = (a : Int)) (hB : X.B n = (c : Int)) (ha : a < n) (hc9 : c < n) (za : (ntX X a).size ≤ 18000) (zc : (ntX X c).size ≤ 18000)
    (CA0 : TextC X len b off cap 0 a) (CB0 : TextC X len b off cap 1 c) :
    Calls Tryz.prog 17 #[.slice (some ⟨b, off, none⟩) len cap, .int .i64 n, .int .i64 t] w fun e w' => e = .returned (.string (txX X t n)) ∧ Below w.heap.size w w' := by
  have HR := hide hr
  have hXn : n < X.len := by rw [hX]; exact hn
  obtain ⟨ad, cp, hc, hrg⟩ := hr n hXn
  obtain ⟨c0, c1, c2, c3, c4, c5, c6⟩ := hc
  have hi : (n : Int) < (len : Int) := by omega
  have st : ∀ o, Below w.heap.size w (w.alloc o) := fun o => (Below.refl _ _).alloc (Nat.le_refl _) _
  have HW0 : ∀ T, Hid (WS w (w.alloc (.cells #[.int .i64 (X.K n), .bool (X.NT n), .slice ad (X.NR n) cp, .int .i64 (X.A n), .int .i64 (X.B n), .int .i64 (X.MN n), .int .i64 (X.MX n)] T)) b off X n ad cp) := fun T => ⟨nodeAt_new _ _ _ _ _ _ _ _ _ _ _, rxRow_go HR.out hb (st _), hb, st _⟩
  have HV := hide (nt_seq h3 hA hB ha hc9)
  have HK := hide h3
  have y1 := tx_size (t := 0) za
  have y2 := tx_size (t := 1) zc
  have CA : Hid (∀ w : World, b < w.heap.size → RxRow w b off X w.heap.size → Calls Tryz.prog 17 #[.slice (some ⟨b, off, none⟩) len cap, .int .i64 (X.A n), .int .i64 0] w fun e w' => e = .returned (.string (txX X 0 a)) ∧ Below w.heap.size w w') := hide (fun w => by rw [hA]; exact CA0 w)
  have CB : Hid (∀ w : World, b < w.heap.size → RxRow w b off X w.heap.size → Calls Tryz.prog 17 #[.slice (some ⟨b, off, none⟩) len cap, .int .i64 (X.B n), .int .i64 1] w fun e w' => e = .returned (.string (txX X 1 c)) ∧ Below w.heap.size w w') := hide (fun w => by rw [hB]; exact CB0 w)
  rw [← tx_0, ← tx_1] at HV
  obtain ⟨x, hx⟩ : ∃ x, txX X 0 a = x := ⟨_, rfl⟩
  obtain ⟨y, hy⟩ : ∃ y, txX X 1 c = y := ⟨_, rfl⟩
  rw [hx] at HV CA y1
  rw [hy] at HV CB y2
  have a1 : ¬ 9223372036854775807 < x.size + y.size := by omega
  have a2 : ¬ 9223372036854775807 < 1 + (x.size + y.size) := by omega
  have a3 : ¬ 9223372036854775807 < 1 + (x.size + y.size) + 1 := by omega
  have HKP : Hid (∀ w', WS w w' b off X n ad cp → WS w w' b off X n ad cp ∧ w'.cell? ⟨w.heap.size, 0, none⟩ = some (.int .i64 3) ∧ w'.cell? ⟨w.heap.size, 1, none⟩ = some (.bool (X.NT n)) ∧ w'.cell? ⟨w.heap.size, 2, none⟩ = some (.slice ad (X.NR n) cp) ∧ w'.cell? ⟨w.heap.size, 3, none⟩ = some (.int .i64 (X.A n)) ∧ w'.cell? ⟨w.heap.size, 4, none⟩ = some (.int .i64 (X.B n)) ∧ w'.cell? ⟨w.heap.size, 5, none⟩ = some (.int .i64 (X.MN n)) ∧ w'.cell? ⟨w.heap.size, 6, none⟩ = some (.int .i64 (X.MX n))) := hide (fun w' h => by have h9 := ws_all7 h; rw [HK.out] at h9; exact h9)
  rw [h3] at c0
  simp only [h3] at HW0
  clear hr h3 hrg hA hB CA0 CB0 hx hy za zc ha hc9
  rcases ht with rfl | rfl | rfl | rfl
  all_goals
    go_enter Tryz.func17, Tryz.ntmps17
    go_wp2
    go_region_held3 (fun w' => WS w w' b off X n ad cp ∧ w'.cell? ⟨w.heap.size, 0, none⟩ = some (.int .i64 3) ∧ w'.cell? ⟨w.heap.size, 1, none⟩ = some (.bool (X.NT n)) ∧ w'.cell? ⟨w.heap.size, 2, none⟩ = some (.slice ad (X.NR n) cp) ∧ w'.cell? ⟨w.heap.size, 3, none⟩ = some (.int .i64 (X.A n)) ∧ w'.cell? ⟨w.heap.size, 4, none⟩ = some (.int .i64 (X.B n)) ∧ w'.cell? ⟨w.heap.size, 5, none⟩ = some (.int .i64 (X.MN n)) ∧ w'.cell? ⟨w.heap.size, 6, none⟩ = some (.int .i64 (X.MX n))) (first | assumption | exact HKP.out _ (ws_drew (HW0 _).out) | exact HKP.out _ (HW0 _).out | exact HKP.out _ HTA.out | exact HKP.out _ HTB.out) (first | (go_at_call_of 17 (X.A n); refine (CA.out _ (ws_lt (And.left (by assumption))) (ws_row (And.left (by assumption)))).mono ?_; rintro e w2 ⟨rfl, hb2⟩; have HTA := hide (ws_go (And.left (by assumption)) hb2); clear hb2) | (go_at_call_of 17 (X.B n); refine (CB.out _ (ws_lt (And.left (by assumption))) (ws_row (And.left (by assumption)))).mono ?_; rintro e w2 ⟨rfl, hb2⟩; have HTB := hide (ws_go (And.left (by assumption)) hb2); clear hb2))
    all_goals
      go_wp2
      all_goals
        go_ret
        refine ⟨ret_s9 ?_, ws_below (And.left (by assumption))⟩
        first | (rw [tx_m (by rw [HK.out]; decide), HV.out]; done) | (rw [tx_0, HK.out, wr_no (by decide), HV.out]; done) | (rw [tx_1, HK.out, wr_yes (by decide), HV.out]; done) | (rw [tx_2, HK.out, wr_yes (by decide), HV.out]; done)
end Go.Proofs.YtibagghpimadfaaGreatDoor
