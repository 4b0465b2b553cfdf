/-
  Texts put together: Class4, RxWt.
-/
import Derived.Test.YtepommmmmfaihaaGreatDoorB3
import Derived.Test.YtepommmmmfaihaaGreatDoorB2
/-
  Contracts: ClassHas, the specification's and the program's; a node and its copy are told as alike.
-/
namespace Go.Proofs.YtepommmmmfaihaaGreatDoor
open Go.RowKit Go.Joins
set_option linter.unusedVariables false
set_option linter.unusedSimpArgs false
theorem box_node {w w2 : World} {kd : Int} {nt : Bool} {a : Option Addr} {n c : Nat} {A B mn mx : Int} {T : TypeId}
    (k : Below (w.alloc (.cells #[.int .i64 kd, .bool nt, .slice a n c, .int .i64 A, .int .i64 B, .int .i64 mn, .int .i64 mx] T)).heap.size (w.alloc (.cells #[.int .i64 kd, .bool nt, .slice a n c, .int .i64 A, .int .i64 B, .int .i64 mn, .int .i64 mx] T)) w2) :
    NodeAt w2 w.heap.size kd nt a n c A B mn mx ∧ Below w.heap.size w w2 := ⟨nodeAt_go (nodeAt_new _ _ _ _ _ _ _ _ _ _ _) k, box_below k⟩
set_option maxRecDepth 100000 in
set_option maxHeartbeats 4000000 in
theorem s_class (kd : Int) (nt : Bool) (a : Option Addr) (n c : Nat) (A B mn mx : Int) (L H : Nat → Int) (r : Int) (w : World) (hn : n ≤ maxLen) (hr : RngAt w a n L H w.heap.size) : Calls Tryz.prog 50 #[.agg #[.int .i64 kd, .bool nt, .slice a n c, .int .i64 A, .int .i64 B, .int .i64 mn, .int .i64 mx], .int .i64 r] w fun e w' => e = .returned (.bool (clsB kd nt n L H A B mn mx r)) ∧ Below w.heap.size w w' := by
  have HN := hide hn
  have HR := hide hr
  unfold maxLen at hn
  clear hr
  by_cases hk : kd = 2
  · subst hk
    cases hno : nodeB 2 nt n L H A B mn mx
    · go_enter Tryz.func50, Tryz.ntmps50
      go_wp2_with (go_at_call 47; refine (s_nodeok _ _ _ _ _ _ _ _ _ L H _ HN.out (rngAt_up (rngAt_go HR.out ((Below.refl _ _).alloc (Nat.le_refl _) _)) (by simp))).mono ?_; rintro e w2 ⟨rfl, hb2⟩; rw [hno]; have HB2 := hide (box_below hb2); clear hb2)
      go_ret
      exact ⟨ret_bool (by simp [clsB, hno]), HB2.out⟩
    · cases hch : chB r
      · go_enter Tryz.func50, Tryz.ntmps50
        go_wp2_with (first | (go_at_call 47; refine (s_nodeok _ _ _ _ _ _ _ _ _ L H _ HN.out (rngAt_up (rngAt_go HR.out ((Below.refl _ _).alloc (Nat.le_refl _) _)) (by simp))).mono ?_; rintro e w2 ⟨rfl, hb2⟩; rw [hno]; have HB2 := hide (box_below hb2); clear hb2) | (go_at_call 32; refine (s_chF _ _ hch).mono ?_; rintro e w' ⟨rfl, rfl⟩))
        go_ret
        exact ⟨ret_bool (by simp [clsB, hno, hch]), HB2.out⟩
      · have hv : clsB 2 nt n L H A B mn mx r = (anyB n L H r != nt) := by simp [clsB, hno, hch]
        have HV := hide hv
        clear hv
        go_enter Tryz.func50, Tryz.ntmps50
        go_wp2_with (first | (go_at_call 47; refine (s_nodeok _ _ _ _ _ _ _ _ _ L H _ HN.out (rngAt_up (rngAt_go HR.out ((Below.refl _ _).alloc (Nat.le_refl _) _)) (by simp))).mono ?_; rintro e w2 ⟨rfl, hb2⟩; rw [hno]; have HX2 := hide (box_node hb2); clear hb2) | (go_at_call 32; refine (s_chT _ _ hch).mono ?_; rintro e w' ⟨rfl, rfl⟩))
        go_loopw [5, 6] (fun v i wr => ∃ k : Nat, k ≤ n ∧ i = .int .i64 k ∧ v = .bool (anyB k L H r) ∧ Below w.heap.size w wr ∧ NodeAt wr w.heap.size 2 nt a n c A B mn mx) (fun _ i _ => n - (intOf i).toNat)
        case atStart => exact ⟨0, Nat.zero_le _, rfl, rfl, HX2.out.2, HX2.out.1⟩
        case round =>
          obtain ⟨k, hk, rfl, rfl, hb, hN⟩ := hrel
          obtain ⟨a0, a1, a2, a3, a4, a5, a6⟩ := nodeAt_cells hN
          have HNN := hide hN
          clear hN
          by_cases hlt : k < n
          · obtain ⟨b, off, rfl, hbs, hc⟩ := HR.out (by omega)
            have hc1 : wr.cell? ⟨b, off + k * 2, none⟩ = some (.int .i64 (L k)) := (hb.cell hbs).trans (hc k hlt).1
            have hc2 : wr.cell? ⟨b, off + k * 2 + 1, none⟩ = some (.int .i64 (H k)) := (hb.cell hbs).trans (hc k hlt).2
            have HB := hide hb
            have hi : (k : Int) < (n : Int) := by omega
            have hi0 : (0 : Int) ≤ (k : Int) := by omega
            clear hc hb
            cases hA : anyB k L H r
            · by_cases hh : L k ≤ r ∧ r ≤ H k
              · go_wp2
                go_big_quiet (first | (go_at_call 54; refine Calls.quiet_of_same (s_inT _ _ _ _ hh)))
                go_wp2
                go_roundw
                case rel => exact ⟨k + 1, by omega, by go_num, by rw [anyB_succ, hA, hasB, decide_eq_true hh]; rfl, HB.out.trans ((drew_below _ _).mono HB.out.size), nodeAt_go HNN.out (drew_below _ _)⟩
                case measure => simp [intOf]; omega
              · go_wp2
                go_big_quiet (first | (go_at_call 54; refine Calls.quiet_of_same (s_inF _ _ _ _ hh)))
                go_wp2
                go_roundw
                case rel => exact ⟨k + 1, by omega, by go_num, by rw [anyB_succ, hA, hasB, decide_eq_false hh]; rfl, HB.out.trans ((drew_below _ _).mono HB.out.size), nodeAt_go HNN.out (drew_below _ _)⟩
                case measure => simp [intOf]; omega
            · go_wp2
              go_big_quiet (fail)
              go_wp2
              go_roundw
              case rel => exact ⟨k + 1, by omega, by go_num, by rw [anyB_succ, hA]; rfl, HB.out.trans ((drew_below _ _).mono HB.out.size), nodeAt_go HNN.out (drew_below _ _)⟩
              case measure => simp [intOf]; omega
          · have hkn : k = n := by omega
            subst hkn
            go_wp2
            go_ret
            exact ⟨ret_bool HV.out.symm, hb⟩
  · have e2 : (kd != 2) = true := by simpa using hk
    go_enter Tryz.func50, Tryz.ntmps50
    go_wp2
    go_ret
    exact ⟨ret_bool (by simp [clsB, hk]), (Below.refl _ _).alloc (Nat.le_refl _) _⟩
end Go.Proofs.YtepommmmmfaihaaGreatDoor

/-
  Contract: how much a node weighs, by the specification, at every list of nodes and every place of it whose piece is a right one.
-/
namespace Go.Proofs.YtepommmmmfaihaaGreatDoor
open Go.RowKit Go.Joins
set_option linter.unusedVariables false
set_option linter.unusedSimpArgs false
def muX (X : Rx) (n : Nat) : Int := max (max 1 (X.MN n + 1)) (X.MX n)
def wtX (X : Rx) (n : Nat) : Int := wt (twoK X.K) (cntK X.K) X.A X.B (muX X) n
def trX (X : Rx) (n : Nat) : Option Nat := tr (twoK X.K) (cntK X.K) X.A X.B n
theorem muX_ge (X : Rx) (n : Nat) : 1 ≤ muX X n := by unfold muX; omega
theorem wtF_ge (two cnt : Nat → Bool) (A B mu : Nat → Int) (hm : ∀ n, 1 ≤ mu n) : ∀ (f n : Nat), 0 ≤ wtF two cnt A B mu f n
  | 0, n => Int.le_refl _
  | f + 1, n => by
    rw [wtF]
    have h1 := wtF_ge two cnt A B mu hm f (A n).toNat
    have h2 := wtF_ge two cnt A B mu hm f (B n).toNat
    have h3 := Int.mul_nonneg h1 (Int.le_trans (by decide) (hm n) : (0 : Int) ≤ mu n)
    split
    · omega
    · split <;> omega
theorem wtX_ge (X : Rx) (n : Nat) : 0 ≤ wtX X n := wtF_ge _ _ _ _ _ (muX_ge X) _ _
theorem wtX_le (X : Rx) (n : Nat) : wtX X n ≤ 2001 := wt_le _ _ _ _ _ _
def WS (w w' : World) (b off : Nat) (X : Rx) (j : Nat) (ad : Option Addr) (cp : Nat) : Prop :=
  NodeAt w' w.heap.size (X.K j) (X.NT j) ad (X.NR j) cp (X.A j) (X.B j) (X.MN j) (X.MX j) ∧ RxRow w' b off X w.heap.size ∧ b < w.heap.size ∧ Below w.heap.size w w'
section
variable {w w1 w2 : World} {b off : Nat} {X : Rx} {j : Nat} {ad : Option Addr} {cp : Nat}
theorem ws_go (h : WS w w1 b off X j ad cp) (k : Below w1.heap.size w1 w2) : WS w w2 b off X j ad cp :=
  ⟨nodeAt_go h.1 k, rxRow_go h.2.1 h.2.2.1 (k.mono h.2.2.2.size), h.2.2.1, h.2.2.2.trans (k.mono h.2.2.2.size)⟩
theorem ws_drew (h : WS w w1 b off X j ad cp) : WS w w1.drew b off X j ad cp := ws_go h ⟨rfl, rfl, rfl, Nat.le_refl _, fun _ _ => rfl⟩
theorem ws_row (h : WS w w1 b off X j ad cp) : RxRow w1 b off X w1.heap.size := rxRow_up h.2.1 h.2.2.2.size
theorem ws_lt (h : WS w w1 b off X j ad cp) : b < w1.heap.size := Nat.lt_of_lt_of_le h.2.2.1 h.2.2.2.size
theorem ws_below (h : WS w w1 b off X j ad cp) : Below w.heap.size w w1 := h.2.2.2
theorem ws_all (h : WS w w1 b off X j ad cp) : WS w w1 b off X j ad cp ∧ w1.cell? ⟨w.heap.size, 3, none⟩ = some (.int .i64 (X.A j)) ∧ w1.cell? ⟨w.heap.size, 4, none⟩ = some (.int .i64 (X.B j)) ∧ w1.cell? ⟨w.heap.size, 5, none⟩ = some (.int .i64 (X.MN j)) ∧ w1.cell? ⟨w.heap.size, 6, none⟩ = some (.int .i64 (X.MX j)) := by
  obtain ⟨a0, a1, a2, a3, a4, a5, a6⟩ := nodeAt_cells h.1
  exact ⟨h, a3, a4, a5, a6⟩
end
theorem min_of (x : Int) : ∃ y, min x 2001 = y := ⟨_, rfl⟩
set_option maxRecDepth 100000 in
set_option maxHeartbeats 4000000 in
theorem s_weight (X : Rx) (len : Nat) (hX : X.len = len) (hlen : len ≤ 120) (hm : ∀ j, j < len → X.K j = 5 → 0 ≤ X.MN j ∧ X.MN j ≤ 20 ∧ X.MX j ≤ 20 ∧ -1 ≤ X.MX j) (b off cap : Nat) : ∀ (m n f : Nat) (w : World), n < m → n < len → trX X n = some f → b < w.heap.size → RxRow w b off X w.heap.size →
    Calls Tryz.prog 49 #[.slice (some ⟨b, off, none⟩) len cap, .int .i64 n] w fun e w' => e = .returned (.int .i64 (wtX X n)) ∧ Below w.heap.size w w'
  | 0, n, f, w, hmn, hn, ht, hb, hr => by omega
  | m + 1, n, f, w, hmn, hn, ht, hb, hr => by
    have IH : Hid (∀ (k g : Nat) (w : World), k < m → k < len → trX X k = some g → b < w.heap.size → RxRow w b off X w.heap.size → Calls Tryz.prog 49 #[.slice (some ⟨b, off, none⟩) len cap, .int .i64 k] w fun e w' => e = .returned (.int .i64 (wtX X k)) ∧ Below w.heap.size w w') := hide (fun k g w hk hl ht hb hr => s_weight X len hX hlen hm b off cap m k g w hk hl ht hb hr)
    have HM := hide hm
    have HX := hide hX
    have HR := hide hr
    obtain ⟨ad, cp, hc, -⟩ := hr n (by rw [hX]; exact hn)
    obtain ⟨c0, c1, c2, c3, c4, c5, c6⟩ := hc
    have hi : (n : Int) < (len : Int) := by omega
    have hi0 : (0 : Int) ≤ (n : Int) := by omega
    have hi1 : ¬ (n : Int) < 0 := by omega
    have st : ∀ o, Below w.heap.size w (w.alloc o) := fun o => (Below.refl _ _).alloc (Nat.le_refl _) _
    have HW0 : ∀ T, Hid (WS w (w.alloc (.cells #[.int .i64 (X.K n), .bool (X.NT n), .slice ad (X.NR n) cp, .int .i64 (X.A n), .int .i64 (X.B n), .int .i64 (X.MN n), .int .i64 (X.MX n)] T)) b off X n ad cp) := fun T => ⟨nodeAt_new _ _ _ _ _ _ _ _ _ _ _, rxRow_go HR.out hb (st _), hb, st _⟩
    clear hr hm hX st
    by_cases h2 : X.K n = 3 ∨ X.K n = 4
    · have h2b : twoK X.K n = true := decide_eq_true h2
      have ht2 := ht
      unfold trX at ht2
      rw [tr_two _ _ _ _ h2b] at ht2
      split at ht2
      · cases ht2
      · rename_i hnB
        cases hr1 : tr (twoK X.K) (cntK X.K) X.A X.B (n - 1) with
        | none => rw [hr1] at ht2; cases ht2
        | some c =>
          rw [hr1] at ht2
          dsimp only at ht2
          split at ht2
          · cases ht2
          · rename_i hcA
            have hcl := tr_le _ _ _ _ hr1
            have hw := wt_two _ _ _ _ (muX X) h2b hnB hr1 hcA ht2
            have HV : Hid (wtX X n = min (wtX X (c - 1) + wtX X (n - 1)) 2001) := hide hw
            have g1 := wtX_ge X (c - 1)
            have g2 := wtX_ge X (n - 1)
            have g3 := wtX_le X (c - 1)
            have g4 := wtX_le X (n - 1)
            obtain ⟨x, hx⟩ : ∃ x, wtX X (c - 1) = x := ⟨_, rfl⟩
            obtain ⟨y, hy⟩ : ∃ y, wtX X (n - 1) = y := ⟨_, rfl⟩
            have eA : X.A n = ((c - 1 : Nat) : Int) := by omega
            have eB : X.B n = ((n - 1 : Nat) : Int) := by omega
            have CA : Hid (∀ w : World, b < w.heap.size → RxRow w b off X w.heap.size → Calls Tryz.prog 49 #[.slice (some ⟨b, off, none⟩) len cap, .int .i64 (X.A n)] w fun e w' => e = .returned (.int .i64 x) ∧ Below w.heap.size w w') := hide (fun w => by rw [eA, ← hx]; exact IH.out (c - 1) f w (by omega) (by omega) ht2)
            have CB : Hid (∀ w : World, b < w.heap.size → RxRow w b off X w.heap.size → Calls Tryz.prog 49 #[.slice (some ⟨b, off, none⟩) len cap, .int .i64 (X.B n)] w fun e w' => e = .returned (.int .i64 y) ∧ Below w.heap.size w w') := hide (fun w => by rw [eB, ← hy]; exact IH.out (n - 1) c w (by omega) (by omega) hr1)
            rw [hx, hy] at HV
            rw [hx] at g1 g3
            rw [hy] at g2 g4
            clear hw ht2 hr1 hcA hnB ht h2b hx hy eA eB IH HM HX HR
            rcases h2 with h2 | h2
            all_goals
              rw [h2] at c0
              simp only [h2] at HW0
              clear h2
              go_enter Tryz.func49, Tryz.ntmps49
              go_wp2
              go_region_held3 (fun w' => WS w w' b off X n ad cp ∧ w'.cell? ⟨w.heap.size, 3, none⟩ = some (.int .i64 (X.A n)) ∧ w'.cell? ⟨w.heap.size, 4, none⟩ = some (.int .i64 (X.B n)) ∧ w'.cell? ⟨w.heap.size, 5, none⟩ = some (.int .i64 (X.MN n)) ∧ w'.cell? ⟨w.heap.size, 6, none⟩ = some (.int .i64 (X.MX n))) (first | assumption | exact ws_all (ws_drew (HW0 _).out) | exact ws_all (HW0 _).out | exact ws_all HTA.out | exact ws_all HTB.out) (first | (go_at_call_of 49 (X.A n); refine (CA.out _ (ws_lt (And.left (by assumption))) (ws_row (And.left (by assumption)))).mono ?_; rintro e w2 ⟨rfl, hb2⟩; have HTA := hide (ws_go (And.left (by assumption)) hb2); clear hb2) | (go_at_call_of 49 (X.B n); refine (CB.out _ (ws_lt (And.left (by assumption))) (ws_row (And.left (by assumption)))).mono ?_; rintro e w2 ⟨rfl, hb2⟩; have HTB := hide (ws_go (And.left (by assumption)) hb2); clear hb2))
              all_goals
                go_wp2
                all_goals
                  go_ret
                  exact ⟨ret_i (by rw [HV.out]; omega), ws_below (And.left (by assumption))⟩
    · by_cases h5 : X.K n = 5
      · have h2b : ¬ twoK X.K n = true := by unfold twoK; simp; omega
        have h5b : cntK X.K n = true := decide_eq_true h5
        have ht2 := ht
        unfold trX at ht2
        rw [tr_cnt _ _ _ _ h2b h5b] at ht2
        split at ht2
        · cases ht2
        · rename_i hnA
          have hw := wt_cnt _ _ _ _ (muX X) h2b h5b hnA ht2
          obtain ⟨m0, m1, m2, m3⟩ := HM.out n hn h5
          have HV : Hid (wtX X n = min (wtX X (n - 1) * muX X n) 2001) := hide hw
          have g1 := wtX_ge X (n - 1)
          have g3 := wtX_le X (n - 1)
          obtain ⟨x, hx⟩ : ∃ x, wtX X (n - 1) = x := ⟨_, rfl⟩
          have eA : X.A n = ((n - 1 : Nat) : Int) := by omega
          have CA : Hid (∀ w : World, b < w.heap.size → RxRow w b off X w.heap.size → Calls Tryz.prog 49 #[.slice (some ⟨b, off, none⟩) len cap, .int .i64 (X.A n)] w fun e w' => e = .returned (.int .i64 x) ∧ Below w.heap.size w w') := hide (fun w => by rw [eA, ← hx]; exact IH.out (n - 1) f w (by omega) (by omega) ht2)
          rw [hx] at HV
          rw [hx] at g1 g3
          obtain ⟨mn, hmn'⟩ : ∃ mn, X.MN n = mn := ⟨_, rfl⟩
          obtain ⟨mx, hmx'⟩ : ∃ mx, X.MX n = mx := ⟨_, rfl⟩
          have hmu : muX X n = max (max 1 (mn + 1)) mx := by unfold muX; rw [hmn', hmx']
          rw [hmn'] at m0 m1 c5
          rw [hmx'] at m2 m3 c6
          rw [h5] at c0
          simp only [h5, hmn', hmx'] at HW0
          have HMN := hide hmn'
          have HMX := hide hmx'
          rw [hmu] at HV
          clear hw ht2 hnA ht h2b h5b hx eA IH HM HX HR h2 h5 hmn' hmx' hmu
          have hS : ∀ w', WS w w' b off X n ad cp → WS w w' b off X n ad cp ∧ w'.cell? ⟨w.heap.size, 3, none⟩ = some (.int .i64 (X.A n)) ∧ w'.cell? ⟨w.heap.size, 5, none⟩ = some (.int .i64 mn) ∧ w'.cell? ⟨w.heap.size, 6, none⟩ = some (.int .i64 mx) := fun w' h => by
            have h' := ws_all h
            rw [HMN.out, HMX.out] at h'
            exact ⟨h, h'.2.1, h'.2.2.2.1, h'.2.2.2.2⟩
          have HS := hide hS
          clear hS
          have q0 : (1 : Int) ≤ mn + 1 := by omega
          have e1 : (if (1 : Int) < mn + 1 then mn + 1 else 1) = mn + 1 := by split <;> omega
          obtain ⟨v, hv⟩ : ∃ v, (if mn + 1 < mx then mx else mn + 1) = v := ⟨_, rfl⟩
          have hv1 : max (max 1 (mn + 1)) mx = v ∧ 1 ≤ v ∧ v ≤ 21 := by rw [← hv]; split <;> omega
          have p0 := Int.mul_nonneg g1 (by omega : (0 : Int) ≤ v)
          have p1 : x * v ≤ 2001 * 21 := Int.mul_le_mul g3 (by omega) (by omega) (by omega)
          have HV2 : Hid (wtX X n = min (x * v) 2001) := hide (by rw [HV.out, hv1.1])
          have hw1 : IntKind.i64.wrap (mn + 1) = mn + 1 := by rw [IntKind.wrap_i64]; omega
          have hw2 : IntKind.i64.wrap (x * v) = x * v := by rw [IntKind.wrap_i64]; omega
          clear HV hv1 q0
          go_enter Tryz.func49, Tryz.ntmps49
          go_wp2
          go_region_held3 (fun w' => WS w w' b off X n ad cp ∧ w'.cell? ⟨w.heap.size, 3, none⟩ = some (.int .i64 (X.A n)) ∧ w'.cell? ⟨w.heap.size, 5, none⟩ = some (.int .i64 mn) ∧ w'.cell? ⟨w.heap.size, 6, none⟩ = some (.int .i64 mx)) (first | assumption | exact HS.out _ HTA.out | exact HS.out _ (ws_drew (HW0 _).out) | exact HS.out _ (HW0 _).out) (first | (go_at_call_of 49 (X.A n); refine (CA.out _ (ws_lt (And.left (by assumption))) (ws_row (And.left (by assumption)))).mono ?_; rintro e w2 ⟨rfl, hb2⟩; have HTA := hide (ws_go (And.left (by assumption)) hb2); clear hb2))
          all_goals
            go_wp2
            all_goals
              go_ret
              exact ⟨ret_i (by rw [HV2.out]; omega), ws_below (And.left (by assumption))⟩
      · have HV : Hid (wtX X n = 1) := hide (wt_leaf _ _ _ _ (muX X) (by unfold twoK; simpa using h2) (by unfold cntK; simpa using h5))
        obtain ⟨kd, hk⟩ : ∃ kd, X.K n = kd := ⟨_, rfl⟩
        have n3 : (kd == 3) = false := by rw [← hk]; simp; omega
        have n4 : (kd == 4) = false := by rw [← hk]; simp; omega
        have n5 : (kd == 5) = false := by rw [← hk]; simp; omega
        rw [hk] at c0
        clear h2 h5 hk IH HM HX HR HW0 ht
        go_enter Tryz.func49, Tryz.ntmps49
        go_wp2
        all_goals
          go_ret
          exact ⟨ret_i (by rw [HV.out]), (Below.refl _ _).alloc (Nat.le_refl _) _⟩
end Go.Proofs.YtepommmmmfaihaaGreatDoor
