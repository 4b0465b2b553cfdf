/-
  Texts put together: RxS, RxSp, RxSp2.
-/
import Derived.Test.YtepommmmmfaihaaDoorC7
import Derived.Deep.RegionLaw
/-
  Contract: which lists of nodes the specification calls a right expression.
-/
namespace Go.Proofs.YtepommmmmfaihaaDoor
open Go.RowKit Go.Joins
set_option linter.unusedVariables false
set_option linter.unusedSimpArgs false
def nodeX (X : Rx) (j : Nat) : Bool := nodeB (X.K j) (X.NT j) (X.NR j) (X.L j) (X.H j) (X.A j) (X.B j) (X.MN j) (X.MX j)
def rxB (X : Rx) : Bool := decide (1 ≤ X.len ∧ X.len ≤ 120) && ((List.range X.len).all (nodeX X) && (decide (trX X (X.len - 1) = some 0) && decide (wtX X (X.len - 1) ≤ 2000)))
theorem rxB_size {X : Rx} (h : ¬ (1 ≤ X.len ∧ X.len ≤ 120)) : rxB X = false := by unfold rxB; rw [decide_eq_false h]; rfl
theorem rxB_node {X : Rx} {k : Nat} (hk : k < X.len) (h : nodeX X k = false) : rxB X = false := by
  have : (List.range X.len).all (nodeX X) = false := by
    rw [List.all_eq_false]
    exact ⟨k, by simpa using hk, by simp [h]⟩
  unfold rxB
  rw [this]
  simp
theorem rxB_all {X : Rx} (h0 : 1 ≤ X.len ∧ X.len ≤ 120) (h : ∀ j, j < X.len → nodeX X j = true) : rxB X = (decide (trX X (X.len - 1) = some 0) && decide (wtX X (X.len - 1) ≤ 2000)) := by
  have : (List.range X.len).all (nodeX X) = true := by
    rw [List.all_eq_true]
    intro j hj
    exact h j (by simpa using hj)
  unfold rxB
  rw [this, decide_eq_true h0]
  simp
theorem node_cnt {kd : Int} {nt : Bool} {n : Nat} {L H : Nat → Int} {a b mn mx : Int} (h : nodeB kd nt n L H a b mn mx = true) (h5 : kd = 5) : 0 ≤ mn ∧ mn ≤ 20 ∧ mx ≤ 20 ∧ -1 ≤ mx := by
  subst h5
  simp [nodeB] at h
  omega
theorem rx_nodes {w : World} {b off : Nat} {X : Rx} {B len : Nat} (hX : X.len = len) (h : RxRow w b off X B) : NodesAt w b off len X.K X.A X.B := fun j hj => by
  obtain ⟨ad, cp, hc, -⟩ := h j (by omega)
  exact ⟨hc.1, hc.2.2.2.1, hc.2.2.2.2.1⟩
theorem trI_zero (X : Rx) (n : Nat) : (trI X.K X.A X.B n = 0) ↔ trX X n = some 0 := by
  unfold trI trX
  cases h : tr (twoK X.K) (cntK X.K) X.A X.B n with
  | none => simp
  | some f => simp
set_option maxRecDepth 100000 in
set_option maxHeartbeats 4000000 in
theorem s_regex (X : Rx) (len : Nat) (a : Option Addr) (cap : Nat) (w : World) (hX : X.len = len) (hlen : len ≤ maxLen) (hnr : ∀ j, j < len → X.NR j ≤ maxLen) (hr : RxAt w a X w.heap.size) :
    Calls Tryd.prog 31 #[.slice a len cap] w fun e w' => e = .returned (.bool (rxB X)) ∧ Below w.heap.size w w' := by
  unfold maxLen at hlen
  have HX := hide hX
  have HNR := hide hnr
  have HR := hide hr
  clear hr hnr hX
  by_cases hs : 1 ≤ len ∧ len ≤ 120
  · obtain ⟨g1, g2⟩ := hs
    have g3 : (1 : Int) ≤ len := by omega
    have g4 : (len : Int) ≤ 120 := by omega
    obtain ⟨b, off, rfl, hbs, hrow⟩ := HR.out (by rw [HX.out]; omega)
    have HRW := hide hrow
    clear hrow
    go_enter Tryd.func31, Tryd.ntmps31
    go_wp2
    go_loopw [3] (fun i wr => ∃ k : Nat, k ≤ len ∧ i = .int .i64 k ∧ Below w.heap.size w wr ∧ Hid (∀ j, j < k → nodeX X j = true)) (fun i _ => len - (intOf i).toNat)
    case atStart => exact ⟨0, Nat.zero_le _, rfl, Below.refl _ _, fun j h => by omega⟩
    case round =>
      obtain ⟨k, hk, rfl, hb, HM⟩ := hrel
      have hbw : b < wr.heap.size := Nat.lt_of_lt_of_le hbs hb.size
      by_cases hlt : k < len
      · obtain ⟨ad, cp, hc, hrg⟩ := HRW.out k (by rw [HX.out]; omega)
        obtain ⟨c0, c1, c2, c3, c4, c5, c6⟩ := rxCells_go hc hbs hb
        have HG := hide (rngAt_up (rngAt_go hrg hb) hb.size)
        have HB := hide hb
        have hi : (k : Int) < (len : Int) := by omega
        clear hc hrg hb
        cases hno : nodeX X k
        · go_wp2_with (go_at_call 45; refine (s_nodeok _ _ _ _ _ _ _ _ _ (X.L k) (X.H k) _ (HNR.out k hlt) HG.out).mono ?_; rintro e w2 ⟨rfl, hb2⟩; rw [show nodeB (X.K k) (X.NT k) (X.NR k) (X.L k) (X.H k) (X.A k) (X.B k) (X.MN k) (X.MX k) = false from hno]; have HB2 := hide (HB.out.trans (hb2.mono HB.out.size)); clear hb2)
          go_ret
          exact ⟨ret_bool (rxB_node (by rw [HX.out]; exact hlt) hno).symm, HB2.out⟩
        · go_wp2_with (go_at_call 45; refine (s_nodeok _ _ _ _ _ _ _ _ _ (X.L k) (X.H k) _ (HNR.out k hlt) HG.out).mono ?_; rintro e w2 ⟨rfl, hb2⟩; rw [show nodeB (X.K k) (X.NT k) (X.NR k) (X.L k) (X.H k) (X.A k) (X.B k) (X.MN k) (X.MX k) = true from hno]; have HB2 := hide (HB.out.trans (hb2.mono HB.out.size)); clear hb2)
          go_roundw
          case rel =>
            refine ⟨k + 1, by omega, by go_num, HB2.out, fun j hj => ?_⟩
            by_cases e : j = k
            · subst e; exact hno
            · exact HM.out j (by omega)
          case measure => simp [intOf]; omega
      · have hkn : k = len := by omega
        subst hkn
        have HV := hide (rxB_all (X := X) (by rw [HX.out]; exact ⟨g1, g2⟩) (by rw [HX.out]; exact HM.out))
        rw [HX.out] at HV
        have hrow := rxRow_up (rxRow_go HRW.out hbs hb) hb.size
        have hroot : ((k : Int) - 1) = ((k - 1 : Nat) : Int) := by omega
        have CT : Hid (Calls Tryd.prog 46 #[.slice (some ⟨b, off, none⟩) k cap, .int .i64 ((k : Int) - 1)] wr fun e w' => e = .returned (.int .i64 (trI X.K X.A X.B (k - 1))) ∧ w' = wr) := hide (by rw [hroot]; exact s_tree b off k cap X.K X.A X.B wr (by omega) (rx_nodes HX.out hrow) k (k - 1) (by omega) (by omega))
        have HB := hide hb
        have HRR := hide hrow
        by_cases ht : trX X (k - 1) = some 0
        · have hz : trI X.K X.A X.B (k - 1) = 0 := (trI_zero X (k - 1)).2 ht
          have CW : Hid (Calls Tryd.prog 47 #[.slice (some ⟨b, off, none⟩) k cap, .int .i64 ((k : Int) - 1)] wr fun e w' => e = .returned (.int .i64 (wtX X (k - 1))) ∧ Below wr.heap.size wr w') := hide (by rw [hroot]; exact s_weight X k HX.out (by omega) (fun j hj h5 => node_cnt (HM.out j hj) h5) b off cap k (k - 1) 0 wr (by omega) (by omega) ht hbw HRR.out)
          rw [hz] at CT
          rw [decide_eq_true ht] at HV
          obtain ⟨x, hx⟩ : ∃ x, wtX X (k - 1) = x := ⟨_, rfl⟩
          rw [hx] at CW HV
          clear hrow hroot hz ht hx hb
          go_wp2_with (first | (go_at_call 46; refine CT.out.mono ?_; rintro e w2 ⟨rfl, rfl⟩) | (go_at_call 47; refine CW.out.mono ?_; rintro e w2 ⟨rfl, hb2⟩; have HB2 := hide (HB.out.trans (hb2.mono HB.out.size)); clear hb2))
          go_ret
          exact ⟨ret_bool (by rw [HV.out]; simp), HB2.out⟩
        · have hz : ¬ trI X.K X.A X.B (k - 1) = 0 := fun h => ht ((trI_zero X (k - 1)).1 h)
          rw [decide_eq_false ht] at HV
          obtain ⟨x, hx⟩ : ∃ x, trI X.K X.A X.B (k - 1) = x := ⟨_, rfl⟩
          rw [hx] at CT hz
          have hz2 : (x == 0) = false := by simpa using hz
          clear hrow hroot ht hx hb hz
          go_wp2_with (first | (go_at_call 46; refine CT.out.mono ?_; rintro e w2 ⟨rfl, rfl⟩))
          go_ret
          exact ⟨ret_bool (by rw [HV.out]; rfl), HB.out⟩
  · have e := rxB_size (X := X) (by rw [HX.out]; exact hs)
    rw [e]
    by_cases g : len = 0
    · go_enter Tryd.func31, Tryd.ntmps31
      go_wp2
      go_ret
      exact ⟨rfl, Below.refl _ _⟩
    · have g2 : (120 : Int) < (len : Int) := by omega
      go_enter Tryd.func31, Tryd.ntmps31
      go_wp2
      go_ret
      exact ⟨rfl, Below.refl _ _⟩
end Go.Proofs.YtepommmmmfaihaaDoor

/-
  Contract: where a node's piece begins and how much it weighs, by the program, told of all nodes ahead of it.
-/
namespace Go.Proofs.YtepommmmmfaihaaDoor
open Go.RowKit Go.Joins
set_option linter.unusedVariables false
set_option linter.unusedSimpArgs false
def tI (X : Rx) (j : Nat) : Int := trI X.K X.A X.B j
theorem tI_some {X : Rx} {j f : Nat} (h : trX X j = some f) : tI X j = f := by unfold tI trI; unfold trX at h; rw [h]
theorem i_held (x y : Int) (w : World) (h : min x 2001 = y) : Calls Tryd.prog 36 #[.int .i64 x] w fun e w' => e = .returned (.int .i64 y) ∧ w' = w := by
  have H := hide h
  clear h
  go_enter Tryd.func36, Tryd.ntmps36
  go_wp2
  all_goals
    go_ret
    exact ⟨ret_i (by rw [← H.out] <;> omega), rfl⟩
theorem sp_below (w : World) (o1 o2 : Obj) (q : Nat) (v0 v1 : Value) : Below w.heap.size w (((((w.alloc o1).alloc o2).drewN q).setCell ⟨w.heap.size + 1, 0, none⟩ v0).setCell ⟨w.heap.size + 1, 1, none⟩ v1) := by
  refine Below.setCell (Below.setCell ?_ (by simp) _) (by simp) _
  exact (((Below.refl _ _).alloc (Nat.le_refl _) _).alloc (by simp) _).trans ((drew_below _ _).mono (by simp; omega))
theorem sp_below0 (w : World) (o1 o2 : Obj) (v0 v1 : Value) : Below w.heap.size w ((((w.alloc o1).alloc o2).setCell ⟨w.heap.size + 1, 0, none⟩ v0).setCell ⟨w.heap.size + 1, 1, none⟩ v1) := sp_below w o1 o2 0 v0 v1
section
variable (X : Rx) (k : Nat) (a : Option Addr) (c : Nat) (ad : Option Addr) (cp : Nat) (w : World)
set_option maxRecDepth 100000 in
set_option maxHeartbeats 4000000 in
theorem i_spanNo2 (hk : k ≤ 120) (hr : RngAt w a k (tI X) (wtX X) w.heap.size) (h2 : X.K k = 3 ∨ X.K k = 4)
    (hno : k ≤ 1 ∨ X.B k ≠ (k : Int) - 1 ∨ tI X (k - 1) = 0 ∨ X.A k ≠ tI X (k - 1) - 1) (htb : 1 < k → 0 ≤ tI X (k - 1) ∧ tI X (k - 1) ≤ 120) :
    Calls Tryd.prog 22 #[.slice a k c, .agg #[.int .i64 (X.K k), .bool (X.NT k), .slice ad (X.NR k) cp, .int .i64 (X.A k), .int .i64 (X.B k), .int .i64 (X.MN k), .int .i64 (X.MX k)]] w fun e w' => e = .returned (.tuple #[.agg #[.int .i64 0, .int .i64 0], .bool false]) ∧ Below w.heap.size w w' := by
  obtain ⟨kd, hkd⟩ : ∃ kd, X.K k = kd := ⟨_, rfl⟩
  obtain ⟨pa, hpa⟩ : ∃ x, X.A k = x := ⟨_, rfl⟩
  obtain ⟨pb, hpb⟩ : ∃ x, X.B k = x := ⟨_, rfl⟩
  obtain ⟨t, ht⟩ : ∃ x, tI X (k - 1) = x := ⟨_, rfl⟩
  rw [hkd] at h2 ⊢
  rw [hpb, ht, hpa] at hno
  rw [ht] at htb
  rw [hpa, hpb]
  have HR := hide hr
  have HT := hide ht
  clear hr hkd hpa hpb ht
  by_cases q1 : k ≤ 1
  · have q2 : (k : Int) - 1 < 1 := by omega
    clear hno htb
    rcases h2 with rfl | rfl
    all_goals
      go_enter Tryd.func22, Tryd.ntmps22
      go_wp2
      go_big_quiet (fail)
      go_wp2
      exact bodyPost_ret (v := .tuple #[.agg #[.int .i64 0, .int .i64 0], .bool false]) (by simp [results, Tryd.results22, go_sem]) rfl ⟨rfl, sp_below _ _ _ _ _ _⟩
  · obtain ⟨b, off, rfl, hbs, hc⟩ := HR.out (by omega)
    have c1 := (hc (k - 1) (by omega)).1
    rw [HT.out] at c1
    have q2 : decide ((k : Int) - 1 < 1) = false := by simp; omega
    have q3 : (k : Int) - 1 < (k : Int) := by omega
    have q4 : (0 : Int) ≤ (k : Int) - 1 := by omega
    have q5 : ((k : Int) - 1).toNat = k - 1 := by omega
    obtain ⟨tb0, tb1⟩ := htb (by omega)
    have hw : IntKind.i64.wrap (t - 1) = t - 1 := by rw [IntKind.wrap_i64]; omega
    clear hc htb
    by_cases p1 : pb = (k : Int) - 1
    · have p1b : (pb != (k : Int) - 1) = false := by simp; omega
      subst p1
      by_cases p2 : t = 0
      · subst p2
        clear hno
        rcases h2 with rfl | rfl
        all_goals
          go_enter Tryd.func22, Tryd.ntmps22
          go_wp2
          go_big_quiet (fail)
          go_wp2
          exact bodyPost_ret (v := .tuple #[.agg #[.int .i64 0, .int .i64 0], .bool false]) (by simp [results, Tryd.results22, go_sem]) rfl ⟨rfl, sp_below _ _ _ _ _ _⟩
      · have p2b : (t == 0) = false := by simpa using p2
        have p3 : pa ≠ t - 1 := by
          rcases hno with h | h | h | h
          · omega
          · exact absurd rfl h
          · exact absurd h p2
          · exact h
        have p3b : (pa != t - 1) = true := by simpa using p3
        clear hno
        rcases h2 with rfl | rfl
        all_goals
          go_enter Tryd.func22, Tryd.ntmps22
          go_wp2
          go_big_quiet (fail)
          go_wp2
          exact bodyPost_ret (v := .tuple #[.agg #[.int .i64 0, .int .i64 0], .bool false]) (by simp [results, Tryd.results22, go_sem]) rfl ⟨rfl, sp_below _ _ _ _ _ _⟩
    · have p1b : (pb != (k : Int) - 1) = true := by simpa using p1
      clear hno
      rcases h2 with rfl | rfl
      all_goals
        go_enter Tryd.func22, Tryd.ntmps22
        go_wp2
        go_big_quiet (fail)
        go_wp2
        exact bodyPost_ret (v := .tuple #[.agg #[.int .i64 0, .int .i64 0], .bool false]) (by simp [results, Tryd.results22, go_sem]) rfl ⟨rfl, sp_below _ _ _ _ _ _⟩
end
end Go.Proofs.YtepommmmmfaihaaDoor

/-
  Contract: where a node's piece begins and how much it weighs, by the program, where it is a right one.
-/
namespace Go.Proofs.YtepommmmmfaihaaDoor
open Go.RowKit Go.Joins
set_option linter.unusedVariables false
set_option linter.unusedSimpArgs false
section
variable (X : Rx) (k : Nat) (a : Option Addr) (c : Nat) (ad : Option Addr) (cp : Nat) (w : World)
set_option maxRecDepth 100000 in
set_option maxHeartbeats 4000000 in
theorem i_spanYes2 (hk : k ≤ 120) (hr : RngAt w a k (tI X) (wtX X) w.heap.size) (h2 : X.K k = 3 ∨ X.K k = 4) (m : Nat) (hm : m + 1 < k) (hB : X.B k = (k : Int) - 1) (hT : tI X (k - 1) = (m : Int) + 1) (hA : X.A k = m) (f z : Int) (hf : tI X m = f) (hz : min (wtX X m + wtX X (k - 1)) 2001 = z) :
    Calls Tryd.prog 22 #[.slice a k c, .agg #[.int .i64 (X.K k), .bool (X.NT k), .slice ad (X.NR k) cp, .int .i64 (X.A k), .int .i64 (X.B k), .int .i64 (X.MN k), .int .i64 (X.MX k)]] w fun e w' => e = .returned (.tuple #[.agg #[.int .i64 f, .int .i64 z], .bool true]) ∧ Below w.heap.size w w' := by
  obtain ⟨kd, hkd⟩ : ∃ kd, X.K k = kd := ⟨_, rfl⟩
  rw [hkd] at h2 ⊢
  rw [hA, hB]
  obtain ⟨b, off, rfl, hbs, hc⟩ := hr (by omega)
  obtain ⟨c1, c2⟩ := hc (k - 1) (by omega)
  obtain ⟨c3, c4⟩ := hc m (by omega)
  have g1 := wtX_ge X m
  have g2 := wtX_le X m
  have g3 := wtX_ge X (k - 1)
  have g4 := wtX_le X (k - 1)
  obtain ⟨x, hx⟩ : ∃ x, wtX X m = x := ⟨_, rfl⟩
  obtain ⟨y, hy⟩ : ∃ x, wtX X (k - 1) = x := ⟨_, rfl⟩
  rw [hf] at c3
  rw [hT] at c1
  rw [hx] at c4 g1 g2 hz
  rw [hy] at c2 g3 g4 hz
  have HZ := hide hz
  have q2 : decide ((k : Int) - 1 < 1) = false := by simp; omega
  have q3 : (k : Int) - 1 < (k : Int) := by omega
  have q4 : (0 : Int) ≤ (k : Int) - 1 := by omega
  have q10 : (1 : Int) ≤ (k : Int) := by omega
  have q5 : ((k : Int) - 1).toNat = k - 1 := by omega
  have q6 : (m : Int) < (k : Int) := by omega
  have q7 : (((m : Int) + 1) == 0) = false := by simp; omega
  have q8 : IntKind.i64.wrap ((m : Int) + 1 - 1) = (m : Int) := by rw [IntKind.wrap_i64]; omega
  have q9 : IntKind.i64.wrap (x + y) = x + y := by rw [IntKind.wrap_i64]; omega
  clear hc hr hkd hf hT hx hy hz hA hB
  rcases h2 with rfl | rfl
  all_goals
      go_enter Tryd.func22, Tryd.ntmps22
      go_wp2
      go_big_quiet (fail)
      go_wp2
      go_region_held3 (fun w' => w'.cell? ⟨w.heap.size, 3, none⟩ = some (.int .i64 (m : Int)) ∧ w'.cell? ⟨b, off + m * 2, none⟩ = some (.int .i64 f) ∧ w'.cell? ⟨b, off + m * 2 + 1, none⟩ = some (.int .i64 x) ∧ w'.cell? ⟨b, off + (k - 1) * 2 + 1, none⟩ = some (.int .i64 y)) (first | assumption | (refine ⟨?_, ?_, ?_, ?_⟩ <;> go_simp)) (first | (go_at_call 36; refine (i_held _ z _ HZ.out).mono ?_; rintro e w' ⟨rfl, rfl⟩))
      all_goals
        go_wp2
        exact bodyPost_ret (v := .tuple #[.agg #[.int .i64 f, .int .i64 z], .bool true]) (by simp [results, Tryd.results22, go_sem]) rfl ⟨rfl, sp_below _ _ _ _ _ _⟩
set_option maxRecDepth 100000 in
set_option maxHeartbeats 4000000 in
theorem i_spanNo5 (hk : k ≤ 120) (h5 : X.K k = 5) (hno : k = 0 ∨ X.A k ≠ (k : Int) - 1) :
    Calls Tryd.prog 22 #[.slice a k c, .agg #[.int .i64 (X.K k), .bool (X.NT k), .slice ad (X.NR k) cp, .int .i64 (X.A k), .int .i64 (X.B k), .int .i64 (X.MN k), .int .i64 (X.MX k)]] w fun e w' => e = .returned (.tuple #[.agg #[.int .i64 0, .int .i64 0], .bool false]) ∧ Below w.heap.size w w' := by
  rw [h5]
  obtain ⟨pa, hpa⟩ : ∃ x, X.A k = x := ⟨_, rfl⟩
  rw [hpa] at hno ⊢
  clear h5 hpa
  by_cases h0 : k = 0
  · have q : (k : Int) - 1 < 0 := by omega
    clear hno
    go_enter Tryd.func22, Tryd.ntmps22
    go_wp2
    exact bodyPost_ret (v := .tuple #[.agg #[.int .i64 0, .int .i64 0], .bool false]) (by simp [results, Tryd.results22, go_sem]) rfl ⟨rfl, ((Below.refl _ _).alloc (Nat.le_refl _) _).alloc (by simp) _⟩
  · have q : ¬ (k : Int) - 1 < 0 := by omega
    have p1 : pa ≠ (k : Int) - 1 := hno.resolve_left h0
    have p1b : (pa != (k : Int) - 1) = true := by simpa using p1
    clear hno p1
    go_enter Tryd.func22, Tryd.ntmps22
    go_wp2
    exact bodyPost_ret (v := .tuple #[.agg #[.int .i64 0, .int .i64 0], .bool false]) (by simp [results, Tryd.results22, go_sem]) rfl ⟨rfl, ((Below.refl _ _).alloc (Nat.le_refl _) _).alloc (by simp) _⟩
set_option maxRecDepth 100000 in
set_option maxHeartbeats 4000000 in
theorem i_spanYes5 (hk : k ≤ 120) (hr : RngAt w a k (tI X) (wtX X) w.heap.size) (h5 : X.K k = 5) (h0 : 1 ≤ k) (hA : X.A k = (k : Int) - 1) (hmn : 0 ≤ X.MN k ∧ X.MN k ≤ 20 ∧ X.MX k ≤ 20 ∧ -1 ≤ X.MX k) (f z : Int) (hf : tI X (k - 1) = f) (hz : min (wtX X (k - 1) * muX X k) 2001 = z) :
    Calls Tryd.prog 22 #[.slice a k c, .agg #[.int .i64 (X.K k), .bool (X.NT k), .slice ad (X.NR k) cp, .int .i64 (X.A k), .int .i64 (X.B k), .int .i64 (X.MN k), .int .i64 (X.MX k)]] w fun e w' => e = .returned (.tuple #[.agg #[.int .i64 f, .int .i64 z], .bool true]) ∧ Below w.heap.size w w' := by
  rw [h5, hA]
  obtain ⟨b, off, rfl, hbs, hc⟩ := hr (by omega)
  obtain ⟨c1, c2⟩ := hc (k - 1) (by omega)
  have g3 := wtX_ge X (k - 1)
  have g4 := wtX_le X (k - 1)
  obtain ⟨x, hx⟩ : ∃ x, wtX X (k - 1) = x := ⟨_, rfl⟩
  rw [hf] at c1
  rw [hx] at c2 g3 g4 hz
  obtain ⟨mn, hmn'⟩ : ∃ mn, X.MN k = mn := ⟨_, rfl⟩
  obtain ⟨mx, hmx'⟩ : ∃ mx, X.MX k = mx := ⟨_, rfl⟩
  have hmu : muX X k = max (max 1 (mn + 1)) mx := by unfold muX; rw [hmn', hmx']
  rw [hmn', hmx'] at hmn ⊢
  obtain ⟨m0, m1, m2, m3⟩ := hmn
  have e1 : (if (1 : Int) < mn + 1 then mn + 1 else 1) = mn + 1 := by split <;> omega
  obtain ⟨v, hv⟩ : ∃ v, (if mn + 1 < mx then mx else mn + 1) = v := ⟨_, rfl⟩
  have hv1 : max (max 1 (mn + 1)) mx = v ∧ 1 ≤ v ∧ v ≤ 21 := by rw [← hv]; split <;> omega
  have p0 := Int.mul_nonneg g3 (by omega : (0 : Int) ≤ v)
  have p1 : x * v ≤ 2001 * 21 := Int.mul_le_mul g4 (by omega) (by omega) (by omega)
  rw [hmu, hv1.1] at hz
  have hw1 : IntKind.i64.wrap (mn + 1) = mn + 1 := by rw [IntKind.wrap_i64]; omega
  have hw2 : IntKind.i64.wrap (x * v) = x * v := by rw [IntKind.wrap_i64]; omega
  have HZ := hide hz
  have q2 : ¬ (k : Int) - 1 < 0 := by omega
  have q3 : (k : Int) - 1 < (k : Int) := by omega
  have q4 : (0 : Int) ≤ (k : Int) - 1 := by omega
  have q10 : (1 : Int) ≤ (k : Int) := by omega
  have q5 : ((k : Int) - 1).toNat = k - 1 := by omega
  clear hc hr hf hx hz hA hmn' hmx' hmu hv1 h5
  go_enter Tryd.func22, Tryd.ntmps22
  go_wp2
  go_region_held3 (fun w' => w'.cell? ⟨w.heap.size, 5, none⟩ = some (.int .i64 mn) ∧ w'.cell? ⟨w.heap.size, 6, none⟩ = some (.int .i64 mx) ∧ w'.cell? ⟨b, off + (k - 1) * 2, none⟩ = some (.int .i64 f) ∧ w'.cell? ⟨b, off + (k - 1) * 2 + 1, none⟩ = some (.int .i64 x)) (first | assumption | (refine ⟨?_, ?_, ?_, ?_⟩ <;> go_simp)) (first | (go_at_call 36; refine (i_held _ z _ HZ.out).mono ?_; rintro e w' ⟨rfl, rfl⟩))
  all_goals
    go_wp2
    exact bodyPost_ret (v := .tuple #[.agg #[.int .i64 f, .int .i64 z], .bool true]) (by simp [results, Tryd.results22, go_sem]) rfl ⟨rfl, (((Below.refl _ _).alloc (Nat.le_refl _) _).alloc (by simp) _).drew⟩
set_option maxHeartbeats 4000000 in
theorem i_spanLeaf (hk : k ≤ 120) (h2 : ¬ (X.K k = 3 ∨ X.K k = 4)) (h5 : ¬ X.K k = 5) :
    Calls Tryd.prog 22 #[.slice a k c, .agg #[.int .i64 (X.K k), .bool (X.NT k), .slice ad (X.NR k) cp, .int .i64 (X.A k), .int .i64 (X.B k), .int .i64 (X.MN k), .int .i64 (X.MX k)]] w fun e w' => e = .returned (.tuple #[.agg #[.int .i64 k, .int .i64 1], .bool true]) ∧ Below w.heap.size w w' := by
  obtain ⟨kd, hkd⟩ : ∃ kd, X.K k = kd := ⟨_, rfl⟩
  rw [hkd] at h2 h5 ⊢
  have n3 : (kd == 3) = false := by simp; omega
  have n4 : (kd == 4) = false := by simp; omega
  have n5 : (kd == 5) = false := by simp; omega
  clear h2 h5 hkd
  go_enter Tryd.func22, Tryd.ntmps22
  go_wp2
  exact bodyPost_ret (v := .tuple #[.agg #[.int .i64 k, .int .i64 1], .bool true]) (by simp [results, Tryd.results22, go_sem]) rfl ⟨rfl, ((Below.refl _ _).alloc (Nat.le_refl _) _).alloc (by simp) _⟩
end
end Go.Proofs.YtepommmmmfaihaaDoor
