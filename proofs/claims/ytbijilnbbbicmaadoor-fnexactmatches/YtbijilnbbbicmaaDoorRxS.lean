/-
  Contract: which lists of nodes the specification calls a right expression.
-/
import Derived.Test.YtbijilnbbbicmaaDoorRxWt
namespace Go.Proofs.YtbijilnbbbicmaaDoor
open Go.RowKit Go.Joins
set_option linter.unusedVariables false
set_option linter.unusedSimpArgs false
def nodeX (X : Rx) (j : Nat) : Bool := nodeB (X.K j) (X.NT j) (X.NR j) (X.L j) (X.H j) (X.A j) (X.B j) (X.MN j) (X.MX j)
def rxB (X : Rx) : Bool := decide (1 ≤ X.len ∧ X.len ≤ 120) && ((List.range X.len).all (nodeX X) && (decide (trX X (X.len - 1) = some 0) && decide (wtX X (X.len - 1) ≤ 2000)))
theorem rxB_size {X : Rx} (h : ¬ (1 ≤ X.len ∧ X.len ≤ 120)) : rxB X = false := by unfold rxB; rw [decide_eq_false h]; rfl
theorem rxB_node {X : Rx} {k : Nat} (hk : k < X.len) (h : nodeX X k = false) : rxB X = false := by
  have : (List.range X.len).all (nodeX X) = false := by
    rw [List.all_eq_false]
    exact ⟨k, by simpa using hk, by simp [h]⟩
  unfold rxB
  rw [this]
  simp
theorem rxB_all {X : Rx} (h0 : 1 ≤ X.len ∧ X.len ≤ 120) (h : ∀ j, j < X.len → nodeX X j = true) : rxB X = (decide (trX X (X.len - 1) = some 0) && decide (wtX X (X.len - 1) ≤ 2000)) := by
  have : (List.range X.len).all (nodeX X) = true := by
    rw [List.all_eq_true]
    intro j hj
    exact h j (by simpa using hj)
  unfold rxB
  rw [this, decide_eq_true h0]
  simp
theorem node_cnt {kd : Int} {nt : Bool} {n : Nat} {L H : Nat → Int} {a b mn mx : Int} (h : nodeB kd nt n L H a b mn mx = true) (h5 : kd = 5) : 0 ≤ mn ∧ mn ≤ 20 ∧ mx ≤ 20 ∧ -1 ≤ mx := by
  subst h5
  simp [nodeB] at h
  omega
theorem rx_nodes {w : World} {b off : Nat} {X : Rx} {B len : Nat} (hX : X.len = len) (h : RxRow w b off X B) : NodesAt w b off len X.K X.A X.B := fun j hj => by
  obtain ⟨ad, cp, hc, -⟩ := h j (by omega)
  exact ⟨hc.1, hc.2.2.2.1, hc.2.2.2.2.1⟩
theorem trI_zero (X : Rx) (n : Nat) : (trI X.K X.A X.B n = 0) ↔ trX X n = some 0 := by
  unfold trI trX
  cases h : tr (twoK X.K) (cntK X.K) X.A X.B n with
  | none => simp
  | some f => simp
set_option maxRecDepth 100000 in
set_option maxHeartbeats 4000000 in
theorem s_regex (X : Rx) (len : Nat) (a : Option Addr) (cap : Nat) (w : World) (hX : X.len = len) (hlen : len ≤ maxLen) (hnr : ∀ j, j < len → X.NR j ≤ maxLen) (hr : RxAt w a X w.heap.size) :
    Calls Tryd.prog 11 #[.slice a len cap] w fun e w' => e = .returned (.bool (rxB X)) ∧ Below w.heap.size w w' := by
  unfold maxLen at hlen
  have HX := hide hX
  have HNR := hide hnr
  have HR := hide hr
  clear hr hnr hX
  by_cases hs : 1 ≤ len ∧ len ≤ 120
  · obtain ⟨g1, g2⟩ := hs
    have g3 : (1 : Int) ≤ len := by omega
    have g4 : (len : Int) ≤ 120 := by omega
    obtain ⟨b, off, rfl, hbs, hrow⟩ := HR.out (by rw [HX.out]; omega)
    have HRW := hide hrow
    clear hrow
    go_enter Tryd.func11, Tryd.ntmps11
    go_wp2
    go_loopw [3] (fun i wr => ∃ k : Nat, k ≤ len ∧ i = .int .i64 k ∧ Below w.heap.size w wr ∧ Hid (∀ j, j < k → nodeX X j = true)) (fun i _ => len - (intOf i).toNat)
    case atStart => exact ⟨0, Nat.zero_le _, rfl, Below.refl _ _, fun j h => by omega⟩
    case round =>
      obtain ⟨k, hk, rfl, hb, HM⟩ := hrel
      have hbw : b < wr.heap.size := Nat.lt_of_lt_of_le hbs hb.size
      by_cases hlt : k < len
      · obtain ⟨ad, cp, hc, hrg⟩ := HRW.out k (by rw [HX.out]; omega)
        obtain ⟨c0, c1, c2, c3, c4, c5, c6⟩ := rxCells_go hc hbs hb
        have HG := hide (rngAt_up (rngAt_go hrg hb) hb.size)
        have HB := hide hb
        have hi : (k : Int) < (len : Int) := by omega
        clear hc hrg hb
        cases hno : nodeX X k
        · go_wp2_with (go_at_call 20; refine (s_nodeok _ _ _ _ _ _ _ _ _ (X.L k) (X.H k) _ (HNR.out k hlt) HG.out).mono ?_; rintro e w2 ⟨rfl, hb2⟩; rw [show nodeB (X.K k) (X.NT k) (X.NR k) (X.L k) (X.H k) (X.A k) (X.B k) (X.MN k) (X.MX k) = false from hno]; have HB2 := hide (HB.out.trans (hb2.mono HB.out.size)); clear hb2)
          go_ret
          exact ⟨ret_bool (rxB_node (by rw [HX.out]; exact hlt) hno).symm, HB2.out⟩
        · go_wp2_with (go_at_call 20; refine (s_nodeok _ _ _ _ _ _ _ _ _ (X.L k) (X.H k) _ (HNR.out k hlt) HG.out).mono ?_; rintro e w2 ⟨rfl, hb2⟩; rw [show nodeB (X.K k) (X.NT k) (X.NR k) (X.L k) (X.H k) (X.A k) (X.B k) (X.MN k) (X.MX k) = true from hno]; have HB2 := hide (HB.out.trans (hb2.mono HB.out.size)); clear hb2)
          go_roundw
          case rel =>
            refine ⟨k + 1, by omega, by go_num, HB2.out, fun j hj => ?_⟩
            by_cases e : j = k
            · subst e; exact hno
            · exact HM.out j (by omega)
          case measure => simp [intOf]; omega
      · have hkn : k = len := by omega
        subst hkn
        have HV := hide (rxB_all (X := X) (by rw [HX.out]; exact ⟨g1, g2⟩) (by rw [HX.out]; exact HM.out))
        rw [HX.out] at HV
        have hrow := rxRow_up (rxRow_go HRW.out hbs hb) hb.size
        have hroot : ((k : Int) - 1) = ((k - 1 : Nat) : Int) := by omega
        have CT : Hid (Calls Tryd.prog 21 #[.slice (some ⟨b, off, none⟩) k cap, .int .i64 ((k : Int) - 1)] wr fun e w' => e = .returned (.int .i64 (trI X.K X.A X.B (k - 1))) ∧ w' = wr) := hide (by rw [hroot]; exact s_tree b off k cap X.K X.A X.B wr (by omega) (rx_nodes HX.out hrow) k (k - 1) (by omega) (by omega))
        have HB := hide hb
        have HRR := hide hrow
        by_cases ht : trX X (k - 1) = some 0
        · have hz : trI X.K X.A X.B (k - 1) = 0 := (trI_zero X (k - 1)).2 ht
          have CW : Hid (Calls Tryd.prog 22 #[.slice (some ⟨b, off, none⟩) k cap, .int .i64 ((k : Int) - 1)] wr fun e w' => e = .returned (.int .i64 (wtX X (k - 1))) ∧ Below wr.heap.size wr w') := hide (by rw [hroot]; exact s_weight X k HX.out (by omega) (fun j hj h5 => node_cnt (HM.out j hj) h5) b off cap k (k - 1) 0 wr (by omega) (by omega) ht hbw HRR.out)
          rw [hz] at CT
          rw [decide_eq_true ht] at HV
          obtain ⟨x, hx⟩ : ∃ x, wtX X (k - 1) = x := ⟨_, rfl⟩
          rw [hx] at CW HV
          clear hrow hroot hz ht hx hb
          go_wp2_with (first | (go_at_call 21; refine CT.out.mono ?_; rintro e w2 ⟨rfl, rfl⟩) | (go_at_call 22; refine CW.out.mono ?_; rintro e w2 ⟨rfl, hb2⟩; have HB2 := hide (HB.out.trans (hb2.mono HB.out.size)); clear hb2))
          go_ret
          exact ⟨ret_bool (by rw [HV.out]; simp), HB2.out⟩
        · have hz : ¬ trI X.K X.A X.B (k - 1) = 0 := fun h => ht ((trI_zero X (k - 1)).1 h)
          rw [decide_eq_false ht] at HV
          obtain ⟨x, hx⟩ : ∃ x, trI X.K X.A X.B (k - 1) = x := ⟨_, rfl⟩
          rw [hx] at CT hz
          have hz2 : (x == 0) = false := by simpa using hz
          clear hrow hroot ht hx hb hz
          go_wp2_with (first | (go_at_call 21; refine CT.out.mono ?_; rintro e w2 ⟨rfl, rfl⟩))
          go_ret
          exact ⟨ret_bool (by rw [HV.out]; rfl), HB.out⟩
  · have e := rxB_size (X := X) (by rw [HX.out]; exact hs)
    rw [e]
    by_cases g : len = 0
    · go_enter Tryd.func11, Tryd.ntmps11
      go_wp2
      go_ret
      exact ⟨rfl, Below.refl _ _⟩
    · have g2 : (120 : Int) < (len : Int) := by omega
      go_enter Tryd.func11, Tryd.ntmps11
      go_wp2
      go_ret
      exact ⟨rfl, Below.refl _ _⟩
end Go.Proofs.YtbijilnbbbicmaaDoor
