/-
  Contracts: two rows of nodes that are alike are told so.
-/
import Derived.Test.YtbijilnbbbicmaaDoorRxRow
import Derived.Test.YtbijilnbbbicmaaDoorClass5
namespace Go.Proofs.YtbijilnbbbicmaaDoor
open Go.RowKit Go.Joins
set_option linter.unusedVariables false
set_option linter.unusedSimpArgs false
def EQN (w w' : World) (b o b' o' : Nat) (X : Rx) (k : Nat) (ad : Option Addr) (cp : Nat) (ad' : Option Addr) (cp' : Nat) : Prop := Below w.heap.size w w' ∧ (b < w.heap.size ∧ b' < w.heap.size) ∧
  RxCells w' b o X k ad cp ∧ RxCells w' b' o' X k ad' cp' ∧ RngAt w' ad (X.NR k) (X.L k) (X.H k) w.heap.size ∧ RngAt w' ad' (X.NR k) (X.L k) (X.H k) w.heap.size
section
variable {w w1 w2 : World} {b o b' o' : Nat} {X : Rx} {k : Nat} {ad : Option Addr} {cp : Nat} {ad' : Option Addr} {cp' : Nat}
theorem eqn_go (x : EQN w w1 b o b' o' X k ad cp ad' cp') (h : Below w1.heap.size w1 w2) : EQN w w2 b o b' o' X k ad cp ad' cp' := by
  obtain ⟨hb, ⟨h1, h2⟩, c1, c2, r1, r2⟩ := x
  have hh := h.mono hb.size
  exact ⟨hb.trans hh, ⟨h1, h2⟩, rxCells_go c1 h1 hh, rxCells_go c2 h2 hh, rngAt_go r1 hh, rngAt_go r2 hh⟩
theorem eqn_drew (x : EQN w w1 b o b' o' X k ad cp ad' cp') : EQN w w1.drew b o b' o' X k ad cp ad' cp' := eqn_go x ⟨rfl, rfl, rfl, Nat.le_refl _, fun _ _ => rfl⟩
theorem eqn_all (x : EQN w w1 b o b' o' X k ad cp ad' cp') : EQN w w1 b o b' o' X k ad cp ad' cp' ∧ (w1.cell? ⟨b, o, none⟩ = some (.int .i64 (X.K k)) ∧ w1.cell? ⟨b, o + 1, none⟩ = some (.bool (X.NT k)) ∧ w1.cell? ⟨b, o + 2, none⟩ = some (.slice ad (X.NR k) cp) ∧ w1.cell? ⟨b, o + 3, none⟩ = some (.int .i64 (X.A k)) ∧ w1.cell? ⟨b, o + 4, none⟩ = some (.int .i64 (X.B k)) ∧ w1.cell? ⟨b, o + 5, none⟩ = some (.int .i64 (X.MN k)) ∧ w1.cell? ⟨b, o + 6, none⟩ = some (.int .i64 (X.MX k))) ∧ w1.cell? ⟨b', o', none⟩ = some (.int .i64 (X.K k)) ∧ w1.cell? ⟨b', o' + 1, none⟩ = some (.bool (X.NT k)) ∧ w1.cell? ⟨b', o' + 2, none⟩ = some (.slice ad' (X.NR k) cp') ∧ w1.cell? ⟨b', o' + 3, none⟩ = some (.int .i64 (X.A k)) ∧ w1.cell? ⟨b', o' + 4, none⟩ = some (.int .i64 (X.B k)) ∧ w1.cell? ⟨b', o' + 5, none⟩ = some (.int .i64 (X.MN k)) ∧ w1.cell? ⟨b', o' + 6, none⟩ = some (.int .i64 (X.MX k)) := ⟨x, x.2.2.1, x.2.2.2.1⟩
theorem eqn_r1 (x : EQN w w1 b o b' o' X k ad cp ad' cp') : RngAt w1 ad (X.NR k) (X.L k) (X.H k) w1.heap.size := rngAt_up x.2.2.2.2.1 x.1.size
theorem eqn_r2 (x : EQN w w1 b o b' o' X k ad cp ad' cp') : RngAt w1 ad' (X.NR k) (X.L k) (X.H k) w1.heap.size := rngAt_up x.2.2.2.2.2 x.1.size
end
set_option maxRecDepth 100000 in
set_option maxHeartbeats 4000000 in
theorem l_eqNs (X : Rx) (n : Nat) (a1 a2 : Option Addr) (c1 c2 : Nat) (w : World) (hX : X.len = n) (hn : n ≤ 1048576) (hnr : ∀ j, j < n → X.NR j ≤ 1048576) (h1 : RxAt w a1 X w.heap.size) (h2 : RxAt w a2 X w.heap.size) :
    Calls Tryd.prog 8 #[.slice a1 n c1, .slice a2 n c2] w fun e w' => e = .returned (.bool true) ∧ Below w.heap.size w w' := by
  have HX := hide hX
  have HNR := hide hnr
  have H1 := hide h1
  have H2 := hide h2
  clear h1 h2 hnr hX
  go_enter Tryd.func8, Tryd.ntmps8
  go_wp2
  go_loopw [5] (fun i wr => ∃ k : Nat, k ≤ n ∧ i = .int .i64 k ∧ Below w.heap.size w wr) (fun i _ => n - (intOf i).toNat)
  case atStart => exact ⟨0, Nat.zero_le _, rfl, Below.refl _ _⟩
  case round =>
    obtain ⟨k, hk, rfl, hb⟩ := hrel
    by_cases hlt : k < n
    · obtain ⟨b, off, rfl, hbs, hc⟩ := H1.out (by rw [HX.out]; omega)
      obtain ⟨b', off', rfl, hbs', hc'⟩ := H2.out (by rw [HX.out]; omega)
      obtain ⟨ad, cp, hk1, hr1⟩ := hc k (by rw [HX.out]; omega)
      obtain ⟨ad', cp', hk2, hr2⟩ := hc' k (by rw [HX.out]; omega)
      have hnk := HNR.out k hlt
      have XX : Hid (EQN w wr b (off + k * 7) b' (off' + k * 7) X k ad cp ad' cp') := ⟨hb, ⟨hbs, hbs'⟩, rxCells_go hk1 hbs hb, rxCells_go hk2 hbs' hb, rngAt_go hr1 hb, rngAt_go hr2 hb⟩
      have hi : (k : Int) < (n : Int) := by omega
      have hi0 : (0 : Int) ≤ (k : Int) := by omega
      clear hc hc' hb hk1 hk2 hr1 hr2
      go_wp2
      go_region_held3 (fun w' => EQN w w' b (off + k * 7) b' (off' + k * 7) X k ad cp ad' cp' ∧ (w'.cell? ⟨b, off + k * 7, none⟩ = some (.int .i64 (X.K k)) ∧ w'.cell? ⟨b, off + k * 7 + 1, none⟩ = some (.bool (X.NT k)) ∧ w'.cell? ⟨b, off + k * 7 + 2, none⟩ = some (.slice ad (X.NR k) cp) ∧ w'.cell? ⟨b, off + k * 7 + 3, none⟩ = some (.int .i64 (X.A k)) ∧ w'.cell? ⟨b, off + k * 7 + 4, none⟩ = some (.int .i64 (X.B k)) ∧ w'.cell? ⟨b, off + k * 7 + 5, none⟩ = some (.int .i64 (X.MN k)) ∧ w'.cell? ⟨b, off + k * 7 + 6, none⟩ = some (.int .i64 (X.MX k))) ∧ w'.cell? ⟨b', off' + k * 7, none⟩ = some (.int .i64 (X.K k)) ∧ w'.cell? ⟨b', off' + k * 7 + 1, none⟩ = some (.bool (X.NT k)) ∧ w'.cell? ⟨b', off' + k * 7 + 2, none⟩ = some (.slice ad' (X.NR k) cp') ∧ w'.cell? ⟨b', off' + k * 7 + 3, none⟩ = some (.int .i64 (X.A k)) ∧ w'.cell? ⟨b', off' + k * 7 + 4, none⟩ = some (.int .i64 (X.B k)) ∧ w'.cell? ⟨b', off' + k * 7 + 5, none⟩ = some (.int .i64 (X.MN k)) ∧ w'.cell? ⟨b', off' + k * 7 + 6, none⟩ = some (.int .i64 (X.MX k))) (first | assumption | exact eqn_all (eqn_drew XX.out) | exact eqn_all XX.out) (first | (go_at_call 17; refine (l_eqN _ _ _ _ _ _ _ _ _ _ _ (X.L k) (X.H k) _ hnk (eqn_r1 (And.left (by assumption))) (eqn_r2 (And.left (by assumption)))).mono ?_; rintro e w2 ⟨rfl, hb2⟩; have X2 := hide (eqn_go (eqn_drew XX.out) hb2); replace XX := X2; clear X2 hb2))
      all_goals
        go_wp2
        go_roundw
        case rel => exact ⟨k + 1, by omega, by go_num, XX.out.1⟩
        case measure => simp [intOf]; omega
    · go_wp2
      go_ret
      exact ⟨rfl, hb⟩
end Go.Proofs.YtbijilnbbbicmaaDoor
