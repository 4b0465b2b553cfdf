/-
  Contract of the laws' helper: the marks on a row of marks stand.
-/
import Derived.Test.YtdbipaobanjbbaaDoorMrT
namespace Go.Proofs.YtdbipaobanjbbaaDoor
open Go.RowKit Go.Joins
set_option linter.unusedVariables false
set_option linter.unusedSimpArgs false
/-- While a place is held against its mark. -/
def HSM (w w' : World) (b o : Nat) (s : ByteArray) : Prop := Below w.heap.size w w' ∧ b < w.heap.size ∧ w'.cell? ⟨b, o, none⟩ = some (.string s)
theorem hsm_go {w w1 w2 : World} {b o : Nat} {s : ByteArray} (x : HSM w w1 b o s) (h : Below w1.heap.size w1 w2) : HSM w w2 b o s :=
  ⟨x.1.trans (h.mono x.1.size), x.2.1, (h.cell (p := ⟨b, o, none⟩) (Nat.lt_of_lt_of_le x.2.1 x.1.size)).trans x.2.2⟩
theorem hsm_drew {w w1 : World} {b o : Nat} {s : ByteArray} (x : HSM w w1 b o s) : HSM w w1.drew b o s := hsm_go x ⟨rfl, rfl, rfl, Nat.le_refl _, fun _ _ => rfl⟩
theorem hsm_all {w w1 : World} {b o : Nat} {s : ByteArray} (x : HSM w w1 b o s) : HSM w w1 b o s ∧ w1.cell? ⟨b, o, none⟩ = some (.string s) := ⟨x, x.2.2⟩
set_option maxRecDepth 100000 in
set_option maxHeartbeats 4000000 in
theorem heldMk (a : Option Addr) (n c : Nat) (w : World) (hn : n ≤ 1048576) (hr : MkAt w a (mkOf (mkN n)) w.heap.size) :
    Calls Tryd.prog 8 #[.slice a n c, .int .i64 1] w fun e w' => e = .returned (.int .i64 (1 + 5 * n : Nat)) ∧ Below w.heap.size w w' := by
  have HR := hide hr
  clear hr
  go_enter Tryd.func8, Tryd.ntmps8
  go_wp2
  go_loopw [1, 5] (fun k i wr => ∃ j : Nat, j ≤ n ∧ i = .int .i64 j ∧ k = .int .i64 ((1 + 5 * j : Nat) : Int) ∧ Below w.heap.size w wr) (fun _ i _ => n - (intOf i).toNat)
  case atStart => exact ⟨0, Nat.zero_le _, rfl, rfl, Below.refl _ _⟩
  case round =>
    obtain ⟨j, hj, rfl, rfl, hb⟩ := hrel
    by_cases hlt : j < n
    · have hji : (j : Int) < (n : Int) := by omega
      have hj0 : (0 : Int) ≤ (j : Int) := by omega
      obtain ⟨b, off, rfl, hbs, hc⟩ := HR.out (by show 0 < (mkN n).length; rw [mkN_len]; omega)
      obtain ⟨k0, k1, k2, k3, k4⟩ := hc j (by show j < (mkN n).length; rw [mkN_len]; exact hlt)
      have hA := mkN_at n j hlt
      dsimp only [mkOf] at k0 k1 k2 k3 k4
      rw [hA] at k0 k1 k2 k3 k4
      obtain ⟨K, hK⟩ : ∃ K : Int, ((1 + 5 * j : Nat) : Int) = K := ⟨_, rfl⟩
      have hK1 : 1 ≤ K := by omega
      have hK2 : K ≤ 5242881 := by omega
      have HKE := hide hK
      rw [hK] at k0 k1 k2 k3 k4 ⊢
      dsimp only [mkM] at k0 k1 k2 k3 k4
      have c0 := (hb.cell (p := ⟨b, off + j * 5, none⟩) hbs).trans k0
      have c1 := (hb.cell (p := ⟨b, off + j * 5 + 1, none⟩) hbs).trans k1
      have c2 := (hb.cell (p := ⟨b, off + j * 5 + 2, none⟩) hbs).trans k2
      have CM := hide (fun (W : World) => l_mtV (K + 1 + 1) W (by omega) (by omega))
      obtain ⟨T, hT⟩ : ∃ T, mkT (K + 1 + 1) = T := ⟨_, rfl⟩
      rw [hT] at c2 CM
      have XX : Hid (HSM w wr b (off + j * 5 + 2) T) := ⟨hb, hbs, c2⟩
      have HK3 := hide k3
      have HK4 := hide k4
      clear hc hb hT k0 k1 k2 k3 k4 hA hK c2
      go_wp2
      go_region_held3 (fun w' => HSM w w' b (off + j * 5 + 2) T ∧ w'.cell? ⟨b, off + j * 5 + 2, none⟩ = some (.string T)) (first | assumption | exact hsm_all (hsm_drew XX.out) | exact hsm_all XX.out) (first | (go_at_call 16; refine (CM.out _).mono ?_; rintro e w2 ⟨rfl, hb2⟩; have X2 := hide (hsm_go (hsm_drew XX.out) hb2); replace XX := X2; have c3 := (XX.out.1.cell (p := ⟨b, off + j * 5 + 3, none⟩) hbs).trans HK3.out; have c4 := (XX.out.1.cell (p := ⟨b, off + j * 5 + 4, none⟩) hbs).trans HK4.out; clear X2 hb2))
      all_goals
        go_wp2
        go_roundw
        case rel => exact ⟨j + 1, by omega, by go_num, congrArg (Value.int .i64) (by have := HKE.out; omega), XX.out.1⟩
        case measure => simp [intOf]; omega
    · have hkn : j = n := by omega
      subst hkn
      go_wp2
      go_ret
      exact ⟨rfl, hb⟩
end Go.Proofs.YtdbipaobanjbbaaDoor
