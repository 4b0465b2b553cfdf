/-
  Contracts: what a prefix is bound to, by the specification.
-/
import Derived.Test.YtogeicckbdfldaaDoorBnMath
namespace Go.Proofs.YtogeicckbdfldaaDoor
open Go.RowKit Go.Joins
set_option linter.unusedVariables false
set_option linter.unusedSimpArgs false
theorem bn_ret {a a' : ByteArray} {b b' : Bool} (h1 : a' = a) (h2 : b' = b) : Ending.returned (.tuple #[.string a, .bool b]) = .returned (.tuple #[.string a', .bool b']) := by rw [h1, h2]
theorem bn_nil : (⟨#[]⟩ : ByteArray).toList.isEmpty = true := by rw [ByteArray.toList_eq]; rfl
theorem bn_ext {a b : ByteArray} (h : a.toList = b.toList) : a = b := by
  rw [ByteArray.toList_eq, ByteArray.toList_eq] at h
  exact ByteArray.ext (Array.ext' h)
set_option maxRecDepth 100000 in
set_option maxHeartbeats 4000000 in
theorem s_bound (D : Dc) (n b off cap : Nat) (w : World) (x : Nat) (p : ByteArray) (hD : D.n = n) (hn : n ≤ 200) (hx : x < n) (hbs : b < w.heap.size) (hr : DcRow w b off D w.heap.size) (hdec : ∀ j, j < n → D.U j < j) (hulo : ∀ j, j < n → -1 ≤ D.U j) (hac : ∀ j, j < n → D.AC j ≤ 1048576) (hp : p.size ≤ 1048576) :
    Calls Tryd.prog 41 #[.slice (some ⟨b, off, none⟩) n cap, .int .i64 x, .string p] w fun e w' => e = .returned (.tuple #[.string (bnV D x p), .bool (bnK D x p)]) ∧ w' = w := by
  have HD := hide hD
  have HR := hide hr
  have HDEC := hide hdec
  have HU := hide hulo
  have HC := hide hac
  have hxn : (x : Int) < (n : Int) := by omega
  clear hr hD hdec hac hulo
  cases fx : (p.toList == [120, 109, 108])
  · cases fe : p.toList.isEmpty
    · obtain ⟨nm, hnm⟩ : ∃ nm : ByteArray, (⟨#[120, 109, 108, 110, 115, 58]⟩ : ByteArray) ++ p = nm := ⟨_, rfl⟩
      have hnn : bnN p = nm := by unfold bnN; rw [fe]; exact hnm
      have HV : Hid (bnV D x p = (bnR D nm x).getD ⟨#[]⟩ ∧ bnK D x p = (false || !((bnR D nm x).getD ⟨#[]⟩).toList.isEmpty)) := hide (by
        unfold bnV bnK
        rw [fx, if_neg (by decide), if_neg (by decide), hnn, fe]
        exact ⟨rfl, rfl⟩)
      obtain ⟨R, hR⟩ : ∃ R, bnR D nm x = R := ⟨_, rfl⟩
      rw [hR] at HV
      have HRR := hide hR
      clear hR hnn
      go_enter Tryd.func41, Tryd.ntmps41
      go_wp2
      go_loop [9] (fun av => ∃ a : Int, a < (n : Int) ∧ -9223372036854775808 ≤ a ∧ av = .int .i64 a ∧ Hid (bnR D nm a = R)) (fun av => (intOf av + 1).toNat)
      case atStart => exact ⟨x, by omega, by omega, rfl, HRR⟩
      case round =>
        obtain ⟨a, han, ham, rfl, HA⟩ := hrel
        by_cases h0 : 0 ≤ a
        · obtain ⟨k, rfl⟩ : ∃ k : Nat, a = k := ⟨a.toNat, by omega⟩
          have hkn : k < n := by omega
          obtain ⟨ad, cp, ⟨c0, c1, c2, c3⟩, hat, hcp⟩ := HR.out k (by rw [HD.out]; omega)
          have HAT := hide hat
          have hak := HC.out k hkn
          have hul := HU.out k hkn
          have hud := HDEC.out k hkn
          clear hat
          go_wp2
          go_loop [10] (fun iv => ∃ i : Nat, i ≤ D.AC k ∧ iv = .int .i64 i ∧ Hid (atF (D.AN k) nm (D.AC k - i) i = atF (D.AN k) nm (D.AC k) 0)) (fun iv => D.AC k - (intOf iv).toNat)
          case atStart => exact ⟨0, Nat.zero_le _, rfl, hide rfl⟩
          case round =>
            obtain ⟨i, hi, rfl, HF⟩ := hrel
            by_cases hlt : i < D.AC k
            · obtain ⟨bA, oA, rfl, hbA, hcA⟩ := HAT.out (by omega)
              obtain ⟨a0, a1⟩ := hcA i hlt
              clear hcA
              by_cases hN : D.AN k i = nm
              · have fN : ((D.AN k i).toList == nm.toList) = true := by rw [hN]; simp
                have HX : Hid (R = some (D.AV k i)) := hide (by rw [← HA.out]; exact bnR_hit (by rw [← HF.out]; exact atF_yes hlt hN))
                obtain ⟨V, hV⟩ : ∃ V, D.AV k i = V := ⟨_, rfl⟩
                rw [hV] at a1 HX
                clear hN hV
                cases hve : V.toList.isEmpty
                all_goals
                  go_wp2
                  go_ret2
                  exact ⟨bn_ret (by rw [HV.out.1, HX.out]; rfl) (by rw [HV.out.2, HX.out]; simp [hve]), rfl⟩
              · have fN : ((D.AN k i).toList == nm.toList) = false := by rw [beq_eq_false_iff_ne]; exact fun e => hN (bn_ext e)
                have HX := hide (HF.out.symm.trans (atF_no hlt hN))
                clear hN
                go_wp2
                go_round
                case rel => exact ⟨i + 1, by omega, by go_num, hide HX.out.symm⟩
                case measure => simp [intOf]; omega
            · have HX : Hid (bnR D nm (D.U k) = R) := hide (by
                rw [← HA.out]
                exact (bnR_up HDEC.out hkn (by rw [← HF.out]; exact atF_end (by omega))).symm)
              go_wp2
              go_round
              case rel => exact ⟨D.U k, by omega, by omega, rfl, HX⟩
              case measure => simp [intOf]; omega
        · have HX : Hid (R = none) := hide (by rw [← HA.out]; exact bnR_neg (by omega))
          go_wp2
          go_ret2
          exact ⟨bn_ret (by rw [HV.out.1, HX.out]; rfl) (by rw [HV.out.2, HX.out]; show (false || !((⟨#[]⟩ : ByteArray).toList.isEmpty)) = _; rw [bn_nil]; rfl), rfl⟩
    · obtain ⟨nm, hnm⟩ : ∃ nm : ByteArray, (⟨#[120, 109, 108, 110, 115]⟩ : ByteArray) = nm := ⟨_, rfl⟩
      have hnn : bnN p = nm := by unfold bnN; rw [fe]; exact hnm
      have hnl : nm.toList = [120, 109, 108, 110, 115] := by rw [← hnm, ByteArray.toList_eq]
      have HV : Hid (bnV D x p = (bnR D nm x).getD ⟨#[]⟩ ∧ bnK D x p = (true || !((bnR D nm x).getD ⟨#[]⟩).toList.isEmpty)) := hide (by
        unfold bnV bnK
        rw [fx, if_neg (by decide), if_neg (by decide), hnn, fe]
        exact ⟨rfl, rfl⟩)
      obtain ⟨R, hR⟩ : ∃ R, bnR D nm x = R := ⟨_, rfl⟩
      rw [hR] at HV
      have HRR := hide hR
      have HNL := hide hnl
      clear hR hnn hnm hnl
      go_enter Tryd.func41, Tryd.ntmps41
      go_wp2
      go_loop [9] (fun av => ∃ a : Int, a < (n : Int) ∧ -9223372036854775808 ≤ a ∧ av = .int .i64 a ∧ Hid (bnR D nm a = R)) (fun av => (intOf av + 1).toNat)
      case atStart => exact ⟨x, by omega, by omega, rfl, HRR⟩
      case round =>
        obtain ⟨a, han, ham, rfl, HA⟩ := hrel
        by_cases h0 : 0 ≤ a
        · obtain ⟨k, rfl⟩ : ∃ k : Nat, a = k := ⟨a.toNat, by omega⟩
          have hkn : k < n := by omega
          obtain ⟨ad, cp, ⟨c0, c1, c2, c3⟩, hat, hcp⟩ := HR.out k (by rw [HD.out]; omega)
          have HAT := hide hat
          have hak := HC.out k hkn
          have hul := HU.out k hkn
          have hud := HDEC.out k hkn
          clear hat
          go_wp2
          go_loop [10] (fun iv => ∃ i : Nat, i ≤ D.AC k ∧ iv = .int .i64 i ∧ Hid (atF (D.AN k) nm (D.AC k - i) i = atF (D.AN k) nm (D.AC k) 0)) (fun iv => D.AC k - (intOf iv).toNat)
          case atStart => exact ⟨0, Nat.zero_le _, rfl, hide rfl⟩
          case round =>
            obtain ⟨i, hi, rfl, HF⟩ := hrel
            by_cases hlt : i < D.AC k
            · obtain ⟨bA, oA, rfl, hbA, hcA⟩ := HAT.out (by omega)
              obtain ⟨a0, a1⟩ := hcA i hlt
              clear hcA
              by_cases hN : D.AN k i = nm
              · have fN : ((D.AN k i).toList == [120, 109, 108, 110, 115]) = true := by rw [hN, HNL.out]; rfl
                have HX : Hid (R = some (D.AV k i)) := hide (by rw [← HA.out]; exact bnR_hit (by rw [← HF.out]; exact atF_yes hlt hN))
                obtain ⟨V, hV⟩ : ∃ V, D.AV k i = V := ⟨_, rfl⟩
                rw [hV] at a1 HX
                clear hN hV
                cases hve : V.toList.isEmpty
                all_goals
                  go_wp2
                  go_ret2
                  exact ⟨bn_ret (by rw [HV.out.1, HX.out]; rfl) (by rw [HV.out.2, HX.out]; simp [hve]), rfl⟩
              · have fN : ((D.AN k i).toList == [120, 109, 108, 110, 115]) = false := by rw [beq_eq_false_iff_ne]; exact fun e => hN (bn_ext (e.trans HNL.out.symm))
                have HX := hide (HF.out.symm.trans (atF_no hlt hN))
                clear hN
                go_wp2
                go_round
                case rel => exact ⟨i + 1, by omega, by go_num, hide HX.out.symm⟩
                case measure => simp [intOf]; omega
            · have HX : Hid (bnR D nm (D.U k) = R) := hide (by
                rw [← HA.out]
                exact (bnR_up HDEC.out hkn (by rw [← HF.out]; exact atF_end (by omega))).symm)
              go_wp2
              go_round
              case rel => exact ⟨D.U k, by omega, by omega, rfl, HX⟩
              case measure => simp [intOf]; omega
        · have HX : Hid (R = none) := hide (by rw [← HA.out]; exact bnR_neg (by omega))
          go_wp2
          go_ret2
          exact ⟨bn_ret (by rw [HV.out.1, HX.out]; rfl) (by rw [HV.out.2, HX.out]; show (true || !((⟨#[]⟩ : ByteArray).toList.isEmpty)) = _; rw [bn_nil]; rfl), rfl⟩

  · have HV : Hid (bnV D x p = xmlV ∧ bnK D x p = true) := hide (by unfold bnV bnK; rw [fx]; exact ⟨rfl, rfl⟩)
    go_enter Tryd.func41, Tryd.ntmps41
    go_wp2
    go_ret2
    exact ⟨bn_ret HV.out.1 HV.out.2, rfl⟩
end Go.Proofs.YtogeicckbdfldaaDoor
