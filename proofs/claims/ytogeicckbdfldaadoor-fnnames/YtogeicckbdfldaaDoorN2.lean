/-
  Texts put together: DocPl, BnMath, BnS, Names.
-/
import Derived.Test.YtogeicckbdfldaaDoorN1
import Derived.Deep.DeepCutAuto
import Derived.Test.YtogeicckbdfldaaDoorChecked
import Derived.WalkKit
import Derived.Below
/-
  Contracts: how deep an item stands, by the specification and by the program; the program's look at an item's place.
-/
namespace Go.Proofs.YtogeicckbdfldaaDoor
open Go.RowKit Go.Joins
set_option linter.unusedVariables false
set_option linter.unusedSimpArgs false
theorem int_nat {a : Int} (h : 0 ≤ a) : Value.int .i64 a = .int .i64 (a.toNat : Int) := by rw [show (a.toNat : Int) = a by omega]
set_option maxHeartbeats 1000000 in
theorem s_deep (D : Dc) (n b off cap : Nat) (w : World) (B : Nat) (i : Nat) (hD : D.n = n) (hn : n ≤ 200) (hi : i < n) (hr : DcRow w b off D B) (hdec : ∀ j : Nat, j ≤ i → -1 ≤ D.U j ∧ D.U j < j) :
    Calls Tryd.prog 47 #[.slice (some ⟨b, off, none⟩) n cap, .int .i64 i] w fun e w' => e = .returned (.int .i64 (dp D.U (D.U i))) ∧ w' = w := by
  have HD := hide hD
  have HR := hide hr
  have HC := hide hdec
  have hle := dp_le D.U (a := D.U i)
  have hui := (hdec i (Nat.le_refl _)).2
  obtain ⟨T, hT⟩ : ∃ T, dp D.U (D.U i) = T := ⟨_, rfl⟩
  have HT := hide hT
  rw [hT] at hle ⊢
  have hT2 : T ≤ 201 := by omega
  clear hr hdec hD hT hle hui
  go_enter Tryd.func47, Tryd.ntmps47
  go_wp2
  go_loop [1, 5] (fun a d => ∃ (m q : Nat), a = .int .i64 m ∧ m ≤ i ∧ d = .int .i64 q ∧ Hid (q + dp D.U (D.U m) = T)) (fun a _ => (intOf a).toNat)
  case atStart => exact ⟨i, 0, rfl, Nat.le_refl _, rfl, by rw [HT.out]; exact Nat.zero_add T⟩
  case round =>
    obtain ⟨m, q, rfl, hm, rfl, HQ⟩ := hrel
    obtain ⟨ad, cp, ⟨c0, -⟩, -⟩ := HR.out m (by rw [HD.out]; omega)
    have hq : q ≤ 201 := by have := HQ.out; omega
    obtain ⟨u, hu⟩ : ∃ u, D.U m = u := ⟨_, rfl⟩
    obtain ⟨d1, d2⟩ := HC.out m hm
    rw [hu] at c0 d1 d2
    have hmn : (m : Int) < (n : Int) := by omega
    by_cases h0 : 0 ≤ u
    · have HS : Hid (dp D.U u = dp D.U (D.U u.toNat) + 1) := hide (dp_step D.U h0 (fun j hj => (HC.out j (by omega)).2))
      have HU := hide hu
      clear hu
      go_wp2
      go_round
      case rel => exact ⟨u.toNat, q + 1, int_nat h0, by omega, by go_num, by have := HQ.out; rw [HU.out, HS.out] at this; show q + 1 + _ = T; omega⟩
      case measure => simp [intOf]; omega
    · have HQ2 : Hid (q = T) := hide (by have := HQ.out; rw [hu, dp_neg D.U (by omega)] at this; omega)
      clear hu
      go_wp2
      go_ret
      exact ⟨ret_iI (by rw [HQ2.out]), rfl⟩
set_option maxHeartbeats 1000000 in
theorem i_count (D : Dc) (n b off cap : Nat) (w : World) (B : Nat) (up : Int) (nm tx : ByteArray) (ad : Option Addr) (ac cp : Nat) (hD : D.n = n) (hn : n ≤ 200) (hu : -1 ≤ up ∧ up < n) (hb : b < w.heap.size) (hr : DcRow w b off D w.heap.size) (hdec : ∀ j : Nat, (j : Int) ≤ up → -1 ≤ D.U j ∧ D.U j < j) :
    Calls Tryd.prog 56 #[.slice (some ⟨b, off, none⟩) n cap, .agg #[.int .i64 up, .string nm, .string tx, .slice ad ac cp]] w fun e w' => e = .returned (.int .i64 (dp D.U up)) ∧ Below w.heap.size w w' := by
  have HD := hide hD
  have HC := hide hdec
  have HR := hide (dcRow_go hr hb ((Below.refl _ _).alloc (Nat.le_refl _) (.cells #[.int .i64 up, .string nm, .string tx, .slice ad ac cp] 34)))
  have hle := dp_le D.U (a := up)
  obtain ⟨T, hT⟩ : ∃ T, dp D.U up = T := ⟨_, rfl⟩
  have HT := hide hT
  rw [hT] at hle ⊢
  have hT2 : T ≤ 201 := by omega
  clear hdec hD hT hle hr
  go_enter Tryd.func56, Tryd.ntmps56
  go_wp2
  go_loop [5, 6] (fun d a => ∃ (q : Nat) (x : Int), d = .int .i64 q ∧ a = .int .i64 x ∧ -1 ≤ x ∧ x ≤ up ∧ Hid (q + dp D.U x = T)) (fun _ a => (intOf a + 1).toNat)
  case atStart => exact ⟨0, up, rfl, rfl, by omega, Int.le_refl _, by rw [HT.out]; exact Nat.zero_add T⟩
  case round =>
    obtain ⟨q, x, rfl, rfl, hx0, hx1, HQ⟩ := hrel
    have hq : q ≤ 201 := by have := HQ.out; omega
    by_cases h0 : 0 ≤ x
    · obtain ⟨ad9, cp9, ⟨c0, -⟩, -⟩ := HR.out x.toNat (by rw [HD.out]; omega)
      obtain ⟨u, hu9⟩ : ∃ u, D.U x.toNat = u := ⟨_, rfl⟩
      obtain ⟨d1, d2⟩ := HC.out x.toNat (by omega)
      have HS : Hid (dp D.U x = dp D.U u + 1) := hide (by rw [← hu9]; exact dp_step D.U h0 (fun j hj => (HC.out j (by omega)).2))
      rw [hu9] at c0 d1 d2
      have hx2 : (x != -1) = true := by simp; omega
      have hxn : x < (n : Int) := by omega
      clear hu9
      go_wp2
      go_round
      case rel => exact ⟨q + 1, u, by go_num, rfl, d1, by omega, by have := HQ.out; rw [HS.out] at this; show q + 1 + _ = T; omega⟩
      case measure => simp [intOf]; omega
    · have hx9 : x = -1 := by omega
      subst hx9
      have HQ2 : Hid (q = T) := hide (by have := HQ.out; rw [dp_neg D.U (by omega)] at this; omega)
      go_wp2
      go_ret
      exact ⟨ret_iI (by rw [HQ2.out]), (Below.refl _ _).alloc (Nat.le_refl _) _⟩
end Go.Proofs.YtogeicckbdfldaaDoor

/-
  Names: what a prefix is bound to at an item. No step of the program in this text.
-/
namespace Go.Proofs.YtogeicckbdfldaaDoor
open Go.RowKit Go.Joins
set_option linter.unusedVariables false
set_option linter.unusedSimpArgs false
/-- The first of f attributes from i on that has the name. -/
def atF (N : Nat → ByteArray) (nm : ByteArray) : Nat → Nat → Option Nat
  | 0, _ => none
  | f + 1, i => if N i = nm then some i else atF N nm f (i + 1)
theorem atF_yes {N : Nat → ByteArray} {nm : ByteArray} {n i : Nat} (h : i < n) (hn : N i = nm) : atF N nm (n - i) i = some i := by
  rw [show n - i = (n - (i + 1)) + 1 by omega, atF, if_pos hn]
theorem atF_no {N : Nat → ByteArray} {nm : ByteArray} {n i : Nat} (h : i < n) (hn : N i ≠ nm) : atF N nm (n - i) i = atF N nm (n - (i + 1)) (i + 1) := by
  rw [show n - i = (n - (i + 1)) + 1 by omega, atF, if_neg hn]
theorem atF_end {N : Nat → ByteArray} {nm : ByteArray} {n i : Nat} (h : n ≤ i) : atF N nm (n - i) i = none := by
  rw [show n - i = 0 by omega, atF]
/-- What the name's binding says, from the item at on upwards. -/
def bnW (D : Dc) (nm : ByteArray) : Nat → Int → Option ByteArray
  | 0, _ => none
  | f + 1, at' => if at' < 0 then none else match atF (D.AN at'.toNat) nm (D.AC at'.toNat) 0 with | some i => some (D.AV at'.toNat i) | none => bnW D nm f (D.U at'.toNat)
theorem bnW_neg {D : Dc} {nm : ByteArray} {f : Nat} {a : Int} (h : a < 0) : bnW D nm f a = none := by
  cases f with
  | zero => rfl
  | succ f => rw [bnW, if_pos h]
theorem bnW_fuel {D : Dc} {nm : ByteArray} {n : Nat} (hdec : ∀ j, j < n → D.U j < j) : ∀ (f g : Nat) (a : Int), a < n → (a + 1).toNat ≤ f → (a + 1).toNat ≤ g → bnW D nm f a = bnW D nm g a
  | 0, g, a, ha, hf, hg => by rw [bnW_neg (by omega), bnW_neg (by omega)]
  | f + 1, 0, a, ha, hf, hg => by rw [bnW_neg (by omega), bnW_neg (by omega)]
  | f + 1, g + 1, a, ha, hf, hg => by
    by_cases h0 : a < 0
    · rw [bnW_neg h0, bnW_neg h0]
    · rw [bnW, bnW, if_neg h0, if_neg h0]
      have hd := hdec a.toNat (by omega)
      cases atF (D.AN a.toNat) nm (D.AC a.toNat) 0 with
      | some i => rfl
      | none => exact bnW_fuel hdec f g _ (by omega) (by omega) (by omega)
def bnR (D : Dc) (nm : ByteArray) (a : Int) : Option ByteArray := bnW D nm (a + 1).toNat a
theorem bnR_neg {D : Dc} {nm : ByteArray} {a : Int} (h : a < 0) : bnR D nm a = none := bnW_neg h
theorem bnR_hit {D : Dc} {nm : ByteArray} {k i : Nat} (h : atF (D.AN k) nm (D.AC k) 0 = some i) : bnR D nm k = some (D.AV k i) := by
  unfold bnR
  rw [show ((k : Int) + 1).toNat = k + 1 by omega, bnW, if_neg (by omega), Int.toNat_natCast, h]
theorem bnR_up {D : Dc} {nm : ByteArray} {n k : Nat} (hdec : ∀ j, j < n → D.U j < j) (hk : k < n) (h : atF (D.AN k) nm (D.AC k) 0 = none) : bnR D nm k = bnR D nm (D.U k) := by
  have hd := hdec k hk
  unfold bnR
  rw [show ((k : Int) + 1).toNat = k + 1 by omega, bnW, if_neg (by omega), Int.toNat_natCast, h]
  exact bnW_fuel hdec _ _ _ (by omega) (by omega) (by omega)
def xmlV : ByteArray := ⟨#[104, 116, 116, 112, 58, 47, 47, 119, 119, 119, 46, 119, 51, 46, 111, 114, 103, 47, 88, 77, 76, 47, 49, 57, 57, 56, 47, 110, 97, 109, 101, 115, 112, 97, 99, 101]⟩
def bnN (p : ByteArray) : ByteArray := if p.toList.isEmpty then ⟨#[120, 109, 108, 110, 115]⟩ else ⟨#[120, 109, 108, 110, 115, 58]⟩ ++ p
def bnV (D : Dc) (x : Int) (p : ByteArray) : ByteArray := if p.toList == [120, 109, 108] then xmlV else (bnR D (bnN p) x).getD ⟨#[]⟩
def bnK (D : Dc) (x : Int) (p : ByteArray) : Bool := if p.toList == [120, 109, 108] then true else p.toList.isEmpty || !((bnR D (bnN p) x).getD ⟨#[]⟩).toList.isEmpty
end Go.Proofs.YtogeicckbdfldaaDoor

/-
  Contracts: what a prefix is bound to, by the specification.
-/
namespace Go.Proofs.YtogeicckbdfldaaDoor
open Go.RowKit Go.Joins
set_option linter.unusedVariables false
set_option linter.unusedSimpArgs false
theorem bn_ret {a a' : ByteArray} {b b' : Bool} (h1 : a' = a) (h2 : b' = b) : Ending.returned (.tuple #[.string a, .bool b]) = .returned (.tuple #[.string a', .bool b']) := by rw [h1, h2]
theorem bn_nil : (⟨#[]⟩ : ByteArray).toList.isEmpty = true := by rw [ByteArray.toList_eq]; rfl
theorem bn_ext {a b : ByteArray} (h : a.toList = b.toList) : a = b := by
  rw [ByteArray.toList_eq, ByteArray.toList_eq] at h
  exact ByteArray.ext (Array.ext' h)
set_option maxRecDepth 100000 in
set_option maxHeartbeats 4000000 in
theorem s_bound (D : Dc) (n b off cap : Nat) (w : World) (x : Nat) (p : ByteArray) (hD : D.n = n) (hn : n ≤ 200) (hx : x < n) (hbs : b < w.heap.size) (hr : DcRow w b off D w.heap.size) (hdec : ∀ j, j < n → D.U j < j) (hulo : ∀ j, j < n → -1 ≤ D.U j) (hac : ∀ j, j < n → D.AC j ≤ 1048576) (hp : p.size ≤ 1048576) :
    Calls Tryd.prog 41 #[.slice (some ⟨b, off, none⟩) n cap, .int .i64 x, .string p] w fun e w' => e = .returned (.tuple #[.string (bnV D x p), .bool (bnK D x p)]) ∧ w' = w := by
  have HD := hide hD
  have HR := hide hr
  have HDEC := hide hdec
  have HU := hide hulo
  have HC := hide hac
  have hxn : (x : Int) < (n : Int) := by omega
  clear hr hD hdec hac hulo
  cases fx : (p.toList == [120, 109, 108])
  · cases fe : p.toList.isEmpty
    · obtain ⟨nm, hnm⟩ : ∃ nm : ByteArray, (⟨#[120, 109, 108, 110, 115, 58]⟩ : ByteArray) ++ p = nm := ⟨_, rfl⟩
      have hnn : bnN p = nm := by unfold bnN; rw [fe]; exact hnm
      have HV : Hid (bnV D x p = (bnR D nm x).getD ⟨#[]⟩ ∧ bnK D x p = (false || !((bnR D nm x).getD ⟨#[]⟩).toList.isEmpty)) := hide (by
        unfold bnV bnK
        rw [fx, if_neg (by decide), if_neg (by decide), hnn, fe]
        exact ⟨rfl, rfl⟩)
      obtain ⟨R, hR⟩ : ∃ R, bnR D nm x = R := ⟨_, rfl⟩
      rw [hR] at HV
      have HRR := hide hR
      clear hR hnn
      go_enter Tryd.func41, Tryd.ntmps41
      go_wp2
      go_loop [9] (fun av => ∃ a : Int, a < (n : Int) ∧ -9223372036854775808 ≤ a ∧ av = .int .i64 a ∧ Hid (bnR D nm a = R)) (fun av => (intOf av + 1).toNat)
      case atStart => exact ⟨x, by omega, by omega, rfl, HRR⟩
      case round =>
        obtain ⟨a, han, ham, rfl, HA⟩ := hrel
        by_cases h0 : 0 ≤ a
        · obtain ⟨k, rfl⟩ : ∃ k : Nat, a = k := ⟨a.toNat, by omega⟩
          have hkn : k < n := by omega
          obtain ⟨ad, cp, ⟨c0, c1, c2, c3⟩, hat, hcp⟩ := HR.out k (by rw [HD.out]; omega)
          have HAT := hide hat
          have hak := HC.out k hkn
          have hul := HU.out k hkn
          have hud := HDEC.out k hkn
          clear hat
          go_wp2
          go_loop [10] (fun iv => ∃ i : Nat, i ≤ D.AC k ∧ iv = .int .i64 i ∧ Hid (atF (D.AN k) nm (D.AC k - i) i = atF (D.AN k) nm (D.AC k) 0)) (fun iv => D.AC k - (intOf iv).toNat)
          case atStart => exact ⟨0, Nat.zero_le _, rfl, hide rfl⟩
          case round =>
            obtain ⟨i, hi, rfl, HF⟩ := hrel
            by_cases hlt : i < D.AC k
            · obtain ⟨bA, oA, rfl, hbA, hcA⟩ := HAT.out (by omega)
              obtain ⟨a0, a1⟩ := hcA i hlt
              clear hcA
              by_cases hN : D.AN k i = nm
              · have fN : ((D.AN k i).toList == nm.toList) = true := by rw [hN]; simp
                have HX : Hid (R = some (D.AV k i)) := hide (by rw [← HA.out]; exact bnR_hit (by rw [← HF.out]; exact atF_yes hlt hN))
                obtain ⟨V, hV⟩ : ∃ V, D.AV k i = V := ⟨_, rfl⟩
                rw [hV] at a1 HX
                clear hN hV
                cases hve : V.toList.isEmpty
                all_goals
                  go_wp2
                  go_ret2
                  exact ⟨bn_ret (by rw [HV.out.1, HX.out]; rfl) (by rw [HV.out.2, HX.out]; simp [hve]), rfl⟩
              · have fN : ((D.AN k i).toList == nm.toList) = false := by rw [beq_eq_false_iff_ne]; exact fun e => hN (bn_ext e)
                have HX := hide (HF.out.symm.trans (atF_no hlt hN))
                clear hN
                go_wp2
                go_round
                case rel => exact ⟨i + 1, by omega, by go_num, hide HX.out.symm⟩
                case measure => simp [intOf]; omega
            · have HX : Hid (bnR D nm (D.U k) = R) := hide (by
                rw [← HA.out]
                exact (bnR_up HDEC.out hkn (by rw [← HF.out]; exact atF_end (by omega))).symm)
              go_wp2
              go_round
              case rel => exact ⟨D.U k, by omega, by omega, rfl, HX⟩
              case measure => simp [intOf]; omega
        · have HX : Hid (R = none) := hide (by rw [← HA.out]; exact bnR_neg (by omega))
          go_wp2
          go_ret2
          exact ⟨bn_ret (by rw [HV.out.1, HX.out]; rfl) (by rw [HV.out.2, HX.out]; show (false || !((⟨#[]⟩ : ByteArray).toList.isEmpty)) = _; rw [bn_nil]; rfl), rfl⟩
    · obtain ⟨nm, hnm⟩ : ∃ nm : ByteArray, (⟨#[120, 109, 108, 110, 115]⟩ : ByteArray) = nm := ⟨_, rfl⟩
      have hnn : bnN p = nm := by unfold bnN; rw [fe]; exact hnm
      have hnl : nm.toList = [120, 109, 108, 110, 115] := by rw [← hnm, ByteArray.toList_eq]
      have HV : Hid (bnV D x p = (bnR D nm x).getD ⟨#[]⟩ ∧ bnK D x p = (true || !((bnR D nm x).getD ⟨#[]⟩).toList.isEmpty)) := hide (by
        unfold bnV bnK
        rw [fx, if_neg (by decide), if_neg (by decide), hnn, fe]
        exact ⟨rfl, rfl⟩)
      obtain ⟨R, hR⟩ : ∃ R, bnR D nm x = R := ⟨_, rfl⟩
      rw [hR] at HV
      have HRR := hide hR
      have HNL := hide hnl
      clear hR hnn hnm hnl
      go_enter Tryd.func41, Tryd.ntmps41
      go_wp2
      go_loop [9] (fun av => ∃ a : Int, a < (n : Int) ∧ -9223372036854775808 ≤ a ∧ av = .int .i64 a ∧ Hid (bnR D nm a = R)) (fun av => (intOf av + 1).toNat)
      case atStart => exact ⟨x, by omega, by omega, rfl, HRR⟩
      case round =>
        obtain ⟨a, han, ham, rfl, HA⟩ := hrel
        by_cases h0 : 0 ≤ a
        · obtain ⟨k, rfl⟩ : ∃ k : Nat, a = k := ⟨a.toNat, by omega⟩
          have hkn : k < n := by omega
          obtain ⟨ad, cp, ⟨c0, c1, c2, c3⟩, hat, hcp⟩ := HR.out k (by rw [HD.out]; omega)
          have HAT := hide hat
          have hak := HC.out k hkn
          have hul := HU.out k hkn
          have hud := HDEC.out k hkn
          clear hat
          go_wp2
          go_loop [10] (fun iv => ∃ i : Nat, i ≤ D.AC k ∧ iv = .int .i64 i ∧ Hid (atF (D.AN k) nm (D.AC k - i) i = atF (D.AN k) nm (D.AC k) 0)) (fun iv => D.AC k - (intOf iv).toNat)
          case atStart => exact ⟨0, Nat.zero_le _, rfl, hide rfl⟩
          case round =>
            obtain ⟨i, hi, rfl, HF⟩ := hrel
            by_cases hlt : i < D.AC k
            · obtain ⟨bA, oA, rfl, hbA, hcA⟩ := HAT.out (by omega)
              obtain ⟨a0, a1⟩ := hcA i hlt
              clear hcA
              by_cases hN : D.AN k i = nm
              · have fN : ((D.AN k i).toList == [120, 109, 108, 110, 115]) = true := by rw [hN, HNL.out]; rfl
                have HX : Hid (R = some (D.AV k i)) := hide (by rw [← HA.out]; exact bnR_hit (by rw [← HF.out]; exact atF_yes hlt hN))
                obtain ⟨V, hV⟩ : ∃ V, D.AV k i = V := ⟨_, rfl⟩
                rw [hV] at a1 HX
                clear hN hV
                cases hve : V.toList.isEmpty
                all_goals
                  go_wp2
                  go_ret2
                  exact ⟨bn_ret (by rw [HV.out.1, HX.out]; rfl) (by rw [HV.out.2, HX.out]; simp [hve]), rfl⟩
              · have fN : ((D.AN k i).toList == [120, 109, 108, 110, 115]) = false := by rw [beq_eq_false_iff_ne]; exact fun e => hN (bn_ext (e.trans HNL.out.symm))
                have HX := hide (HF.out.symm.trans (atF_no hlt hN))
                clear hN
                go_wp2
                go_round
                case rel => exact ⟨i + 1, by omega, by go_num, hide HX.out.symm⟩
                case measure => simp [intOf]; omega
            · have HX : Hid (bnR D nm (D.U k) = R) := hide (by
                rw [← HA.out]
                exact (bnR_up HDEC.out hkn (by rw [← HF.out]; exact atF_end (by omega))).symm)
              go_wp2
              go_round
              case rel => exact ⟨D.U k, by omega, by omega, rfl, HX⟩
              case measure => simp [intOf]; omega
        · have HX : Hid (R = none) := hide (by rw [← HA.out]; exact bnR_neg (by omega))
          go_wp2
          go_ret2
          exact ⟨bn_ret (by rw [HV.out.1, HX.out]; rfl) (by rw [HV.out.2, HX.out]; show (true || !((⟨#[]⟩ : ByteArray).toList.isEmpty)) = _; rw [bn_nil]; rfl), rfl⟩

  · have HV : Hid (bnV D x p = xmlV ∧ bnK D x p = true) := hide (by unfold bnV bnK; rw [fx]; exact ⟨rfl, rfl⟩)
    go_enter Tryd.func41, Tryd.ntmps41
    go_wp2
    go_ret2
    exact ⟨bn_ret HV.out.1 HV.out.2, rfl⟩
end Go.Proofs.YtogeicckbdfldaaDoor

/-
  Contracts: what the specification's and the program's NameOk and their helpers answer at every byte and every string of at most maxLen bytes; the world is as it was.
-/
namespace Go.Proofs.YtogeicckbdfldaaDoor
open Go.RowKit
set_option linter.unusedSimpArgs false
theorem cases_digit (c : Int) : c ≤ 47 ∨ (48 ≤ c ∧ c ≤ 57) ∨ 58 ≤ c := by omega
set_option linter.unusedVariables false

theorem cases_byte (c : Int) : c ≤ 44 ∨ c = 45 ∨ c = 46 ∨ c = 47 ∨ (48 ≤ c ∧ c ≤ 57) ∨ (58 ≤ c ∧ c ≤ 64) ∨ (65 ≤ c ∧ c ≤ 90) ∨ (91 ≤ c ∧ c ≤ 94) ∨ c = 95 ∨ c = 96 ∨ (97 ≤ c ∧ c ≤ 122) ∨ 123 ≤ c := by omega
theorem cases_first (c : Int) : c ≤ 64 ∨ (65 ≤ c ∧ c ≤ 90) ∨ (91 ≤ c ∧ c ≤ 94) ∨ c = 95 ∨ c = 96 ∨ (97 ≤ c ∧ c ≤ 122) ∨ 123 ≤ c := by omega

set_option maxHeartbeats 2000000 in
theorem s_first (c : Int) (w : World) : Calls Tryd.prog 76 #[.int .u8 c] w fun e w' => e = .returned (.bool (firstB c)) ∧ w' = w := by
  rcases cases_first c with h | ⟨h, h'⟩ | ⟨h, h'⟩ | h | h | ⟨h, h'⟩ | h
  all_goals
    try subst h
    go_enter Tryd.func76, Tryd.ntmps76
    go_wp2
    go_ret
    exact ⟨ret_bool (by first | decide | (rw [Bool.eq_iff_iff]; simp only [firstB, Bool.or_eq_true, Bool.and_eq_true, decide_eq_true_eq, beq_iff_eq, true_iff, false_iff, iff_true, iff_false, Bool.false_eq_true]; omega)), rfl⟩
set_option maxHeartbeats 2000000 in
theorem i_first (c : Int) (w : World) : Calls Tryd.prog 66 #[.int .u8 c] w fun e w' => e = .returned (.bool (firstB c)) ∧ w' = w := by
  rcases cases_first c with h | ⟨h, h'⟩ | ⟨h, h'⟩ | h | h | ⟨h, h'⟩ | h
  all_goals
    try subst h
    go_enter Tryd.func66, Tryd.ntmps66
    go_wp2
    go_ret
    exact ⟨ret_bool (by first | decide | (rw [Bool.eq_iff_iff]; simp only [firstB, Bool.or_eq_true, Bool.and_eq_true, decide_eq_true_eq, beq_iff_eq, true_iff, false_iff, iff_true, iff_false, Bool.false_eq_true]; omega)), rfl⟩
set_option maxHeartbeats 2000000 in
theorem s_digit (c : Int) (w : World) : Calls Tryd.prog 83 #[.int .u8 c] w fun e w' => e = .returned (.bool (digitB c)) ∧ w' = w := by
  rcases cases_digit c with h | ⟨h, h'⟩ | h
  all_goals
    try subst h
    go_enter Tryd.func83, Tryd.ntmps83
    go_wp2
    go_ret
    exact ⟨ret_bool (by first | decide | (rw [Bool.eq_iff_iff]; simp only [digitB, Bool.or_eq_true, Bool.and_eq_true, decide_eq_true_eq, beq_iff_eq, true_iff, false_iff, iff_true, iff_false, Bool.false_eq_true]; omega)), rfl⟩
set_option maxHeartbeats 2000000 in
theorem s_more (c : Int) (w : World) : Calls Tryd.prog 77 #[.int .u8 c] w fun e w' => e = .returned (.bool (moreB c)) ∧ w' = w := by
  rcases cases_byte c with h | h | h | h | ⟨h, h'⟩ | ⟨h, h'⟩ | ⟨h, h'⟩ | ⟨h, h'⟩ | h | h | ⟨h, h'⟩ | h
  all_goals
    try subst h
    go_enter Tryd.func77, Tryd.ntmps77
    go_wp2
    go_ret
    exact ⟨ret_bool (by first | decide | (rw [Bool.eq_iff_iff]; simp only [moreB, Bool.or_eq_true, Bool.and_eq_true, decide_eq_true_eq, beq_iff_eq, true_iff, false_iff, iff_true, iff_false, Bool.false_eq_true]; omega)), rfl⟩
set_option maxHeartbeats 2000000 in
theorem i_more (c : Int) (w : World) : Calls Tryd.prog 67 #[.int .u8 c] w fun e w' => e = .returned (.bool (moreB c)) ∧ w' = w := by
  rcases cases_byte c with h | h | h | h | ⟨h, h'⟩ | ⟨h, h'⟩ | ⟨h, h'⟩ | ⟨h, h'⟩ | h | h | ⟨h, h'⟩ | h
  all_goals
    try subst h
    go_enter Tryd.func67, Tryd.ntmps67
    go_wp2
    go_ret
    exact ⟨ret_bool (by first | decide | (rw [Bool.eq_iff_iff]; simp only [moreB, Bool.or_eq_true, Bool.and_eq_true, decide_eq_true_eq, beq_iff_eq, true_iff, false_iff, iff_true, iff_false, Bool.false_eq_true]; omega)), rfl⟩
set_option maxHeartbeats 1000000 in
theorem s_name (s : ByteArray) (w : World) (hs : s.size ≤ maxLen) : Calls Tryd.prog 64 #[.string s] w fun e w' => e = .returned (.bool (nameB s)) ∧ w' = w := by
  unfold maxLen at hs
  by_cases h0 : s.size = 0
  · go_enter Tryd.func64, Tryd.ntmps64
    go_wp2
    go_ret
    exact ⟨ret_bool (nameB_none s h0).symm, rfl⟩
  · by_cases h40 : 40 < s.size
    · go_enter Tryd.func64, Tryd.ntmps64
      go_wp2
      go_ret
      exact ⟨ret_bool (nameB_long s h40).symm, rfl⟩
    · have hp : 0 < s.size := by omega
      cases hf : firstB (s[0].toNat : Int)
      · go_enter Tryd.func64, Tryd.ntmps64
        go_wp2_with (go_at_call 76; refine (s_first _ _).mono ?_; rintro e w' ⟨rfl, rfl⟩)
        go_ret
        exact ⟨ret_bool (nameB_first s hp hf).symm, rfl⟩
      · go_enter Tryd.func64, Tryd.ntmps64
        go_wp2_with (go_at_call 76; refine (s_first _ _).mono ?_; rintro e w' ⟨rfl, rfl⟩)
        go_loop [3] (fun i => ∃ k : Nat, 1 ≤ k ∧ k ≤ s.size ∧ i = .int .i64 k ∧ ∀ j (h : j < s.size), 1 ≤ j → j < k → moreB (s[j].toNat : Int) = true) (fun i => s.size - (intOf i).toNat)
        case atStart => exact ⟨1, by omega, by omega, rfl, fun j h a b => by omega⟩
        case round =>
          obtain ⟨k, h1, hk, rfl, hm⟩ := hrel
          have HM : Hid (∀ j (h : j < s.size), 1 ≤ j → j < k → moreB (s[j].toNat : Int) = true) := hm
          clear hm
          by_cases hlt : k < s.size
          · cases hb : moreB (s[k].toNat : Int)
            · go_wp2_with (go_at_call 77; refine (s_more _ _).mono ?_; rintro e w' ⟨rfl, rfl⟩)
              go_ret
              exact ⟨ret_bool (nameB_more s k h1 hlt hb).symm, rfl⟩
            · go_wp2_with (go_at_call 77; refine (s_more _ _).mono ?_; rintro e w' ⟨rfl, rfl⟩)
              go_round
              case rel =>
                refine ⟨k + 1, by omega, by omega, by go_num, fun j h a b => ?_⟩
                by_cases e : j = k
                · subst e; exact hb
                · exact HM.out j h a (by omega)
              case measure => simp [intOf]; omega
          · go_wp2
            go_ret
            exact ⟨ret_bool (nameB_yes s hp (by omega) hf (fun j h a => HM.out j h a (by omega))).symm, rfl⟩
set_option maxHeartbeats 1000000 in
theorem i_name (s : ByteArray) (w : World) (hs : s.size ≤ maxLen) : Calls Tryd.prog 44 #[.string s] w fun e w' => e = .returned (.bool (nameB s)) ∧ w' = w := by
  unfold maxLen at hs
  by_cases h0 : s.size = 0
  · go_enter Tryd.func44, Tryd.ntmps44
    go_wp2
    go_ret
    exact ⟨ret_bool (nameB_none s h0).symm, rfl⟩
  · by_cases h40 : 40 < s.size
    · go_enter Tryd.func44, Tryd.ntmps44
      go_wp2
      go_ret
      exact ⟨ret_bool (nameB_long s h40).symm, rfl⟩
    · have hp : 0 < s.size := by omega
      cases hf : firstB (s[0].toNat : Int)
      · go_enter Tryd.func44, Tryd.ntmps44
        go_wp2_with (go_at_call 66; refine (i_first _ _).mono ?_; rintro e w' ⟨rfl, rfl⟩)
        go_ret
        exact ⟨ret_bool (nameB_first s hp hf).symm, rfl⟩
      · go_enter Tryd.func44, Tryd.ntmps44
        go_wp2_with (go_at_call 66; refine (i_first _ _).mono ?_; rintro e w' ⟨rfl, rfl⟩)
        go_loop [3] (fun i => ∃ k : Nat, 1 ≤ k ∧ k ≤ s.size ∧ i = .int .i64 k ∧ ∀ j (h : j < s.size), 1 ≤ j → j < k → moreB (s[j].toNat : Int) = true) (fun i => s.size - (intOf i).toNat)
        case atStart => exact ⟨1, by omega, by omega, rfl, fun j h a b => by omega⟩
        case round =>
          obtain ⟨k, h1, hk, rfl, hm⟩ := hrel
          have HM : Hid (∀ j (h : j < s.size), 1 ≤ j → j < k → moreB (s[j].toNat : Int) = true) := hm
          clear hm
          by_cases hlt : k < s.size
          · cases hb : moreB (s[k].toNat : Int)
            · go_wp2_with (go_at_call 67; refine (i_more _ _).mono ?_; rintro e w' ⟨rfl, rfl⟩)
              go_ret
              exact ⟨ret_bool (nameB_more s k h1 hlt hb).symm, rfl⟩
            · go_wp2_with (go_at_call 67; refine (i_more _ _).mono ?_; rintro e w' ⟨rfl, rfl⟩)
              go_round
              case rel =>
                refine ⟨k + 1, by omega, by omega, by go_num, fun j h a b => ?_⟩
                by_cases e : j = k
                · subst e; exact hb
                · exact HM.out j h a (by omega)
              case measure => simp [intOf]; omega
          · go_wp2
            go_ret
            exact ⟨ret_bool (nameB_yes s hp (by omega) hf (fun j h a => HM.out j h a (by omega))).symm, rfl⟩
end Go.Proofs.YtogeicckbdfldaaDoor
