/-
  Texts put together: DocPa, DocPl.
-/
import Derived.Test.YtfbahffljhnjbaaGreatDoorX16
import Derived.Test.YtfbahffljhnjbaaGreatDoorX4
import Derived.Deep.DeepCutAuto
/-
  Contract: an item's parts, by the program.
-/
namespace Go.Proofs.YtfbahffljhnjbaaGreatDoor
open Go.RowKit Go.Joins
set_option linter.unusedVariables false
set_option linter.unusedSimpArgs false
def partB (nm tx : ByteArray) (n : Nat) (N V : Nat → ByteArray) : Bool :=
  if nm.toList.isEmpty = true then !tx.toList.isEmpty && (((n : Int) == 0) && plainB tx) else tx.toList.isEmpty && (qualB nm && attrsB n N V)
set_option maxRecDepth 100000 in
set_option maxHeartbeats 4000000 in
theorem i_parts (up : Int) (nm tx : ByteArray) (a : Option Addr) (n c : Nat) (N V : Nat → ByteArray) (w : World) (hn : n ≤ 1048576) (hcap : n ≤ c) (h1 : nm.size ≤ 1048576) (h2 : tx.size ≤ 1048576) (hs : ∀ j, j < n → (N j).size ≤ 1048576 ∧ (V j).size ≤ 1048576) (hr : AtAt w a n N V w.heap.size) (hT : Tabs w) :
    Calls Tryz.prog 83 #[.agg #[.int .i64 up, .string nm, .string tx, .slice a n c]] w fun e w' => e = .returned (.bool (partB nm tx n N V)) ∧ Below w.heap.size w w' := by
  have HS := hide hs
  have HR := hide hr
  have HT := hide hT
  have H1 := hide h1
  have H2 := hide h2
  have st : ∀ o, Below w.heap.size w (w.alloc o) := fun o => (Below.refl _ _).alloc (Nat.le_refl _) _
  have HST := hide st
  clear hr hs hT h1 h2 st
  cases e1 : nm.toList.isEmpty
  · have hv : partB nm tx n N V = (tx.toList.isEmpty && (qualB nm && attrsB n N V)) := by unfold partB; rw [e1, if_neg (by decide)]
    have HV := hide hv
    clear hv
    cases e2 : tx.toList.isEmpty
    · go_enter Tryz.func83, Tryz.ntmps83
      go_wp2
      go_ret
      exact ⟨ret_bool (by rw [HV.out, e2]; rfl), HST.out _⟩
    · cases e3 : qualB nm
      · go_enter Tryz.func83, Tryz.ntmps83
        go_wp2_with (go_at_call 118; refine (i_qualF _ _ H1.out e3).mono ?_; rintro e w2 ⟨rfl, q, rfl⟩)
        go_ret
        exact ⟨ret_bool (by rw [HV.out, e2, e3]; rfl), (HST.out _).trans ((drewN_below _ _).mono (by simp))⟩
      · obtain ⟨x, hx⟩ : ∃ x, attrsB n N V = x := ⟨_, rfl⟩
        have HX := hide hx
        go_enter Tryz.func83, Tryz.ntmps83
        go_wp2_with (first | (go_at_call 118; refine (i_qualT _ _ H1.out e3).mono ?_; rintro e w2 ⟨rfl, q, rfl⟩) | (go_at_call 119; refine (i_attrs _ _ _ N V _ hn hcap HS.out (atAt_up (atAt_go HR.out ((HST.out _).trans ((drewN_below _ _).mono (by simp)))) (by simp)) (tabs_below HT.out ((HST.out _).trans ((drewN_below _ _).mono (by simp))))).mono ?_; rintro e w3 ⟨rfl, hb3⟩; rw [HX.out]; have HB3 := hide (((HST.out _).trans ((drewN_below _ _).mono (by simp))).trans (hb3.mono (by simp))); clear hb3))
        go_ret
        exact ⟨ret_bool (by rw [HV.out, e2, e3, HX.out]; rfl), HB3.out⟩
  · have hv : partB nm tx n N V = (!tx.toList.isEmpty && (((n : Int) == 0) && plainB tx)) := by unfold partB; rw [e1, if_pos rfl]
    have HV := hide hv
    clear hv
    cases e2 : tx.toList.isEmpty
    · cases e3 : ((n : Int) == 0)
      · go_enter Tryz.func83, Tryz.ntmps83
        go_wp2
        go_ret
        exact ⟨ret_bool (by rw [HV.out, e2, e3]; rfl), HST.out _⟩
      · obtain ⟨x, hx⟩ : ∃ x, plainB tx = x := ⟨_, rfl⟩
        have HX := hide hx
        go_enter Tryz.func83, Tryz.ntmps83
        go_wp2_with (go_at_call 117; refine (i_plain _ _ H2.out (tabs_below HT.out (HST.out _))).mono ?_; rintro e w3 ⟨rfl, hb3⟩; rw [HX.out]; have HB3 := hide ((HST.out _).trans (hb3.mono (by simp))); clear hb3)
        go_ret
        exact ⟨ret_bool (by rw [HV.out, e2, e3, HX.out]; rfl), HB3.out⟩
    · go_enter Tryz.func83, Tryz.ntmps83
      go_wp2
      go_ret
      exact ⟨ret_bool (by rw [HV.out, e2]; rfl), HST.out _⟩
end Go.Proofs.YtfbahffljhnjbaaGreatDoor

/-
  Contracts: how deep an item stands, by the specification and by the program; the program's look at an item's place.
-/
namespace Go.Proofs.YtfbahffljhnjbaaGreatDoor
open Go.RowKit Go.Joins
set_option linter.unusedVariables false
set_option linter.unusedSimpArgs false
theorem int_nat {a : Int} (h : 0 ≤ a) : Value.int .i64 a = .int .i64 (a.toNat : Int) := by rw [show (a.toNat : Int) = a by omega]
set_option maxHeartbeats 1000000 in
theorem s_deep (D : Dc) (n b off cap : Nat) (w : World) (B : Nat) (i : Nat) (hD : D.n = n) (hn : n ≤ 200) (hi : i < n) (hr : DcRow w b off D B) (hdec : ∀ j : Nat, j ≤ i → -1 ≤ D.U j ∧ D.U j < j) :
    Calls Tryz.prog 58 #[.slice (some ⟨b, off, none⟩) n cap, .int .i64 i] w fun e w' => e = .returned (.int .i64 (dp D.U (D.U i))) ∧ w' = w := by
  have HD := hide hD
  have HR := hide hr
  have HC := hide hdec
  have hle := dp_le D.U (a := D.U i)
  have hui := (hdec i (Nat.le_refl _)).2
  obtain ⟨T, hT⟩ : ∃ T, dp D.U (D.U i) = T := ⟨_, rfl⟩
  have HT := hide hT
  rw [hT] at hle ⊢
  have hT2 : T ≤ 201 := by omega
  clear hr hdec hD hT hle hui
  go_enter Tryz.func58, Tryz.ntmps58
  go_wp2
  go_loop [1, 5] (fun a d => ∃ (m q : Nat), a = .int .i64 m ∧ m ≤ i ∧ d = .int .i64 q ∧ Hid (q + dp D.U (D.U m) = T)) (fun a _ => (intOf a).toNat)
  case atStart => exact ⟨i, 0, rfl, Nat.le_refl _, rfl, by rw [HT.out]; exact Nat.zero_add T⟩
  case round =>
    obtain ⟨m, q, rfl, hm, rfl, HQ⟩ := hrel
    obtain ⟨ad, cp, ⟨c0, -⟩, -⟩ := HR.out m (by rw [HD.out]; omega)
    have hq : q ≤ 201 := by have := HQ.out; omega
    obtain ⟨u, hu⟩ : ∃ u, D.U m = u := ⟨_, rfl⟩
    obtain ⟨d1, d2⟩ := HC.out m hm
    rw [hu] at c0 d1 d2
    have hmn : (m : Int) < (n : Int) := by omega
    by_cases h0 : 0 ≤ u
    · have HS : Hid (dp D.U u = dp D.U (D.U u.toNat) + 1) := hide (dp_step D.U h0 (fun j hj => (HC.out j (by omega)).2))
      have HU := hide hu
      clear hu
      go_wp2
      go_round
      case rel => exact ⟨u.toNat, q + 1, int_nat h0, by omega, by go_num, by have := HQ.out; rw [HU.out, HS.out] at this; show q + 1 + _ = T; omega⟩
      case measure => simp [intOf]; omega
    · have HQ2 : Hid (q = T) := hide (by have := HQ.out; rw [hu, dp_neg D.U (by omega)] at this; omega)
      clear hu
      go_wp2
      go_ret
      exact ⟨ret_iI (by rw [HQ2.out]), rfl⟩
set_option maxHeartbeats 1000000 in
theorem i_count (D : Dc) (n b off cap : Nat) (w : World) (B : Nat) (up : Int) (nm tx : ByteArray) (ad : Option Addr) (ac cp : Nat) (hD : D.n = n) (hn : n ≤ 200) (hu : -1 ≤ up ∧ up < n) (hb : b < w.heap.size) (hr : DcRow w b off D w.heap.size) (hdec : ∀ j : Nat, (j : Int) ≤ up → -1 ≤ D.U j ∧ D.U j < j) :
    Calls Tryz.prog 116 #[.slice (some ⟨b, off, none⟩) n cap, .agg #[.int .i64 up, .string nm, .string tx, .slice ad ac cp]] w fun e w' => e = .returned (.int .i64 (dp D.U up)) ∧ Below w.heap.size w w' := by
  have HD := hide hD
  have HC := hide hdec
  have HR := hide (dcRow_go hr hb ((Below.refl _ _).alloc (Nat.le_refl _) (.cells #[.int .i64 up, .string nm, .string tx, .slice ad ac cp] 66)))
  have hle := dp_le D.U (a := up)
  obtain ⟨T, hT⟩ : ∃ T, dp D.U up = T := ⟨_, rfl⟩
  have HT := hide hT
  rw [hT] at hle ⊢
  have hT2 : T ≤ 201 := by omega
  clear hdec hD hT hle hr
  go_enter Tryz.func116, Tryz.ntmps116
  go_wp2
  go_loop [5, 6] (fun d a => ∃ (q : Nat) (x : Int), d = .int .i64 q ∧ a = .int .i64 x ∧ -1 ≤ x ∧ x ≤ up ∧ Hid (q + dp D.U x = T)) (fun _ a => (intOf a + 1).toNat)
  case atStart => exact ⟨0, up, rfl, rfl, by omega, Int.le_refl _, by rw [HT.out]; exact Nat.zero_add T⟩
  case round =>
    obtain ⟨q, x, rfl, rfl, hx0, hx1, HQ⟩ := hrel
    have hq : q ≤ 201 := by have := HQ.out; omega
    by_cases h0 : 0 ≤ x
    · obtain ⟨ad9, cp9, ⟨c0, -⟩, -⟩ := HR.out x.toNat (by rw [HD.out]; omega)
      obtain ⟨u, hu9⟩ : ∃ u, D.U x.toNat = u := ⟨_, rfl⟩
      obtain ⟨d1, d2⟩ := HC.out x.toNat (by omega)
      have HS : Hid (dp D.U x = dp D.U u + 1) := hide (by rw [← hu9]; exact dp_step D.U h0 (fun j hj => (HC.out j (by omega)).2))
      rw [hu9] at c0 d1 d2
      have hx2 : (x != -1) = true := by simp; omega
      have hxn : x < (n : Int) := by omega
      clear hu9
      go_wp2
      go_round
      case rel => exact ⟨q + 1, u, by go_num, rfl, d1, by omega, by have := HQ.out; rw [HS.out] at this; show q + 1 + _ = T; omega⟩
      case measure => simp [intOf]; omega
    · have hx9 : x = -1 := by omega
      subst hx9
      have HQ2 : Hid (q = T) := hide (by have := HQ.out; rw [dp_neg D.U (by omega)] at this; omega)
      go_wp2
      go_ret
      exact ⟨ret_iI (by rw [HQ2.out]), (Below.refl _ _).alloc (Nat.le_refl _) _⟩
end Go.Proofs.YtfbahffljhnjbaaGreatDoor
