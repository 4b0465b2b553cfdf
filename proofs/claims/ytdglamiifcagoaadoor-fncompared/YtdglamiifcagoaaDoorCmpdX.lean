/-
  The walk of FnCompared: at every two numbers.
-/
import Derived.Test.YtdglamiifcagoaaDoorDrawTwo
import Derived.Test.YtdglamiifcagoaaDoorSumMath
import Derived.Test.YtdglamiifcagoaaDoorCmpLaw0
import Derived.Test.YtdglamiifcagoaaDoorAddW
namespace Go.Proofs.YtdglamiifcagoaaDoor
open Go.RowKit
set_option linter.unusedVariables false
set_option linter.unusedSimpArgs false
theorem l_big0 (a : Option Addr) (n cap : Nat) (w : World) (h : n ≤ 1048576) : Calls Tryd.prog 4 #[.slice a n cap] w fun e w' => e = .returned (.bool false) ∧ w' = w := by
  go_enter Tryd.func4, Tryd.ntmps4
  go_wp2
  go_ret
  exact ⟨ret_bool (by simp; omega), rfl⟩
/-- Two numbers in their boxes. -/
def TwoAt (w w' : World) (p q : Nat) (n : Bool) (s : ByteArray) (c : Int) (m : Bool) (t : ByteArray) (d : Int) : Prop := HeldN w' p n s c ∧ HeldN w' q m t d ∧ Below w.heap.size w w'
section
variable {w w1 w2 : World} {p q : Nat} {n m : Bool} {s t : ByteArray} {c d : Int}
theorem two_go (h : TwoAt w w1 p q n s c m t d) (k : Below w1.heap.size w1 w2) : TwoAt w w2 p q n s c m t d := ⟨heldN_below h.1 k, heldN_below h.2.1 k, h.2.2.trans (k.mono h.2.2.size)⟩
theorem two_new (hb : Below w.heap.size w w1) (n m : Bool) (s t : ByteArray) (c d : Int) (T U : TypeId) : TwoAt w ((w1.alloc (.cells #[.bool n, .string s, .int .i64 c] T)).alloc (.cells #[.bool m, .string t, .int .i64 d] U)) w1.heap.size (w1.heap.size + 1) n s c m t d := by
  have h1 := heldN_alloc (heldN_new w1 n s c T) (.cells #[.bool m, .string t, .int .i64 d] U)
  have h2 := heldN_new (w1.alloc (.cells #[.bool n, .string s, .int .i64 c] T)) m t d U
  exact ⟨h1, by simpa using h2, (hb.alloc hb.size _).alloc (by have := hb.size; simp; omega) _⟩
end
theorem ba_ne (s : ByteArray) (h : s.size ≠ 0) : s.toList.isEmpty = false := ne_list s (by omega)
theorem bytes_eq {x y : ByteArray} (h : x.toList = y.toList) : x = y := by
  rw [ByteArray.toList_eq, ByteArray.toList_eq] at h
  exact ByteArray.ext (Array.toList_inj.1 h)
theorem bytes_nil {x : ByteArray} (h : x.toList = []) : x = ByteArray.empty := bytes_eq (by rw [h, ByteArray.toList_eq]; rfl)
theorem not_t {b : Bool} (h : ¬ b = true) : b = false := by simpa using h
theorem two_al {w w1 : World} {p q : Nat} {n m : Bool} {s t : ByteArray} {c d : Int} (h : TwoAt w w1 p q n s c m t d) (o : Obj) : TwoAt w (w1.alloc o) p q n s c m t d := two_go h ((Below.refl _ _).alloc (Nat.le_refl _) _)
set_option maxRecDepth 100000 in
set_option maxHeartbeats 4000000 in
theorem cmpd_walk (a : Option Addr) (n cap : Nat) (zs : List Int) (w : World) (hl : zs.length = n) (hz : ∀ x ∈ zs, 0 ≤ x ∧ x ≤ 255) (hn : n ≤ 1048576) (hs : SrcAt w a zs w.heap.size) :
    Calls Tryd.prog 3 #[.slice a n cap] w fun e w' => e = .returned (.bool true) ∧ Below w.heap.size w w' := by
  have HS := hide hs
  have HL := hide hl
  have HZ := hide hz
  clear hs hl hz
  go_enter Tryd.func3, Tryd.ntmps3
  go_wp2_with fail
  refine (l_big0 _ _ _ _ hn).mono ?_
  rintro e w0 ⟨rfl, rfl⟩
  go_wp2_with fail
  refine (d_two a n cap zs _ HL.out HZ.out hn HS.out).mono ?_
  rintro e w1 ⟨n1, s1, c1, n2, s2, c2, hz1, hz2, rfl, hb1⟩
  have H1 : Hid (s1.size ≤ maxLen) := by show s1.size ≤ maxLen; unfold maxLen; omega
  have H2 : Hid (s2.size ≤ maxLen) := by show s2.size ≤ maxLen; unfold maxLen; omega
  have HT := hide (two_new hb1 n1 n2 s1 s2 c1 c2 25 25)
  clear hb1 hz1 hz2 HS HL HZ
  obtain ⟨V, hV⟩ : ∃ V, cmpB n1 s1 c1 n2 s2 c2 = V := ⟨_, rfl⟩
  have HV := hide hV
  clear hV
  go_wp2_with fail
  refine (i_cmp _ _ _ _ _ _ _ H1.out H2.out).mono ?_
  rintro e w2 ⟨rfl, hb2⟩
  rw [HV.out]
  replace HT := hide (two_go HT.out hb2)
  clear hb2
  obtain ⟨⟨a0, a1, a2⟩, -, -, -⟩ := heldN_cells HT.out.1
  obtain ⟨⟨b0, b1, b2⟩, -, -, -⟩ := heldN_cells HT.out.2.1
  go_wp2_with fail
  refine (s_cmp _ _ _ _ _ _ _ H1.out H2.out).mono ?_
  rintro e w3 ⟨rfl, hb3⟩
  rw [HV.out]
  replace HT := hide (two_go HT.out hb3)
  clear hb3 a0 a1 a2 b0 b1 b2
  obtain ⟨⟨a0, a1, a2⟩, -, -, -⟩ := heldN_cells HT.out.1
  obtain ⟨⟨b0, b1, b2⟩, -, -, -⟩ := heldN_cells HT.out.2.1
  by_cases hr : decB n1 s1 c1 = true ∧ decB n2 s2 c2 = true
  · have HRR := hide hr
    have hv : V = cmpI (iv n1 s1 c1) (iv n2 s2 c2) := by rw [← HV.out, cmpB, if_pos hr]
    have HVV := hide hv
    have hv2 : (V == 2) = false := by
      rw [hv]; unfold cmpI; split
      · rfl
      · split <;> rfl
    clear hr hv
    by_cases h0 : s2.size = 0
    · obtain ⟨rfl, rfl, rfl, hiv⟩ := neg_none HRR.out.2 h0
      have hadd : addB n1 s1 c1 false ByteArray.empty 0 = res60 (iv n1 s1 c1 - iv false ByteArray.empty 0) := by rw [addB_yes HRR.out.1 HRR.out.2, hiv]; congr 1
      have HADD := hide hadd
      clear hadd hiv h0
      go_wp2_with fail
      refine (i_add _ _ _ _ _ _ _ H1.out H2.out).mono ?_
      rintro e w4 ⟨rfl, hb4⟩
      rw [HADD.out]
      replace HT := hide (two_go HT.out hb4)
      clear hb4 a0 a1 a2 b0 b1 b2 HADD
      obtain ⟨⟨a0, a1, a2⟩, -, -, -⟩ := heldN_cells HT.out.1
      obtain ⟨⟨b0, b1, b2⟩, -, -, -⟩ := heldN_cells HT.out.2.1
      have x0 : ∀ o, (w4.alloc o).cell? ⟨w1.heap.size, 0, none⟩ = some (.bool n1) := fun o => (heldN_cells (two_al HT.out o).1).1.1
      have x1 : ∀ o, (w4.alloc o).cell? ⟨w1.heap.size, 1, none⟩ = some (.string s1) := fun o => (heldN_cells (two_al HT.out o).1).1.2.1
      have x2 : ∀ o, (w4.alloc o).cell? ⟨w1.heap.size, 2, none⟩ = some (.int .i64 c1) := fun o => (heldN_cells (two_al HT.out o).1).1.2.2
      have y0 : ∀ o, (w4.alloc o).cell? ⟨w1.heap.size + 1, 0, none⟩ = some (.bool false) := fun o => (heldN_cells (two_al HT.out o).2.1).1.1
      have y1 : ∀ o, (w4.alloc o).cell? ⟨w1.heap.size + 1, 1, none⟩ = some (.string ByteArray.empty) := fun o => (heldN_cells (two_al HT.out o).2.1).1.2.1
      have y2 : ∀ o, (w4.alloc o).cell? ⟨w1.heap.size + 1, 2, none⟩ = some (.int .i64 0) := fun o => (heldN_cells (two_al HT.out o).2.1).1.2.2
      rcases res60_or (iv n1 s1 c1 - iv false ByteArray.empty 0) with ⟨n9, s9, c9, h9⟩ | h9
      · skip
        have HB9 := hide (res60_back h9)
        have hres : resV (n9, s9, c9, true) = .tuple #[.agg #[.bool n9, .string s9, .int .i64 c9], .bool true] := rfl
        rw [h9, hres]
        clear h9 hres
        rcases Int.lt_trichotomy (iv n1 s1 c1) (iv false ByteArray.empty 0) with h | h | h
        · have hV : V = -1 := by rw [HVV.out, cmpI_lt h]
          have hW : cmpB false ByteArray.empty 0 n1 s1 c1 = 1 := by rw [cmpB, if_pos ⟨HRR.out.2, HRR.out.1⟩, cmpI_gt h]
          have HW := hide hW
          clear hW
          subst hV
          have hab : Hid (¬ (n1 = false ∧ s1 = ByteArray.empty ∧ c1 = 0)) := fun e => by obtain ⟨e1, e2, e3⟩ := e; subst e1 e2 e3; exact absurd h (Int.lt_irrefl _)
          obtain rfl : n9 = true := by rw [HB9.out.2.2.1]; first | (simp; done) | (simp; omega)
          have hs9 : s9.toList.isEmpty = false := ne_list s9 (by have := HB9.out.2.2.2; omega)
          go_wp2_with fail
          refine (i_cmp _ _ _ _ _ _ _ H2.out H1.out).mono ?_
          rintro e w5 ⟨rfl, hb5⟩
          rw [HW.out]
          have HM := hide (heldN_below (heldN_new w4 _ _ _ _) hb5)
          replace HT := hide (two_go (two_al HT.out _) hb5)
          have z1 := (heldN_cells HM.out).1.2.1
          clear hb5 a0 a1 a2 b0 b1 b2 x0 x1 x2 y0 y1 y2
          obtain ⟨⟨a0, a1, a2⟩, -, -, -⟩ := heldN_cells HT.out.1
          obtain ⟨⟨b0, b1, b2⟩, -, -, -⟩ := heldN_cells HT.out.2.1
          go_wp2
          all_goals first
            | (go_ret; exact ⟨rfl, HT.out.2.2⟩)
            | (exfalso; refine hab.out ⟨?_, ?_, ?_⟩ <;> first | rfl | assumption | (apply bytes_eq; assumption) | (apply bytes_nil; assumption) | (apply not_t; assumption))
        · have hV : V = 0 := by rw [HVV.out, cmpI_eq h]
          have hW : cmpB false ByteArray.empty 0 n1 s1 c1 = 0 := by rw [cmpB, if_pos ⟨HRR.out.2, HRR.out.1⟩, cmpI_eq h.symm]
          have HW := hide hW
          clear hW
          subst hV
          obtain ⟨e1, e2, e3⟩ := iv_inj HRR.out.1 HRR.out.2 h
          subst e1 e2 e3
          obtain rfl : n9 = false := by rw [HB9.out.2.2.1]; first | (simp; done) | (simp; omega)
          obtain rfl : s9 = ByteArray.empty := ByteArray.size_eq_zero_iff.1 (HB9.out.2.2.2.2 (by omega))
          go_wp2_with fail
          refine (i_cmp _ _ _ _ _ _ _ H2.out H1.out).mono ?_
          rintro e w5 ⟨rfl, hb5⟩
          rw [HW.out]
          have HM := hide (heldN_below (heldN_new w4 _ _ _ _) hb5)
          replace HT := hide (two_go (two_al HT.out _) hb5)
          have z1 := (heldN_cells HM.out).1.2.1
          clear hb5 a0 a1 a2 b0 b1 b2 x0 x1 x2 y0 y1 y2
          obtain ⟨⟨a0, a1, a2⟩, -, -, -⟩ := heldN_cells HT.out.1
          obtain ⟨⟨b0, b1, b2⟩, -, -, -⟩ := heldN_cells HT.out.2.1
          go_wp2
          all_goals first
            | (go_ret; exact ⟨rfl, HT.out.2.2⟩)
            | (exfalso; refine hab.out ⟨?_, ?_, ?_⟩ <;> first | rfl | assumption | (apply bytes_eq; assumption) | (apply bytes_nil; assumption) | (apply not_t; assumption))
        · have hV : V = 1 := by rw [HVV.out, cmpI_gt h]
          have hW : cmpB false ByteArray.empty 0 n1 s1 c1 = -1 := by rw [cmpB, if_pos ⟨HRR.out.2, HRR.out.1⟩, cmpI_lt h]
          have HW := hide hW
          clear hW
          subst hV
          have hab : Hid (¬ (n1 = false ∧ s1 = ByteArray.empty ∧ c1 = 0)) := fun e => by obtain ⟨e1, e2, e3⟩ := e; subst e1 e2 e3; exact absurd h (Int.lt_irrefl _)
          obtain rfl : n9 = false := by rw [HB9.out.2.2.1]; first | (simp; done) | (simp; omega)
          have hs9 : s9.toList.isEmpty = false := ne_list s9 (by have := HB9.out.2.2.2; omega)
          go_wp2_with fail
          refine (i_cmp _ _ _ _ _ _ _ H2.out H1.out).mono ?_
          rintro e w5 ⟨rfl, hb5⟩
          rw [HW.out]
          have HM := hide (heldN_below (heldN_new w4 _ _ _ _) hb5)
          replace HT := hide (two_go (two_al HT.out _) hb5)
          have z1 := (heldN_cells HM.out).1.2.1
          clear hb5 a0 a1 a2 b0 b1 b2 x0 x1 x2 y0 y1 y2
          obtain ⟨⟨a0, a1, a2⟩, -, -, -⟩ := heldN_cells HT.out.1
          obtain ⟨⟨b0, b1, b2⟩, -, -, -⟩ := heldN_cells HT.out.2.1
          go_wp2
          all_goals first
            | (go_ret; exact ⟨rfl, HT.out.2.2⟩)
            | (exfalso; refine hab.out ⟨?_, ?_, ?_⟩ <;> first | rfl | assumption | (apply bytes_eq; assumption) | (apply bytes_nil; assumption) | (apply not_t; assumption))
      · skip
        have hres : resV (false, ByteArray.empty, 0, false) = .tuple #[.agg #[.bool false, .string ByteArray.empty, .int .i64 0], .bool false] := rfl
        rw [h9, hres]
        clear h9 hres
        rcases Int.lt_trichotomy (iv n1 s1 c1) (iv false ByteArray.empty 0) with h | h | h
        · have hV : V = -1 := by rw [HVV.out, cmpI_lt h]
          have hW : cmpB false ByteArray.empty 0 n1 s1 c1 = 1 := by rw [cmpB, if_pos ⟨HRR.out.2, HRR.out.1⟩, cmpI_gt h]
          have HW := hide hW
          clear hW
          subst hV
          have hab : Hid (¬ (n1 = false ∧ s1 = ByteArray.empty ∧ c1 = 0)) := fun e => by obtain ⟨e1, e2, e3⟩ := e; subst e1 e2 e3; exact absurd h (Int.lt_irrefl _)
          go_wp2_with fail
          refine (i_cmp _ _ _ _ _ _ _ H2.out H1.out).mono ?_
          rintro e w5 ⟨rfl, hb5⟩
          rw [HW.out]
          have HM := hide (heldN_below (heldN_new w4 _ _ _ _) hb5)
          replace HT := hide (two_go (two_al HT.out _) hb5)
          have z1 := (heldN_cells HM.out).1.2.1
          clear hb5 a0 a1 a2 b0 b1 b2 x0 x1 x2 y0 y1 y2
          obtain ⟨⟨a0, a1, a2⟩, -, -, -⟩ := heldN_cells HT.out.1
          obtain ⟨⟨b0, b1, b2⟩, -, -, -⟩ := heldN_cells HT.out.2.1
          go_wp2
          all_goals first
            | (go_ret; exact ⟨rfl, HT.out.2.2⟩)
            | (exfalso; refine hab.out ⟨?_, ?_, ?_⟩ <;> first | rfl | assumption | (apply bytes_eq; assumption) | (apply bytes_nil; assumption) | (apply not_t; assumption))
        · have hV : V = 0 := by rw [HVV.out, cmpI_eq h]
          have hW : cmpB false ByteArray.empty 0 n1 s1 c1 = 0 := by rw [cmpB, if_pos ⟨HRR.out.2, HRR.out.1⟩, cmpI_eq h.symm]
          have HW := hide hW
          clear hW
          subst hV
          obtain ⟨e1, e2, e3⟩ := iv_inj HRR.out.1 HRR.out.2 h
          subst e1 e2 e3
          go_wp2_with fail
          refine (i_cmp _ _ _ _ _ _ _ H2.out H1.out).mono ?_
          rintro e w5 ⟨rfl, hb5⟩
          rw [HW.out]
          have HM := hide (heldN_below (heldN_new w4 _ _ _ _) hb5)
          replace HT := hide (two_go (two_al HT.out _) hb5)
          have z1 := (heldN_cells HM.out).1.2.1
          clear hb5 a0 a1 a2 b0 b1 b2 x0 x1 x2 y0 y1 y2
          obtain ⟨⟨a0, a1, a2⟩, -, -, -⟩ := heldN_cells HT.out.1
          obtain ⟨⟨b0, b1, b2⟩, -, -, -⟩ := heldN_cells HT.out.2.1
          go_wp2
          all_goals first
            | (go_ret; exact ⟨rfl, HT.out.2.2⟩)
            | (exfalso; refine hab.out ⟨?_, ?_, ?_⟩ <;> first | rfl | assumption | (apply bytes_eq; assumption) | (apply bytes_nil; assumption) | (apply not_t; assumption))
        · have hV : V = 1 := by rw [HVV.out, cmpI_gt h]
          have hW : cmpB false ByteArray.empty 0 n1 s1 c1 = -1 := by rw [cmpB, if_pos ⟨HRR.out.2, HRR.out.1⟩, cmpI_lt h]
          have HW := hide hW
          clear hW
          subst hV
          have hab : Hid (¬ (n1 = false ∧ s1 = ByteArray.empty ∧ c1 = 0)) := fun e => by obtain ⟨e1, e2, e3⟩ := e; subst e1 e2 e3; exact absurd h (Int.lt_irrefl _)
          go_wp2_with fail
          refine (i_cmp _ _ _ _ _ _ _ H2.out H1.out).mono ?_
          rintro e w5 ⟨rfl, hb5⟩
          rw [HW.out]
          have HM := hide (heldN_below (heldN_new w4 _ _ _ _) hb5)
          replace HT := hide (two_go (two_al HT.out _) hb5)
          have z1 := (heldN_cells HM.out).1.2.1
          clear hb5 a0 a1 a2 b0 b1 b2 x0 x1 x2 y0 y1 y2
          obtain ⟨⟨a0, a1, a2⟩, -, -, -⟩ := heldN_cells HT.out.1
          obtain ⟨⟨b0, b1, b2⟩, -, -, -⟩ := heldN_cells HT.out.2.1
          go_wp2
          all_goals first
            | (go_ret; exact ⟨rfl, HT.out.2.2⟩)
            | (exfalso; refine hab.out ⟨?_, ?_, ?_⟩ <;> first | rfl | assumption | (apply bytes_eq; assumption) | (apply bytes_nil; assumption) | (apply not_t; assumption))
    · have hne : s2.toList.isEmpty = false := ba_ne s2 h0
      obtain ⟨k1, k2⟩ := neg_some HRR.out.2 h0
      have hadd : addB n1 s1 c1 (!n2) s2 c2 = res60 (iv n1 s1 c1 - iv n2 s2 c2) := by rw [addB_yes HRR.out.1 k1, k2]; congr 1
      have HADD := hide hadd
      clear hadd k1 k2 h0
      go_wp2_with fail
      refine (i_add _ _ _ _ _ _ _ H1.out H2.out).mono ?_
      rintro e w4 ⟨rfl, hb4⟩
      rw [HADD.out]
      replace HT := hide (two_go HT.out hb4)
      clear hb4 a0 a1 a2 b0 b1 b2 HADD
      obtain ⟨⟨a0, a1, a2⟩, -, -, -⟩ := heldN_cells HT.out.1
      obtain ⟨⟨b0, b1, b2⟩, -, -, -⟩ := heldN_cells HT.out.2.1
      have x0 : ∀ o, (w4.alloc o).cell? ⟨w1.heap.size, 0, none⟩ = some (.bool n1) := fun o => (heldN_cells (two_al HT.out o).1).1.1
      have x1 : ∀ o, (w4.alloc o).cell? ⟨w1.heap.size, 1, none⟩ = some (.string s1) := fun o => (heldN_cells (two_al HT.out o).1).1.2.1
      have x2 : ∀ o, (w4.alloc o).cell? ⟨w1.heap.size, 2, none⟩ = some (.int .i64 c1) := fun o => (heldN_cells (two_al HT.out o).1).1.2.2
      have y0 : ∀ o, (w4.alloc o).cell? ⟨w1.heap.size + 1, 0, none⟩ = some (.bool n2) := fun o => (heldN_cells (two_al HT.out o).2.1).1.1
      have y1 : ∀ o, (w4.alloc o).cell? ⟨w1.heap.size + 1, 1, none⟩ = some (.string s2) := fun o => (heldN_cells (two_al HT.out o).2.1).1.2.1
      have y2 : ∀ o, (w4.alloc o).cell? ⟨w1.heap.size + 1, 2, none⟩ = some (.int .i64 c2) := fun o => (heldN_cells (two_al HT.out o).2.1).1.2.2
      rcases res60_or (iv n1 s1 c1 - iv n2 s2 c2) with ⟨n9, s9, c9, h9⟩ | h9
      · skip
        have HB9 := hide (res60_back h9)
        have hres : resV (n9, s9, c9, true) = .tuple #[.agg #[.bool n9, .string s9, .int .i64 c9], .bool true] := rfl
        rw [h9, hres]
        clear h9 hres
        rcases Int.lt_trichotomy (iv n1 s1 c1) (iv n2 s2 c2) with h | h | h
        · have hV : V = -1 := by rw [HVV.out, cmpI_lt h]
          have hW : cmpB n2 s2 c2 n1 s1 c1 = 1 := by rw [cmpB, if_pos ⟨HRR.out.2, HRR.out.1⟩, cmpI_gt h]
          have HW := hide hW
          clear hW
          subst hV
          have hab : Hid (¬ (n1 = n2 ∧ s1 = s2 ∧ c1 = c2)) := fun e => by obtain ⟨e1, e2, e3⟩ := e; subst e1 e2 e3; exact absurd h (Int.lt_irrefl _)
          obtain rfl : n9 = true := by rw [HB9.out.2.2.1]; first | (simp; done) | (simp; omega)
          have hs9 : s9.toList.isEmpty = false := ne_list s9 (by have := HB9.out.2.2.2; omega)
          go_wp2_with fail
          refine (i_cmp _ _ _ _ _ _ _ H2.out H1.out).mono ?_
          rintro e w5 ⟨rfl, hb5⟩
          rw [HW.out]
          have HM := hide (heldN_below (heldN_new w4 _ _ _ _) hb5)
          replace HT := hide (two_go (two_al HT.out _) hb5)
          have z1 := (heldN_cells HM.out).1.2.1
          clear hb5 a0 a1 a2 b0 b1 b2 x0 x1 x2 y0 y1 y2
          obtain ⟨⟨a0, a1, a2⟩, -, -, -⟩ := heldN_cells HT.out.1
          obtain ⟨⟨b0, b1, b2⟩, -, -, -⟩ := heldN_cells HT.out.2.1
          go_wp2
          all_goals first
            | (go_ret; exact ⟨rfl, HT.out.2.2⟩)
            | (exfalso; refine hab.out ⟨?_, ?_, ?_⟩ <;> first | rfl | assumption | (apply bytes_eq; assumption) | (apply bytes_nil; assumption) | (apply not_t; assumption))
        · have hV : V = 0 := by rw [HVV.out, cmpI_eq h]
          have hW : cmpB n2 s2 c2 n1 s1 c1 = 0 := by rw [cmpB, if_pos ⟨HRR.out.2, HRR.out.1⟩, cmpI_eq h.symm]
          have HW := hide hW
          clear hW
          subst hV
          obtain ⟨e1, e2, e3⟩ := iv_inj HRR.out.1 HRR.out.2 h
          subst e1 e2 e3
          obtain rfl : n9 = false := by rw [HB9.out.2.2.1]; first | (simp; done) | (simp; omega)
          obtain rfl : s9 = ByteArray.empty := ByteArray.size_eq_zero_iff.1 (HB9.out.2.2.2.2 (by omega))
          go_wp2_with fail
          refine (i_cmp _ _ _ _ _ _ _ H2.out H1.out).mono ?_
          rintro e w5 ⟨rfl, hb5⟩
          rw [HW.out]
          have HM := hide (heldN_below (heldN_new w4 _ _ _ _) hb5)
          replace HT := hide (two_go (two_al HT.out _) hb5)
          have z1 := (heldN_cells HM.out).1.2.1
          clear hb5 a0 a1 a2 b0 b1 b2 x0 x1 x2 y0 y1 y2
          obtain ⟨⟨a0, a1, a2⟩, -, -, -⟩ := heldN_cells HT.out.1
          obtain ⟨⟨b0, b1, b2⟩, -, -, -⟩ := heldN_cells HT.out.2.1
          go_wp2
          all_goals first
            | (go_ret; exact ⟨rfl, HT.out.2.2⟩)
            | (exfalso; refine hab.out ⟨?_, ?_, ?_⟩ <;> first | rfl | assumption | (apply bytes_eq; assumption) | (apply bytes_nil; assumption) | (apply not_t; assumption))
        · have hV : V = 1 := by rw [HVV.out, cmpI_gt h]
          have hW : cmpB n2 s2 c2 n1 s1 c1 = -1 := by rw [cmpB, if_pos ⟨HRR.out.2, HRR.out.1⟩, cmpI_lt h]
          have HW := hide hW
          clear hW
          subst hV
          have hab : Hid (¬ (n1 = n2 ∧ s1 = s2 ∧ c1 = c2)) := fun e => by obtain ⟨e1, e2, e3⟩ := e; subst e1 e2 e3; exact absurd h (Int.lt_irrefl _)
          obtain rfl : n9 = false := by rw [HB9.out.2.2.1]; first | (simp; done) | (simp; omega)
          have hs9 : s9.toList.isEmpty = false := ne_list s9 (by have := HB9.out.2.2.2; omega)
          go_wp2_with fail
          refine (i_cmp _ _ _ _ _ _ _ H2.out H1.out).mono ?_
          rintro e w5 ⟨rfl, hb5⟩
          rw [HW.out]
          have HM := hide (heldN_below (heldN_new w4 _ _ _ _) hb5)
          replace HT := hide (two_go (two_al HT.out _) hb5)
          have z1 := (heldN_cells HM.out).1.2.1
          clear hb5 a0 a1 a2 b0 b1 b2 x0 x1 x2 y0 y1 y2
          obtain ⟨⟨a0, a1, a2⟩, -, -, -⟩ := heldN_cells HT.out.1
          obtain ⟨⟨b0, b1, b2⟩, -, -, -⟩ := heldN_cells HT.out.2.1
          go_wp2
          all_goals first
            | (go_ret; exact ⟨rfl, HT.out.2.2⟩)
            | (exfalso; refine hab.out ⟨?_, ?_, ?_⟩ <;> first | rfl | assumption | (apply bytes_eq; assumption) | (apply bytes_nil; assumption) | (apply not_t; assumption))
      · skip
        have hres : resV (false, ByteArray.empty, 0, false) = .tuple #[.agg #[.bool false, .string ByteArray.empty, .int .i64 0], .bool false] := rfl
        rw [h9, hres]
        clear h9 hres
        rcases Int.lt_trichotomy (iv n1 s1 c1) (iv n2 s2 c2) with h | h | h
        · have hV : V = -1 := by rw [HVV.out, cmpI_lt h]
          have hW : cmpB n2 s2 c2 n1 s1 c1 = 1 := by rw [cmpB, if_pos ⟨HRR.out.2, HRR.out.1⟩, cmpI_gt h]
          have HW := hide hW
          clear hW
          subst hV
          have hab : Hid (¬ (n1 = n2 ∧ s1 = s2 ∧ c1 = c2)) := fun e => by obtain ⟨e1, e2, e3⟩ := e; subst e1 e2 e3; exact absurd h (Int.lt_irrefl _)
          go_wp2_with fail
          refine (i_cmp _ _ _ _ _ _ _ H2.out H1.out).mono ?_
          rintro e w5 ⟨rfl, hb5⟩
          rw [HW.out]
          have HM := hide (heldN_below (heldN_new w4 _ _ _ _) hb5)
          replace HT := hide (two_go (two_al HT.out _) hb5)
          have z1 := (heldN_cells HM.out).1.2.1
          clear hb5 a0 a1 a2 b0 b1 b2 x0 x1 x2 y0 y1 y2
          obtain ⟨⟨a0, a1, a2⟩, -, -, -⟩ := heldN_cells HT.out.1
          obtain ⟨⟨b0, b1, b2⟩, -, -, -⟩ := heldN_cells HT.out.2.1
          go_wp2
          all_goals first
            | (go_ret; exact ⟨rfl, HT.out.2.2⟩)
            | (exfalso; refine hab.out ⟨?_, ?_, ?_⟩ <;> first | rfl | assumption | (apply bytes_eq; assumption) | (apply bytes_nil; assumption) | (apply not_t; assumption))
        · have hV : V = 0 := by rw [HVV.out, cmpI_eq h]
          have hW : cmpB n2 s2 c2 n1 s1 c1 = 0 := by rw [cmpB, if_pos ⟨HRR.out.2, HRR.out.1⟩, cmpI_eq h.symm]
          have HW := hide hW
          clear hW
          subst hV
          obtain ⟨e1, e2, e3⟩ := iv_inj HRR.out.1 HRR.out.2 h
          subst e1 e2 e3
          go_wp2_with fail
          refine (i_cmp _ _ _ _ _ _ _ H2.out H1.out).mono ?_
          rintro e w5 ⟨rfl, hb5⟩
          rw [HW.out]
          have HM := hide (heldN_below (heldN_new w4 _ _ _ _) hb5)
          replace HT := hide (two_go (two_al HT.out _) hb5)
          have z1 := (heldN_cells HM.out).1.2.1
          clear hb5 a0 a1 a2 b0 b1 b2 x0 x1 x2 y0 y1 y2
          obtain ⟨⟨a0, a1, a2⟩, -, -, -⟩ := heldN_cells HT.out.1
          obtain ⟨⟨b0, b1, b2⟩, -, -, -⟩ := heldN_cells HT.out.2.1
          go_wp2
          all_goals first
            | (go_ret; exact ⟨rfl, HT.out.2.2⟩)
            | (exfalso; refine hab.out ⟨?_, ?_, ?_⟩ <;> first | rfl | assumption | (apply bytes_eq; assumption) | (apply bytes_nil; assumption) | (apply not_t; assumption))
        · have hV : V = 1 := by rw [HVV.out, cmpI_gt h]
          have hW : cmpB n2 s2 c2 n1 s1 c1 = -1 := by rw [cmpB, if_pos ⟨HRR.out.2, HRR.out.1⟩, cmpI_lt h]
          have HW := hide hW
          clear hW
          subst hV
          have hab : Hid (¬ (n1 = n2 ∧ s1 = s2 ∧ c1 = c2)) := fun e => by obtain ⟨e1, e2, e3⟩ := e; subst e1 e2 e3; exact absurd h (Int.lt_irrefl _)
          go_wp2_with fail
          refine (i_cmp _ _ _ _ _ _ _ H2.out H1.out).mono ?_
          rintro e w5 ⟨rfl, hb5⟩
          rw [HW.out]
          have HM := hide (heldN_below (heldN_new w4 _ _ _ _) hb5)
          replace HT := hide (two_go (two_al HT.out _) hb5)
          have z1 := (heldN_cells HM.out).1.2.1
          clear hb5 a0 a1 a2 b0 b1 b2 x0 x1 x2 y0 y1 y2
          obtain ⟨⟨a0, a1, a2⟩, -, -, -⟩ := heldN_cells HT.out.1
          obtain ⟨⟨b0, b1, b2⟩, -, -, -⟩ := heldN_cells HT.out.2.1
          go_wp2
          all_goals first
            | (go_ret; exact ⟨rfl, HT.out.2.2⟩)
            | (exfalso; refine hab.out ⟨?_, ?_, ?_⟩ <;> first | rfl | assumption | (apply bytes_eq; assumption) | (apply bytes_nil; assumption) | (apply not_t; assumption))
  · have hv : V = 2 := by rw [← HV.out, cmpB, if_neg hr]
    subst hv
    clear hr
    go_wp2_with fail
    refine (s_cmp _ _ _ _ _ _ _ H1.out H2.out).mono ?_
    rintro e w4 ⟨rfl, hb4⟩
    rw [HV.out]
    replace HT := hide (two_go HT.out hb4)
    clear hb4
    go_wp2
    go_ret
    exact ⟨rfl, HT.out.2.2⟩
end Go.Proofs.YtdglamiifcagoaaDoor
