/-
  The walk of FnClass: at every drawn class and number.
-/
import Derived.Test.YtffgghbnkphieahClsOne
import Derived.Test.YtffgghbnkphieahDrawCls2
namespace Go.Proofs.Ytffgghbnkphieah
open Go.RowKit Go.Joins
set_option linter.unusedVariables false
set_option linter.unusedSimpArgs false
theorem l_big0 (a : Option Addr) (n cap : Nat) (w : World) (h : n ≤ 1048576) : Calls Try.prog 4 #[.slice a n cap] w fun e w' => e = .returned (.bool false) ∧ w' = w := by
  go_enter Try.func4, Try.ntmps4
  go_wp2
  go_ret
  exact ⟨ret_bool (by simp; omega), rfl⟩
theorem l_big1 (a : Option Addr) (n cap : Nat) (w : World) (hn : n ≤ maxLen) (h : 1048576 < n) : Calls Try.prog 4 #[.slice a n cap] w fun e w' => e = .returned (.bool true) ∧ w' = w := by
  unfold maxLen at hn
  go_enter Try.func4, Try.ntmps4
  go_wp2
  go_ret
  exact ⟨ret_bool (by simp; omega), rfl⟩
def FC (w w' : World) (N : Nat) (kd : Int) (nt : Bool) (sa : Option Addr) (m c : Nat) (L H : Nat → Int) : Prop :=
  NodeAt w' N kd nt sa m c 0 0 0 0 ∧ w.heap.size ≤ N ∧ RngAt w' sa m L H N ∧ Below w.heap.size w w'
section
variable {w w1 w2 : World} {N : Nat} {kd : Int} {nt : Bool} {sa : Option Addr} {m c : Nat} {L H : Nat → Int}
theorem fc_go (h : FC w w1 N kd nt sa m c L H) (k : Below w1.heap.size w1 w2) : FC w w2 N kd nt sa m c L H := by
  have hl := nodeAt_lt h.1
  obtain ⟨h1, h2, h3, h4⟩ := h
  exact ⟨nodeAt_go h1 k, h2, rngAt_go h3 (k.mono (by omega)), h4.trans (k.mono h4.size)⟩
theorem fc_r (h : FC w w1 N kd nt sa m c L H) : RngAt w1 sa m L H w1.heap.size := rngAt_up h.2.2.1 (Nat.le_of_lt (nodeAt_lt h.1))
theorem fc_not (h : FC w w1 N kd nt sa m c L H) (nt' : Bool) : FC w (w1.setCell ⟨N, 1, none⟩ (.bool nt')) N kd nt' sa m c L H := by
  obtain ⟨⟨T, h1⟩, h2, h3, h4⟩ := h
  have := block_setCell (i := 1) h1 (.bool nt')
  have k : Below N w1 (w1.setCell ⟨N, 1, none⟩ (.bool nt')) := (Below.refl N w1).setCell (Nat.le_refl _) _
  exact ⟨⟨T, by simpa using this⟩, h2, rngAt_go h3 k, h4.setCell h2 _⟩
theorem fc_one {T : TypeId} (h : FC w w1 N kd nt sa m c L H) : FC w (w1.alloc (.cells #[.int .i64 kd, .bool nt, .slice sa m c, .int .i64 0, .int .i64 0, .int .i64 0, .int .i64 0] T)) N kd nt sa m c L H ∧ NodeAt (w1.alloc (.cells #[.int .i64 kd, .bool nt, .slice sa m c, .int .i64 0, .int .i64 0, .int .i64 0, .int .i64 0] T)) w1.heap.size kd nt sa m c 0 0 0 0 :=
  ⟨fc_go h ((Below.refl _ _).alloc (Nat.le_refl _) _), nodeAt_new _ _ _ _ _ _ _ _ _ _ _⟩
end
theorem cls_turn (nt : Bool) (n : Nat) (L H : Nat → Int) (r : Int) (h : nodeB 2 nt n L H 0 0 0 0 = true) (h0 : 0 ≤ r) (h1 : r ≤ 55295) : (clsB 2 (!nt) n L H 0 0 0 0 r != clsB 2 nt n L H 0 0 0 0 r) = true := by
  have hc : chB r = true := by simp only [chB, decide_eq_true_eq]; omega
  have h' : nodeB 2 (!nt) n L H 0 0 0 0 = true := by
    rw [← h]; simp [nodeB]
  simp only [clsB, h, h', hc, if_true, Bool.true_and]
  cases anyB n L H r <;> cases nt <;> rfl
set_option maxRecDepth 100000 in
set_option maxHeartbeats 4000000 in
theorem fncls_walk (a : Option Addr) (n cap : Nat) (zs : List Int) (w : World) (hl : zs.length = n) (hz : ∀ x ∈ zs, 0 ≤ x ∧ x ≤ 255) (hn : n ≤ 1048576) (hs : SrcAt w a zs w.heap.size) :
    Calls Try.prog 3 #[.slice a n cap] w fun e w' => e = .returned (.bool true) ∧ Below w.heap.size w w' := by
  have HS := hide hs
  have HL := hide hl
  have HZ := hide hz
  clear hs hl hz
  go_enter Try.func3, Try.ntmps3
  go_wp2_with fail
  refine (l_big0 _ _ _ _ hn).mono ?_
  rintro e w0 ⟨rfl, rfl⟩
  go_wp2_with fail
  refine (d_class a n cap zs _ HL.out HZ.out hn HS.out).mono ?_
  rintro e w1 ⟨kd, nt, sa, m, c, L, H, r, rfl, hm, hr, hb⟩
  have hmx : m ≤ maxLen := by unfold maxLen; omega
  have HMX := hide hmx
  have HF : Hid (FC w0 (w1.alloc (.cells #[.int .i64 kd, .bool nt, .slice sa m c, .int .i64 0, .int .i64 0, .int .i64 0, .int .i64 0] 26)) w1.heap.size kd nt sa m c L H) := ⟨nodeAt_new _ _ _ _ _ _ _ _ _ _ _, hb.size, rngAt_go hr ((Below.refl _ _).alloc (Nat.le_refl _) _), hb.alloc hb.size _⟩
  clear hr hb hmx
  obtain ⟨V, hV⟩ : ∃ V, clsB kd nt m L H 0 0 0 0 r = V := ⟨_, rfl⟩
  have HV := hide hV
  clear hV
  go_wp2_with fail
  refine (i_class _ _ _ _ _ _ _ _ _ L H r _ HMX.out (fc_r HF.out)).mono ?_
  rintro e w2 ⟨rfl, hb2⟩
  rw [HV.out]
  replace HF := hide (fc_go HF.out hb2)
  clear hb2
  obtain ⟨a0, a1, a2, a3, a4, a5, a6⟩ := nodeAt_cells HF.out.1
  go_wp2_with fail
  refine (s_class _ _ _ _ _ _ _ _ _ L H r _ HMX.out (fc_r HF.out)).mono ?_
  rintro e w3 ⟨rfl, hb3⟩
  rw [HV.out]
  replace HF := hide (fc_go HF.out hb3)
  clear hb3 a0 a1 a2 a3 a4 a5 a6
  obtain ⟨a0, a1, a2, a3, a4, a5, a6⟩ := nodeAt_cells HF.out.1
  by_cases hk : kd = 2
  · subst hk
    go_wp2_with fail
    refine (s_one w3.heap.size nt sa m c L H _ hm (fc_one HF.out).2 (fc_r (fc_one HF.out).1)).mono ?_
    rintro e w4 ⟨rfl, hb4⟩
    replace HF := hide (fc_go (fc_one HF.out).1 hb4)
    clear hb4 a0 a1 a2 a3 a4 a5 a6
    obtain ⟨a0, a1, a2, a3, a4, a5, a6⟩ := nodeAt_cells HF.out.1
    cases hno : nodeB 2 nt m L H 0 0 0 0
    · go_wp2_with fail
      refine (s_class _ _ _ _ _ _ _ _ _ L H r _ HMX.out (fc_r HF.out)).mono ?_
      rintro e w5 ⟨rfl, hb5⟩
      rw [HV.out]
      replace HF := hide (fc_go HF.out hb5)
      clear hb5
      go_wp2
      go_ret
      exact ⟨ret_bool (by simp), HF.out.2.2.2⟩
    · by_cases h0 : r < 0
      · go_wp2_with fail
        refine (s_class _ _ _ _ _ _ _ _ _ L H r _ HMX.out (fc_r HF.out)).mono ?_
        rintro e w5 ⟨rfl, hb5⟩
        rw [HV.out]
        replace HF := hide (fc_go HF.out hb5)
        clear hb5
        go_wp2
        go_ret
        exact ⟨ret_bool (by simp), HF.out.2.2.2⟩
      · by_cases h1 : 55295 < r
        · go_wp2_with fail
          refine (s_class _ _ _ _ _ _ _ _ _ L H r _ HMX.out (fc_r HF.out)).mono ?_
          rintro e w5 ⟨rfl, hb5⟩
          rw [HV.out]
          replace HF := hide (fc_go HF.out hb5)
          clear hb5
          go_wp2
          go_ret
          exact ⟨ret_bool (by simp), HF.out.2.2.2⟩
        · have hf := nodeAt_frozen HF.out.1 1
          have HT := hide (cls_turn nt m L H r hno (by omega) (by omega))
          replace HF := hide (fc_not HF.out (!nt))
          go_wp2_with fail
          refine (i_class _ _ _ _ _ _ _ _ _ L H r _ HMX.out (fc_r HF.out)).mono ?_
          rintro e w5 ⟨rfl, hb5⟩
          replace HF := hide (fc_go HF.out hb5)
          clear hb5
          go_wp2
          go_ret
          exact ⟨ret_bool (by rw [← HV.out]; exact HT.out), HF.out.2.2.2⟩
  · have hk2 : (kd != 2) = true := by simpa using hk
    go_wp2_with fail
    refine (s_class _ _ _ _ _ _ _ _ _ L H r _ HMX.out (fc_r HF.out)).mono ?_
    rintro e w4 ⟨rfl, hb4⟩
    rw [HV.out]
    replace HF := hide (fc_go HF.out hb4)
    clear hb4
    go_wp2
    go_ret
    exact ⟨ret_bool (by simp), HF.out.2.2.2⟩
end Go.Proofs.Ytffgghbnkphieah
