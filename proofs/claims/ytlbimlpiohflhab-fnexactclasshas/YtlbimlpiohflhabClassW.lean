/-
  The walk of FnExactClassHas: at every node and number the two answers are the same, and the node is as it was.
-/
import Derived.Test.YtlbimlpiohflhabClass5
namespace Go.Proofs.Ytlbimlpiohflhab
open Go.RowKit Go.Joins
set_option linter.unusedVariables false
set_option linter.unusedSimpArgs false
def CS (w w' : World) (q g : Nat) (kd : Int) (nt : Bool) (a : Option Addr) (n c : Nat) (A B mn mx : Int) (L H : Nat → Int) : Prop :=
  NodeAt w' w.heap.size kd nt a n c A B mn mx ∧ NodeAt w' q kd nt (some ⟨g, 0, none⟩) n n A B mn mx ∧ RngAt w' a n L H w.heap.size ∧ RngAt w' (some ⟨g, 0, none⟩) n L H w'.heap.size ∧ Below w.heap.size w w'
section
variable {w w1 w2 : World} {q g : Nat} {kd : Int} {nt : Bool} {a : Option Addr} {n c : Nat} {A B mn mx : Int} {L H : Nat → Int}
theorem cs_go (h : CS w w1 q g kd nt a n c A B mn mx L H) (k : Below w1.heap.size w1 w2) : CS w w2 q g kd nt a n c A B mn mx L H := by
  obtain ⟨h1, h2, h3, h4, h5⟩ := h
  exact ⟨nodeAt_go h1 k, nodeAt_go h2 k, rngAt_go h3 (k.mono h5.size), rngAt_up (rngAt_go h4 k) k.size, h5.trans (k.mono h5.size)⟩
theorem cs_drew (h : CS w w1 q g kd nt a n c A B mn mx L H) : CS w w1.drew q g kd nt a n c A B mn mx L H := cs_go h ⟨rfl, rfl, rfl, Nat.le_refl _, fun _ _ => rfl⟩
theorem cs_all (h : CS w w1 q g kd nt a n c A B mn mx L H) : CS w w1 q g kd nt a n c A B mn mx L H ∧
    (w1.cell? ⟨w.heap.size, 0, none⟩ = some (.int .i64 kd) ∧ w1.cell? ⟨w.heap.size, 1, none⟩ = some (.bool nt) ∧ w1.cell? ⟨w.heap.size, 2, none⟩ = some (.slice a n c) ∧ w1.cell? ⟨w.heap.size, 3, none⟩ = some (.int .i64 A) ∧ w1.cell? ⟨w.heap.size, 4, none⟩ = some (.int .i64 B) ∧ w1.cell? ⟨w.heap.size, 5, none⟩ = some (.int .i64 mn) ∧ w1.cell? ⟨w.heap.size, 6, none⟩ = some (.int .i64 mx)) ∧
    w1.cell? ⟨q, 0, none⟩ = some (.int .i64 kd) ∧ w1.cell? ⟨q, 1, none⟩ = some (.bool nt) ∧ w1.cell? ⟨q, 2, none⟩ = some (.slice (some ⟨g, 0, none⟩) n n) ∧ w1.cell? ⟨q, 3, none⟩ = some (.int .i64 A) ∧ w1.cell? ⟨q, 4, none⟩ = some (.int .i64 B) ∧ w1.cell? ⟨q, 5, none⟩ = some (.int .i64 mn) ∧ w1.cell? ⟨q, 6, none⟩ = some (.int .i64 mx) :=
  ⟨h, nodeAt_cells h.1, nodeAt_cells h.2.1⟩
theorem cs_r (h : CS w w1 q g kd nt a n c A B mn mx L H) : RngAt w1 a n L H w1.heap.size := rngAt_up h.2.2.1 h.2.2.2.2.size
end
set_option maxHeartbeats 4000000 in
theorem cls_walk (kd : Int) (nt : Bool) (a : Option Addr) (n c : Nat) (A B mn mx : Int) (L H : Nat → Int) (r : Int) (w : World) (hn : n ≤ maxLen) (hr : RngAt w a n L H w.heap.size) :
    Calls Try.prog 3 #[.agg #[.int .i64 kd, .bool nt, .slice a n c, .int .i64 A, .int .i64 B, .int .i64 mn, .int .i64 mx], .int .i64 r] w fun e w' => e = .returned (.bool true) ∧ Below w.heap.size w w' := by
  have HN := hide hn
  have HR := hide hr
  clear hr hn
  by_cases hbig : 1048576 < n
  · go_enter Try.func3, Try.ntmps3
    go_wp2_with (go_at_call 4; refine (l_szNBig _ _ _ _ _ _ _ _ _ _ _ HN.out (by omega) (by omega) (by omega)).mono ?_; rintro e w2 ⟨rfl, hb2⟩; have HB2 := hide (box_below hb2); clear hb2)
    go_ret
    exact ⟨rfl, HB2.out⟩
  · have hn2 : n ≤ 1048576 := by omega
    go_enter Try.func3, Try.ntmps3
    go_wp2_with fail
    refine (l_szNOk _ _ _ _ _ _ _ _ _ _ _ HN.out (by omega) (by omega) (by omega)).mono ?_
    rintro e w2 ⟨rfl, hb2⟩
    have HX := hide (box_node hb2)
    clear hb2
    have hl : (0 : Int) ≤ 1048576 - (n : Int) := by omega
    obtain ⟨a0, a1, a2, a3, a4, a5, a6⟩ := nodeAt_cells HX.out.1
    go_wp2_with fail
    refine (l_toN _ _ _ _ _ _ _ _ _ L H _ hn2 (rngAt_up (rngAt_go HR.out HX.out.2) HX.out.2.size)).mono ?_
    rintro e w3 ⟨g3, rfl, hr3, hb3⟩
    clear a0 a1 a2 a3 a4 a5 a6
    replace HX := hide (⟨nodeAt_go HX.out.1 hb3, HX.out.2.trans (hb3.mono HX.out.2.size)⟩ : NodeAt w3 w.heap.size kd nt a n c A B mn mx ∧ Below w.heap.size w w3)
    clear hb3
    go_wp2_with fail
    refine (s_class _ _ _ _ _ _ _ _ _ L H r _ HN.out hr3).mono ?_
    rintro e w4 ⟨rfl, hb4⟩
    replace HX := hide (⟨nodeAt_go HX.out.1 hb4, HX.out.2.trans (hb4.mono HX.out.2.size)⟩ : NodeAt w4 w.heap.size kd nt a n c A B mn mx ∧ Below w.heap.size w w4)
    clear hb4 hr3
    obtain ⟨a0, a1, a2, a3, a4, a5, a6⟩ := nodeAt_cells HX.out.1
    obtain ⟨V, hV⟩ : ∃ V, clsB kd nt n L H A B mn mx r = V := ⟨_, rfl⟩
    rw [hV]
    have HV := hide hV
    clear hV
    go_wp2_with fail
    refine (l_toN _ _ _ _ _ _ _ _ _ L H _ hn2 (rngAt_up (rngAt_go HR.out HX.out.2) HX.out.2.size)).mono ?_
    rintro e w5 ⟨g5, rfl, hr5, hb5⟩
    clear a0 a1 a2 a3 a4 a5 a6
    have HC : Hid (CS w (w5.alloc (.cells #[.int .i64 kd, .bool nt, .slice (some ⟨g5, 0, none⟩) n n, .int .i64 A, .int .i64 B, .int .i64 mn, .int .i64 mx] 29)) w5.heap.size g5 kd nt a n c A B mn mx L H) := by
      have hb6 : Below w.heap.size w w5 := HX.out.2.trans (hb5.mono HX.out.2.size)
      have st : Below w5.heap.size w5 (w5.alloc (.cells #[.int .i64 kd, .bool nt, .slice (some ⟨g5, 0, none⟩) n n, .int .i64 A, .int .i64 B, .int .i64 mn, .int .i64 mx] 29)) := (Below.refl _ _).alloc (Nat.le_refl _) _
      exact ⟨nodeAt_go (nodeAt_go HX.out.1 hb5) st, nodeAt_new _ _ _ _ _ _ _ _ _ _ _, rngAt_go (rngAt_go HR.out hb6) (st.mono hb6.size), rngAt_up (rngAt_go hr5 st) st.size, hb6.trans (st.mono hb6.size)⟩
    clear hr5 hb5 HX
    go_wp2_with fail
    refine (i_class _ _ _ _ _ _ _ _ _ L H r _ HN.out HC.out.2.2.2.1).mono ?_
    rintro e w7 ⟨rfl, hb7⟩
    rw [HV.out]
    replace HC := hide (cs_go HC.out hb7)
    clear hb7
    have hS0 := cs_all (cs_drew HC.out)
    go_wp2_with fail
    go_region_held3 (fun w' => CS w w' w5.heap.size g5 kd nt a n c A B mn mx L H ∧ (w'.cell? ⟨w.heap.size, 0, none⟩ = some (.int .i64 kd) ∧ w'.cell? ⟨w.heap.size, 1, none⟩ = some (.bool nt) ∧ w'.cell? ⟨w.heap.size, 2, none⟩ = some (.slice a n c) ∧ w'.cell? ⟨w.heap.size, 3, none⟩ = some (.int .i64 A) ∧ w'.cell? ⟨w.heap.size, 4, none⟩ = some (.int .i64 B) ∧ w'.cell? ⟨w.heap.size, 5, none⟩ = some (.int .i64 mn) ∧ w'.cell? ⟨w.heap.size, 6, none⟩ = some (.int .i64 mx)) ∧ w'.cell? ⟨w5.heap.size, 0, none⟩ = some (.int .i64 kd) ∧ w'.cell? ⟨w5.heap.size, 1, none⟩ = some (.bool nt) ∧ w'.cell? ⟨w5.heap.size, 2, none⟩ = some (.slice (some ⟨g5, 0, none⟩) n n) ∧ w'.cell? ⟨w5.heap.size, 3, none⟩ = some (.int .i64 A) ∧ w'.cell? ⟨w5.heap.size, 4, none⟩ = some (.int .i64 B) ∧ w'.cell? ⟨w5.heap.size, 5, none⟩ = some (.int .i64 mn) ∧ w'.cell? ⟨w5.heap.size, 6, none⟩ = some (.int .i64 mx)) (first | assumption | exact cs_all HTW.out | exact cs_all HTZ.out) (first | (go_at_call 6; refine (l_toN _ _ _ _ _ _ _ _ _ L H _ hn2 (cs_r (And.left (by assumption)))).mono ?_; rintro e wn ⟨G, rfl, hrn, hbn⟩; have HRn := hide hrn; (have HTW := hide (cs_go (And.left (by assumption)) hbn)); clear hrn hbn) | (go_at_call 8; refine (l_eqN _ _ _ _ _ _ _ _ _ _ _ L H _ hn2 HTW.out.2.2.2.1 HRn.out).mono ?_; rintro e wm ⟨rfl, hbm⟩; have HTZ := hide (cs_go HTW.out hbm); clear hbm))
    all_goals
      go_wp2
      go_ret
      exact ⟨rfl, HTZ.out.2.2.2.2⟩
end Go.Proofs.Ytlbimlpiohflhab
