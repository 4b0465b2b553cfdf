/-
  The walk of the law on a text's own expression: at every text both answer the same nodes, and the program's answer owns its memory.
-/
import Derived.Test.YtckemldmdgmjjaaDoorLiI
namespace Go.Proofs.YtckemldmdgmjjaaDoor
open Go.RowKit Go.Joins
set_option linter.unusedVariables false
set_option linter.unusedSimpArgs false
set_option maxRecDepth 100000 in
set_option maxHeartbeats 8000000 in
theorem li_walk (s : ByteArray) (w : World) (hs0 : s.size ≤ maxLen) (hT : Tabs w) :
    Calls Tryd.prog 3 #[.string s] w fun e w' => e = .returned (.bool true) ∧ Below w.heap.size w w' := by
  by_cases hbig : s.size ≤ 1048576
  · have hb1 : ¬ (1048576 : Int) < (s.size : Int) := by omega
    have HT := hide hT
    obtain ⟨V, ok, hkl, hcs, hci⟩ : ∃ V ok, V.length ≤ 119 ∧ (∀ W, Calls Tryd.prog 4 #[.string s] W (LtAns V ok W)) ∧ (∀ W, Tabs W → Calls Tryd.prog 5 #[.string s] W (LtAns V ok W)) := ⟨litV (outL (rns s)) (rns s).isSome, litB (outL (rns s)) (rns s).isSome, litV_len _ _, fun W => s_literal s _ _ W hbig rfl rfl, fun W hW => i_literal s _ _ W hbig hW rfl rfl⟩
    have CS := hide hcs
    have CI := hide hci
    unfold LtAns at CS CI
    obtain ⟨vn, hvn⟩ : ∃ vn, V.length = vn := ⟨_, rfl⟩
    have HVN := hide hvn
    rw [hvn] at CS CI hkl
    clear hcs hci hT hvn
    go_enter Tryd.func3, Tryd.ntmps3
    go_wp2_with fail
    refine (CS.out _).mono ?_
    rintro e w1 ⟨adA, cA, rfl, hoA, hb1'⟩
    have HB1 := hide hb1'
    have OA := hide (xo_imp (T := fun j => j < w1.heap.size) hoA (fun j hj _ => hj))
    have HVS := hide (xo_small hoA)
    clear hoA hb1'
    go_wp2_with fail
    refine (CI.out _ (tabs_below HT.out HB1.out)).mono ?_
    rintro e w2 ⟨adB, cB, rfl, hoB, hb2⟩
    have HB2 := hide (HB1.out.trans (hb2.mono HB1.out.size))
    have hs12 := hb2.size
    have OB := hide hoB
    have OA2 := hide (xo_below OA.out hb2)
    have CE := hide (fun (W : World) (x y : Option Addr) (cx cy : Nat) (hx : RxAt W x (rxOf V) W.heap.size) (hy : RxAt W y (rxOf V) W.heap.size) => l_eqNs (rxOf V) vn x y cx cy W HVN.out (by omega) (fun j hj => by
      have hj' : j < V.length := by rw [HVN.out]; exact hj
      have h9 := HVS.out j V[j] (List.getElem?_eq_getElem hj')
      show (ndAt V j).L.length ≤ 1048576
      rw [ndAt_of (List.getElem?_eq_getElem hj')]
      omega) hx hy)
    clear hoB hb2
    go_wp2_with fail
    refine (CE.out _ adB adA cB cA (xo_rx OB.out) (xo_rx OA2.out)).mono ?_
    rintro e w3 ⟨rfl, hb3⟩
    have HB3 := hide (HB2.out.trans (hb3.mono HB2.out.size))
    have OA3 := hide (xo_below OA2.out hb3)
    have OB3 := hide (xo_below OB.out hb3)
    have hs3 : w1.heap.size ≤ w3.heap.size := Nat.le_trans hs12 hb3.size
    have hs1 := HB1.out.size
    clear hb3
    cases ok
    all_goals
      go_wp2_with fail
      refine (l_markNs w1.heap.size adB vn cB V w3 HVN.out (by omega) hs3 OB3.out).mono ?_
      rintro e w4 ⟨rfl, ho4, hb4⟩
      have O4 := hide ho4
      have OA4 : Hid (XO w.heap.size (fun j => j < w1.heap.size) w4 adA cA V) := hide (xo_kp (T := fun j => w1.heap.size ≤ j) OA3.out ⟨hb4.os, hb4.tape, hb4.output, hb4.size, fun j hj hn9 => hb4.block j (by omega)⟩ (fun j hj e9 => by
        obtain ⟨xs, hx, -⟩ := OA.out
        have h1 := (hx.lt j hj).2
        omega) (fun B' z n' v ys j hv hj hs9 e9 => by have h1 : j < w1.heap.size := hs9; have e9' : w1.heap.size ≤ j := e9; omega))
      have HB4 := hide (HB3.out.trans (hb4.mono hs1))
      have hkq := cnt_le (X := V) HVS.out vn (by rw [HVN.out]; exact Nat.le_refl _)
      have hq0 : ¬ ((cntN V vn : Nat) : Int) < 0 := by omega
      clear ho4 hb4
      go_wp2_with fail
      refine (l_heldNs w1.heap.size _ adB vn cB V _ HVN.out (by omega) HVS.out O4.out).mono ?_
      rintro e w5 ⟨rfl, hw5⟩
      rw [hw5]
      clear hw5 w5
      go_wp2_with fail
      refine (CI.out _ (tabs_below HT.out HB4.out)).mono ?_
      rintro e w6 ⟨adC, cC, rfl, hoC, hb6⟩
      have OC := hide hoC
      have HB6 := hide (HB4.out.trans (hb6.mono HB4.out.size))
      have OA6 := hide (xo_below OA4.out hb6)
      have O6 := hide (xo_below O4.out hb6)
      clear hoC hb6
      go_wp2_with fail
      refine (CE.out _ adC adA cC cA (xo_rx OC.out) (xo_rx OA6.out)).mono ?_
      rintro e w7 ⟨rfl, hb7⟩
      have HB7 := hide (HB6.out.trans (hb7.mono HB6.out.size))
      have O7 := hide (xo_below O6.out hb7)
      clear hb7
      go_wp2_with fail
      refine (l_heldNs w1.heap.size _ adB vn cB V _ HVN.out (by omega) HVS.out O7.out).mono ?_
      rintro e w8 ⟨rfl, hw8⟩
      rw [hw8]
      clear hw8 w8
      go_wp2
      go_ret
      exact ⟨rfl, HB7.out⟩
  · have hb1 : (1048576 : Int) < (s.size : Int) := by omega
    go_enter Tryd.func3, Tryd.ntmps3
    go_wp2
    go_ret
    exact ⟨rfl, Below.refl _ _⟩
end Go.Proofs.YtckemldmdgmjjaaDoor
