/-
  The walk of FnExactReadMarks: at every text the two answers are the same, the answer owns its memory, behind another call too.
-/
import Derived.Test.YtdbipaobanjbbaaDoorMrU
import Derived.Test.YtdbipaobanjbbaaDoorMrR
import Derived.Test.YtdbipaobanjbbaaDoorMrS
namespace Go.Proofs.YtdbipaobanjbbaaDoor
open Go.RowKit Go.Joins
set_option linter.unusedVariables false
set_option linter.unusedSimpArgs false
/-- One row and one word answer every reading of one text. -/
theorem rmk_one (s : ByteArray) : ∃ (L : List Mr) (ok : Bool), L.length ≤ 200 ∧ ∀ (w : World) (e : Ending) (w' : World), RmkAns s w e w' →
    Below w.heap.size w w' ∧ ∃ ad c, e = .returned (.tuple #[.slice ad L.length c, .bool ok]) ∧ MrO w.heap.size w' ad L.length c L := by
  by_cases h : ∃ L, OkL L ∧ txR L = s.data.toList
  · obtain ⟨L, hL, hx⟩ := h
    refine ⟨L, true, hL.1, fun w e w' ha => ⟨ha.1, ?_⟩⟩
    rcases ha.2 with ⟨L2, ad, n, c, h2, hx2, he, ho⟩ | ⟨hno, -⟩
    · have hE : L2 = L := tx_inj _ _ h2.2 hL.2 (hx2.trans hx.symm)
      subst hE
      have hl : L2.length = n := ho.2
      subst hl
      exact ⟨ad, c, he, ho⟩
    · exact absurd ⟨L, hL, hx⟩ hno
  · refine ⟨[], false, Nat.zero_le _, fun w e w' ha => ⟨ha.1, ?_⟩⟩
    rcases ha.2 with ⟨L2, ad, n, c, h2, hx2, he, ho⟩ | ⟨hno, he⟩
    · exact absurd ⟨L2, h2, hx2⟩ h
    · exact ⟨none, 0, he, mrO_nil _ _⟩
set_option maxRecDepth 100000 in
set_option maxHeartbeats 4000000 in
theorem readmarks_walk (s : ByteArray) (w : World) (hs : s.size ≤ maxLen) (hW : RmW w) :
    Calls Tryd.prog 3 #[.string s] w fun e w' => e = .returned (.bool true) ∧ Below w.heap.size w w' := by
  by_cases hb : 1048576 < s.size
  · have hbi : (1048576 : Int) < s.size := by omega
    clear hW
    go_enter Tryd.func3, Tryd.ntmps3
    go_wp2
    go_ret
    exact ⟨rfl, Below.refl _ _⟩
  have hbi : (s.size : Int) ≤ 1048576 := by omega
  have hz : s.size ≤ 1048576 := by omega
  have HW := hide hW
  have CS := hide (fun (W : World) => s_readMarks s W hz)
  have CI := hide (fun (W : World) (h : RmW W) => i_readMarks s W hz h)
  obtain ⟨L, ok, hL, hU⟩ := rmk_one s
  have HU := hide hU
  obtain ⟨n, hn⟩ : ∃ n, L.length = n := ⟨_, rfl⟩
  rw [hn] at HU hL
  have HN : Hid ((mkOf L).n = n) := hide hn
  have hn9 : n ≤ 1048576 := by omega
  have HN2 : Hid ((mkOf (mkN n)).n = n) := hide (mkN_len n)
  obtain ⟨K, hK⟩ : ∃ K : Int, ((1 + 5 * n : Nat) : Int) = K := ⟨_, rfl⟩
  have hK0 : ¬ K < 0 := by omega
  have HK := hide hK
  clear hU hW hz hb hn hL hK
  cases ok
  all_goals
    go_enter Tryd.func3, Tryd.ntmps3
    go_wp2_with fail
    refine (CS.out _).mono ?_
    intro e w1 h1
    obtain ⟨hb1, adA, cA, rfl, hoA⟩ := HU.out _ _ _ h1
    have HB1 := hide hb1
    have MA := hide (mrO_at hoA)
    clear h1 hb1 hoA
    go_wp2_with fail
    refine (CI.out _ (rmW_go HW.out HB1.out)).mono ?_
    intro e w2 h2
    obtain ⟨hb2, adB, cB, rfl, hoB⟩ := HU.out _ _ _ h2
    have OB := hide hoB
    have C2 := hide hb2
    clear h2 hb2 hoB
    go_wp2_with fail
    refine (l_eqMks (mkOf L) n adB adA cB cA _ HN.out hn9 (mrO_at OB.out) (mkAt_up (mkAt_go MA.out C2.out) C2.out.size)).mono ?_
    rintro e w3 ⟨rfl, hb3⟩
    have C3 := hide (C2.out.trans (hb3.mono C2.out.size))
    have OB3 := hide (mrO_go OB.out hb3)
    clear hb3
    go_wp2_with fail
    refine (markMk_any w1.heap.size adB n cB L _ hn9 C3.out.size OB3.out).mono ?_
    rintro e w4 ⟨rfl, ho4, hb4⟩
    rw [HK.out]
    have O4 := hide ho4
    have C4 := hide (C3.out.trans hb4)
    clear ho4 hb4
    go_wp2_with fail
    refine (heldMk adB n cB _ hn9 (mrO_at O4.out)).mono ?_
    rintro e w5 ⟨rfl, hb5⟩
    rw [HK.out]
    have O5 := hide (mrO_go O4.out hb5)
    have C5 := hide (C4.out.trans (hb5.mono C4.out.size))
    have HB5 := hide (HB1.out.trans (C5.out.mono HB1.out.size))
    clear hb5
    go_wp2_with fail
    refine (CI.out _ (rmW_go HW.out HB5.out)).mono ?_
    intro e w6 h6
    obtain ⟨hb6, adC, cC, rfl, hoC⟩ := HU.out _ _ _ h6
    have OC := hide hoC
    have O6 := hide (mrO_go O5.out hb6)
    have C6 := hide (C5.out.trans (hb6.mono C5.out.size))
    clear h6 hb6 hoC
    go_wp2_with fail
    refine (l_eqMks (mkOf L) n adC adA cC cA _ HN.out hn9 (mrO_at OC.out) (mkAt_up (mkAt_go MA.out C6.out) C6.out.size)).mono ?_
    rintro e w7 ⟨rfl, hb7⟩
    have O7 := hide (mrO_go O6.out hb7)
    have C7 := hide (C6.out.trans (hb7.mono C6.out.size))
    clear hb7
    go_wp2_with fail
    refine (heldMk adB n cB _ hn9 (mrO_at O7.out)).mono ?_
    rintro e w8 ⟨rfl, hb8⟩
    rw [HK.out]
    have C8 := hide (C7.out.trans (hb8.mono C7.out.size))
    clear hb8
    go_wp2
    go_ret
    exact ⟨rfl, HB1.out.trans (C8.out.mono HB1.out.size)⟩
end Go.Proofs.YtdbipaobanjbbaaDoor
