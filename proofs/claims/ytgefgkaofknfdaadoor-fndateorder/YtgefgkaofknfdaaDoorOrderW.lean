/-
  The walk of the law on the order of dates.
-/
import Derived.Test.YtgefgkaofknfdaaDoorDrawTwoD
import Derived.Test.YtgefgkaofknfdaaDoorCmpDate
namespace Go.Proofs.YtgefgkaofknfdaaDoor
open Go.RowKit Go.Joins
set_option linter.unusedVariables false
set_option linter.unusedSimpArgs false
theorem order_facts (a0 a1 a2 a3 a4 a5 : Int) (a6 : Bool) (a7 : Int) (b0 b1 b2 b3 b4 b5 : Int) (b6 : Bool) (b7 : Int) {c k x y : Int} (hc : cmpDB a0 a1 a2 a3 a4 a5 a6 a7 b0 b1 b2 b3 b4 b5 b6 b7 = c) (hk : cmpDB b0 b1 b2 b3 b4 b5 b6 b7 a0 a1 a2 a3 a4 a5 a6 a7 = k) (hx : secsB a0 a1 a2 a3 a4 a5 a6 a7 = x) (hy : secsB b0 b1 b2 b3 b4 b5 b6 b7 = y) :
    ((c = 2 ∨ c = 3) ∧ k = c) ∨ (c = -1 ∧ k = 1 ∧ x < y) ∨ (c = 0 ∧ k = 0 ∧ x = y) ∨ (c = 1 ∧ k = -1 ∧ y < x) := by
  unfold cmpDB at hc hk
  unfold secsB at hx hy
  by_cases ha : dateB a0 a1 a2 a3 a4 a5 a6 a7 = true
  · by_cases hb : dateB b0 b1 b2 b3 b4 b5 b6 b7 = true
    · rw [if_pos ⟨ha, hb⟩] at hc
      rw [if_pos ⟨hb, ha⟩] at hk
      rw [if_pos ha] at hx
      rw [if_pos hb] at hy
      rw [hx, hy] at hc hk
      unfold cmpG sgn at hc hk
      by_cases hg : a6 = b6
      · rw [if_pos hg] at hc
        rw [if_pos hg.symm] at hk
        split at hc
        · rw [if_neg (by omega), if_pos (by omega)] at hk; omega
        · split at hc
          · rw [if_pos (by omega)] at hk; omega
          · rw [if_neg (by omega), if_neg (by omega)] at hk; omega
      · rw [if_neg hg] at hc
        rw [if_neg (fun e => hg e.symm)] at hk
        split at hc
        · rw [if_neg (by omega), if_pos (by omega)] at hk; omega
        · split at hc
          · rw [if_pos (by omega)] at hk; omega
          · rw [if_neg (by omega), if_neg (by omega)] at hk; omega
    · rw [if_neg (fun h => hb h.2)] at hc
      rw [if_neg (fun h => hb h.1)] at hk
      omega
  · rw [if_neg (fun h => ha h.1)] at hc
    rw [if_neg (fun h => ha h.2)] at hk
    omega
set_option maxRecDepth 100000 in
set_option maxHeartbeats 8000000 in
theorem order_walk (a : Option Addr) (n cap : Nat) (zs : List Int) (w : World) (hl : zs.length = n) (hz : ∀ x ∈ zs, 0 ≤ x ∧ x ≤ 255) (hn : n ≤ 1048576) (hs : SrcAt w a zs w.heap.size) (ht : MTab 0 w) :
    Calls Tryd.prog 3 #[.slice a n cap] w fun e w' => e = .returned (.bool true) ∧ Below w.heap.size w w' := by
  have hn' : ¬ (1048576 : Int) < (n : Int) := by omega
  have HS := hide hs
  have HL := hide hl
  have HZ := hide hz
  have HT := hide ht
  clear hs hl hz ht
  go_enter Tryd.func3, Tryd.ntmps3
  go_wp2_with (go_at_call 4; go_in)
  refine (d_twod a n cap zs _ HL.out HZ.out hn HS.out).mono ?_
  rintro e w1 ⟨a0, a1, a2, a3, a4, a5, a6, a7, b0, b1, b2, b3, b4, b5, b6, b7, rfl, hb1⟩
  have HB1 := hide hb1
  clear hb1
  go_wp2_with fail
  have h2 := dbox_2 w1 a0 a1 a2 a3 a4 a5 a6 a7 b0 b1 b2 b3 b4 b5 b6 b7 25 25
  have S0 := hide h2
  clear h2
  have MT := hide (mtab_go HT.out HB1.out)
  obtain ⟨c, hc⟩ : ∃ c, cmpDB a0 a1 a2 a3 a4 a5 a6 a7 b0 b1 b2 b3 b4 b5 b6 b7 = c := ⟨_, rfl⟩
  obtain ⟨k, hk⟩ : ∃ k, cmpDB b0 b1 b2 b3 b4 b5 b6 b7 a0 a1 a2 a3 a4 a5 a6 a7 = k := ⟨_, rfl⟩
  obtain ⟨x, hx⟩ : ∃ x, secsB a0 a1 a2 a3 a4 a5 a6 a7 = x := ⟨_, rfl⟩
  obtain ⟨y, hy⟩ : ∃ y, secsB b0 b1 b2 b3 b4 b5 b6 b7 = y := ⟨_, rfl⟩
  have HF := hide (order_facts a0 a1 a2 a3 a4 a5 a6 a7 b0 b1 b2 b3 b4 b5 b6 b7 hc hk hx hy)
  have HC := hide hc
  have HK := hide hk
  have HX := hide hx
  have HY := hide hy
  clear hc hk hx hy
  refine (i_cmpdate a0 a1 a2 a3 a4 a5 a6 a7 b0 b1 b2 b3 b4 b5 b6 b7 _ (mtab_go MT.out S0.out.2.2)).mono ?_
  rintro e v1 ⟨rfl, hb⟩
  rw [HC.out]
  have S1 := hide (And.intro (dbox_go S0.out.1 hb) (And.intro (dbox_go S0.out.2.1 hb) (below_go S0.out.2.2 hb)))
  clear hb
  obtain ⟨k0, k1, k2, k3, k4, k5, k6, k7, k8⟩ := S1.out.1
  obtain ⟨l0, l1, l2, l3, l4, l5, l6, l7, l8⟩ := S1.out.2.1
  clear k0 l0
  go_wp2_with fail
  refine (i_cmpdate b0 b1 b2 b3 b4 b5 b6 b7 a0 a1 a2 a3 a4 a5 a6 a7 _ (mtab_go MT.out S1.out.2.2)).mono ?_
  rintro e v2 ⟨rfl, hb⟩
  rw [HK.out]
  have S2 := hide (And.intro (dbox_go S1.out.1 hb) (And.intro (dbox_go S1.out.2.1 hb) (below_go S1.out.2.2 hb)))
  clear hb k1 k2 k3 k4 k5 k6 k7 k8 l1 l2 l3 l4 l5 l6 l7 l8
  obtain ⟨k0, k1, k2, k3, k4, k5, k6, k7, k8⟩ := S2.out.1
  obtain ⟨l0, l1, l2, l3, l4, l5, l6, l7, l8⟩ := S2.out.2.1
  clear k0 l0
  go_wp2_with fail
  refine (s_cmpdate a0 a1 a2 a3 a4 a5 a6 a7 b0 b1 b2 b3 b4 b5 b6 b7 _).mono ?_
  rintro e v3 ⟨rfl, hb⟩
  rw [HC.out]
  have S3 := hide (And.intro (dbox_go S2.out.1 hb) (And.intro (dbox_go S2.out.2.1 hb) (below_go S2.out.2.2 hb)))
  clear hb k1 k2 k3 k4 k5 k6 k7 k8 l1 l2 l3 l4 l5 l6 l7 l8
  rcases HF.out with ⟨hc, hk⟩ | ⟨hc, hk, hxy⟩ | ⟨hc, hk, hxy⟩ | ⟨hc, hk, hxy⟩
  · subst hk
    have hgt : 1 < k := by omega
    obtain ⟨k0, k1, k2, k3, k4, k5, k6, k7, k8⟩ := S3.out.1
    obtain ⟨l0, l1, l2, l3, l4, l5, l6, l7, l8⟩ := S3.out.2.1
    clear k0 l0
    go_wp2_with fail
    refine (s_cmpdate a0 a1 a2 a3 a4 a5 a6 a7 b0 b1 b2 b3 b4 b5 b6 b7 _).mono ?_
    rintro e v4 ⟨rfl, hb⟩
    rw [HC.out]
    have S4 := hide (And.intro (dbox_go S3.out.1 hb) (And.intro (dbox_go S3.out.2.1 hb) (below_go S3.out.2.2 hb)))
    clear hb k1 k2 k3 k4 k5 k6 k7 k8 l1 l2 l3 l4 l5 l6 l7 l8
    go_wp2
    go_ret
    exact ⟨rfl, below_go HB1.out S4.out.2.2⟩
  · subst hc
    subst hk
    obtain ⟨k0, k1, k2, k3, k4, k5, k6, k7, k8⟩ := S3.out.1
    obtain ⟨l0, l1, l2, l3, l4, l5, l6, l7, l8⟩ := S3.out.2.1
    clear k0 l0
    go_wp2_with fail
    refine (i_seconds a0 a1 a2 a3 a4 a5 a6 a7 _ (mtab_go MT.out S3.out.2.2)).mono ?_
    rintro e v4 ⟨rfl, hb⟩
    rw [HX.out]
    have S4 := hide (And.intro (dbox_go S3.out.1 hb) (And.intro (dbox_go S3.out.2.1 hb) (below_go S3.out.2.2 hb)))
    clear hb k1 k2 k3 k4 k5 k6 k7 k8 l1 l2 l3 l4 l5 l6 l7 l8
    obtain ⟨k0, k1, k2, k3, k4, k5, k6, k7, k8⟩ := S4.out.1
    obtain ⟨l0, l1, l2, l3, l4, l5, l6, l7, l8⟩ := S4.out.2.1
    clear k0 l0
    go_wp2_with fail
    refine (i_seconds b0 b1 b2 b3 b4 b5 b6 b7 _ (mtab_go MT.out S4.out.2.2)).mono ?_
    rintro e v5 ⟨rfl, hb⟩
    rw [HY.out]
    have S5 := hide (And.intro (dbox_go S4.out.1 hb) (And.intro (dbox_go S4.out.2.1 hb) (below_go S4.out.2.2 hb)))
    clear hb k1 k2 k3 k4 k5 k6 k7 k8 l1 l2 l3 l4 l5 l6 l7 l8
    obtain ⟨k0, k1, k2, k3, k4, k5, k6, k7, k8⟩ := S5.out.1
    obtain ⟨l0, l1, l2, l3, l4, l5, l6, l7, l8⟩ := S5.out.2.1
    clear k0 l0
    have g1 : ¬ y < x := by omega
    have g2 : (x == y) = false := by simp; omega
    cases a6 <;> cases b6
    all_goals
      go_wp2
      go_ret
      exact ⟨by first | rfl | (simp [hxy, g1]; done) | (simp_all; done), below_go HB1.out S5.out.2.2⟩
  · subst hc
    subst hk
    obtain ⟨k0, k1, k2, k3, k4, k5, k6, k7, k8⟩ := S3.out.1
    obtain ⟨l0, l1, l2, l3, l4, l5, l6, l7, l8⟩ := S3.out.2.1
    clear k0 l0
    go_wp2_with fail
    refine (i_seconds a0 a1 a2 a3 a4 a5 a6 a7 _ (mtab_go MT.out S3.out.2.2)).mono ?_
    rintro e v4 ⟨rfl, hb⟩
    rw [HX.out]
    have S4 := hide (And.intro (dbox_go S3.out.1 hb) (And.intro (dbox_go S3.out.2.1 hb) (below_go S3.out.2.2 hb)))
    clear hb k1 k2 k3 k4 k5 k6 k7 k8 l1 l2 l3 l4 l5 l6 l7 l8
    obtain ⟨k0, k1, k2, k3, k4, k5, k6, k7, k8⟩ := S4.out.1
    obtain ⟨l0, l1, l2, l3, l4, l5, l6, l7, l8⟩ := S4.out.2.1
    clear k0 l0
    go_wp2_with fail
    refine (i_seconds b0 b1 b2 b3 b4 b5 b6 b7 _ (mtab_go MT.out S4.out.2.2)).mono ?_
    rintro e v5 ⟨rfl, hb⟩
    rw [HY.out]
    have S5 := hide (And.intro (dbox_go S4.out.1 hb) (And.intro (dbox_go S4.out.2.1 hb) (below_go S4.out.2.2 hb)))
    clear hb k1 k2 k3 k4 k5 k6 k7 k8 l1 l2 l3 l4 l5 l6 l7 l8
    obtain ⟨k0, k1, k2, k3, k4, k5, k6, k7, k8⟩ := S5.out.1
    obtain ⟨l0, l1, l2, l3, l4, l5, l6, l7, l8⟩ := S5.out.2.1
    clear k0 l0
    subst hxy
    have g1 : ¬ x < x := by omega
    cases a6 <;> cases b6
    all_goals
      go_wp2
      go_ret
      exact ⟨by first | rfl | (simp [hxy, g1]; done) | (simp_all; done), below_go HB1.out S5.out.2.2⟩
  · subst hc
    subst hk
    obtain ⟨k0, k1, k2, k3, k4, k5, k6, k7, k8⟩ := S3.out.1
    obtain ⟨l0, l1, l2, l3, l4, l5, l6, l7, l8⟩ := S3.out.2.1
    clear k0 l0
    go_wp2_with fail
    refine (i_seconds a0 a1 a2 a3 a4 a5 a6 a7 _ (mtab_go MT.out S3.out.2.2)).mono ?_
    rintro e v4 ⟨rfl, hb⟩
    rw [HX.out]
    have S4 := hide (And.intro (dbox_go S3.out.1 hb) (And.intro (dbox_go S3.out.2.1 hb) (below_go S3.out.2.2 hb)))
    clear hb k1 k2 k3 k4 k5 k6 k7 k8 l1 l2 l3 l4 l5 l6 l7 l8
    obtain ⟨k0, k1, k2, k3, k4, k5, k6, k7, k8⟩ := S4.out.1
    obtain ⟨l0, l1, l2, l3, l4, l5, l6, l7, l8⟩ := S4.out.2.1
    clear k0 l0
    go_wp2_with fail
    refine (i_seconds b0 b1 b2 b3 b4 b5 b6 b7 _ (mtab_go MT.out S4.out.2.2)).mono ?_
    rintro e v5 ⟨rfl, hb⟩
    rw [HY.out]
    have S5 := hide (And.intro (dbox_go S4.out.1 hb) (And.intro (dbox_go S4.out.2.1 hb) (below_go S4.out.2.2 hb)))
    clear hb k1 k2 k3 k4 k5 k6 k7 k8 l1 l2 l3 l4 l5 l6 l7 l8
    obtain ⟨k0, k1, k2, k3, k4, k5, k6, k7, k8⟩ := S5.out.1
    obtain ⟨l0, l1, l2, l3, l4, l5, l6, l7, l8⟩ := S5.out.2.1
    clear k0 l0
    have g1 : ¬ x < y := by omega
    have g2 : (x == y) = false := by simp; omega
    cases a6 <;> cases b6
    all_goals
      go_wp2
      go_ret
      exact ⟨by first | rfl | (simp [hxy, g1]; done) | (simp_all; done), below_go HB1.out S5.out.2.2⟩
end Go.Proofs.YtgefgkaofknfdaaDoor
