/-
  Contracts: a node by itself, by the program.
-/
import Derived.Test.YtfohfljdgmlibaaPkS2
namespace Go.Proofs.Ytfohfljdgmlibaa
open Go.RowKit Go.Joins
set_option linter.unusedVariables false
set_option linter.unusedSimpArgs false
theorem p_iInT (x a b : Int) (w : World) (h : a ≤ x ∧ x ≤ b) : Calls Try.prog 57 #[.int .i64 x, .int .i64 a, .int .i64 b] w fun e w' => e = .returned (.bool true) ∧ w' = w := by
  obtain ⟨h1, h2⟩ := h
  go_enter Try.func57, Try.ntmps57
  go_wp2
  go_ret
  exact ⟨by simp_all, rfl⟩
theorem p_iInF (x a b : Int) (w : World) (h : ¬ (a ≤ x ∧ x ≤ b)) : Calls Try.prog 57 #[.int .i64 x, .int .i64 a, .int .i64 b] w fun e w' => e = .returned (.bool false) ∧ w' = w := by
  by_cases h1 : a ≤ x
  · have h2 : ¬ x ≤ b := fun e => h ⟨h1, e⟩
    clear h
    go_enter Try.func57, Try.ntmps57
    go_wp2
    go_ret
    exact ⟨by simp_all, rfl⟩
  · clear h
    go_enter Try.func57, Try.ntmps57
    go_wp2
    go_ret
    exact ⟨by simp_all, rfl⟩
set_option maxRecDepth 100000 in
set_option maxHeartbeats 8000000 in
theorem i_nodeOk (K : Int) (NM : ByteArray) (a : Option Addr) (n c : Nat) (OC : Int) (w : World) (hs : NM.size ≤ maxLen) (hn : n ≤ 1048576) :
    Calls Try.prog 29 #[.agg #[.int .i64 K, .string NM, .slice a n c, .int .i64 OC]] w fun e w' => e = .returned (.bool (ndB K NM n OC)) ∧ Below w.heap.size w w' := by
  have HZ1 := hide hs
  have HST := hide (fun (o : Obj) => (Below.refl w.heap.size w).alloc (Nat.le_refl _) o)
  clear hs
  by_cases ho : 0 ≤ OC ∧ OC ≤ 3
  · have HO := hide ho
    clear ho
    by_cases k1 : K = 1
    · have HE := hide (nd_1 (nm := NM) (n := n) HO.out k1)
      subst k1
      cases hnb : nameB NM
      · go_enter Try.func29, Try.ntmps29
        go_wp2_with (first | (go_at_call 57; refine (p_iInT _ _ _ _ HO.out).mono ?_; rintro e w2 ⟨rfl, rfl⟩) | (go_at_call 58; refine (i_name _ _ HZ1.out).mono ?_; rintro e w3 ⟨rfl, rfl⟩; rw [hnb]))
        go_ret
        exact ⟨ret_bool (by rw [HE.out, hnb]; rfl), HST.out _⟩
      · go_enter Try.func29, Try.ntmps29
        go_wp2_with (first | (go_at_call 57; refine (p_iInT _ _ _ _ HO.out).mono ?_; rintro e w2 ⟨rfl, rfl⟩) | (go_at_call 58; refine (i_name _ _ HZ1.out).mono ?_; rintro e w3 ⟨rfl, rfl⟩; rw [hnb]))
        go_ret
        exact ⟨ret_bool (by rw [HE.out, hnb, Bool.eq_iff_iff]; simp), HST.out _⟩
    · by_cases k4 : K = 4
      · have HE := hide (nd_4 (nm := NM) (n := n) HO.out k4)
        subst k4
        clear k1
        cases hnb : NM.toList.isEmpty
        · go_enter Try.func29, Try.ntmps29
          go_wp2_with (first | (go_at_call 57; refine (p_iInT _ _ _ _ HO.out).mono ?_; rintro e w2 ⟨rfl, rfl⟩))
          go_ret
          exact ⟨ret_bool (by rw [HE.out, hnb]; rfl), HST.out _⟩
        · go_enter Try.func29, Try.ntmps29
          go_wp2_with (first | (go_at_call 57; refine (p_iInT _ _ _ _ HO.out).mono ?_; rintro e w2 ⟨rfl, rfl⟩))
          go_ret
          exact ⟨ret_bool (by rw [HE.out, hnb, Bool.eq_iff_iff]; simp), HST.out _⟩
      · by_cases k2 : K = 2
        · have HE := hide (nd_2 (nm := NM) (n := n) HO.out k2)
          subst k2
          clear k1 k4
          go_enter Try.func29, Try.ntmps29
          go_wp2_with (first | (go_at_call 57; refine (p_iInT _ _ _ _ HO.out).mono ?_; rintro e w2 ⟨rfl, rfl⟩))
          go_ret
          exact ⟨ret_bool (by rw [HE.out]), HST.out _⟩
        · by_cases k3 : K = 3
          · have HE := hide (nd_3 (nm := NM) (n := n) HO.out k3)
            subst k3
            clear k1 k4 k2
            cases hnb : NM.toList.isEmpty
            · go_enter Try.func29, Try.ntmps29
              go_wp2_with (first | (go_at_call 57; refine (p_iInT _ _ _ _ HO.out).mono ?_; rintro e w2 ⟨rfl, rfl⟩))
              go_ret
              exact ⟨ret_bool (by rw [HE.out, hnb]; rfl), HST.out _⟩
            · go_enter Try.func29, Try.ntmps29
              go_wp2_with (first | (go_at_call 57; refine (p_iInT _ _ _ _ HO.out).mono ?_; rintro e w2 ⟨rfl, rfl⟩))
              go_ret
              exact ⟨ret_bool (by rw [HE.out, hnb, Bool.eq_iff_iff]; simp; omega), HST.out _⟩
          · have HE := hide (nd_9 (nm := NM) (n := n) (oc := OC) k1 k2 k3 k4)
            have f1 : (K == 1) = false := by simpa using k1
            have f2 : (K == 2) = false := by simpa using k2
            have f3 : (K == 3) = false := by simpa using k3
            have f4 : (K == 4) = false := by simpa using k4
            clear k1 k2 k3 k4
            go_enter Try.func29, Try.ntmps29
            go_wp2_with (first | (go_at_call 57; refine (p_iInT _ _ _ _ HO.out).mono ?_; rintro e w2 ⟨rfl, rfl⟩))
            go_ret
            exact ⟨ret_bool HE.out.symm, HST.out _⟩
  · have HE := hide (nd_no_oc (k := K) (nm := NM) (n := n) ho)
    have HO := hide ho
    clear ho
    go_enter Try.func29, Try.ntmps29
    go_wp2_with (first | (go_at_call 57; refine (p_iInF _ _ _ _ HO.out).mono ?_; rintro e w2 ⟨rfl, rfl⟩))
    go_ret
    exact ⟨ret_bool HE.out.symm, HST.out _⟩
end Go.Proofs.Ytfohfljdgmlibaa
