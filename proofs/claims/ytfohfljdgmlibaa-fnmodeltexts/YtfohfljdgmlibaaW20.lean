/-
  Texts put together: PkI, PkB.
-/
import Derived.Test.YtfohfljdgmlibaaW8
import Derived.RangeFuncBox
import Derived.RangeFuncLeaves
import Derived.Shelf.Abstract
import Derived.OwnWalkIn
import Derived.TacticsInMore
import Derived.LoopNIn
import Derived.LoopIn
/-
  Contracts: a node by itself, by the program.
-/
namespace Go.Proofs.Ytfohfljdgmlibaa
open Go.RowKit Go.Joins
set_option linter.unusedVariables false
set_option linter.unusedSimpArgs false
theorem p_iInT (x a b : Int) (w : World) (h : a ≤ x ∧ x ≤ b) : Calls Try.prog 57 #[.int .i64 x, .int .i64 a, .int .i64 b] w fun e w' => e = .returned (.bool true) ∧ w' = w := by
  obtain ⟨h1, h2⟩ := h
  go_enter Try.func57, Try.ntmps57
  go_wp2
  go_ret
  exact ⟨by simp_all, rfl⟩
theorem p_iInF (x a b : Int) (w : World) (h : ¬ (a ≤ x ∧ x ≤ b)) : Calls Try.prog 57 #[.int .i64 x, .int .i64 a, .int .i64 b] w fun e w' => e = .returned (.bool false) ∧ w' = w := by
  by_cases h1 : a ≤ x
  · have h2 : ¬ x ≤ b := fun e => h ⟨h1, e⟩
    clear h
    go_enter Try.func57, Try.ntmps57
    go_wp2
    go_ret
    exact ⟨by simp_all, rfl⟩
  · clear h
    go_enter Try.func57, Try.ntmps57
    go_wp2
    go_ret
    exact ⟨by simp_all, rfl⟩
set_option maxRecDepth 100000 in
set_option maxHeartbeats 8000000 in
theorem i_nodeOk (K : Int) (NM : ByteArray) (a : Option Addr) (n c : Nat) (OC : Int) (w : World) (hs : NM.size ≤ maxLen) (hn : n ≤ 1048576) :
    Calls Try.prog 29 #[.agg #[.int .i64 K, .string NM, .slice a n c, .int .i64 OC]] w fun e w' => e = .returned (.bool (ndB K NM n OC)) ∧ Below w.heap.size w w' := by
  have HZ1 := hide hs
  have HST := hide (fun (o : Obj) => (Below.refl w.heap.size w).alloc (Nat.le_refl _) o)
  clear hs
  by_cases ho : 0 ≤ OC ∧ OC ≤ 3
  · have HO := hide ho
    clear ho
    by_cases k1 : K = 1
    · have HE := hide (nd_1 (nm := NM) (n := n) HO.out k1)
      subst k1
      cases hnb : nameB NM
      · go_enter Try.func29, Try.ntmps29
        go_wp2_with (first | (go_at_call 57; refine (p_iInT _ _ _ _ HO.out).mono ?_; rintro e w2 ⟨rfl, rfl⟩) | (go_at_call 58; refine (i_name _ _ HZ1.out).mono ?_; rintro e w3 ⟨rfl, rfl⟩; rw [hnb]))
        go_ret
        exact ⟨ret_bool (by rw [HE.out, hnb]; rfl), HST.out _⟩
      · go_enter Try.func29, Try.ntmps29
        go_wp2_with (first | (go_at_call 57; refine (p_iInT _ _ _ _ HO.out).mono ?_; rintro e w2 ⟨rfl, rfl⟩) | (go_at_call 58; refine (i_name _ _ HZ1.out).mono ?_; rintro e w3 ⟨rfl, rfl⟩; rw [hnb]))
        go_ret
        exact ⟨ret_bool (by rw [HE.out, hnb, Bool.eq_iff_iff]; simp), HST.out _⟩
    · by_cases k4 : K = 4
      · have HE := hide (nd_4 (nm := NM) (n := n) HO.out k4)
        subst k4
        clear k1
        cases hnb : NM.toList.isEmpty
        · go_enter Try.func29, Try.ntmps29
          go_wp2_with (first | (go_at_call 57; refine (p_iInT _ _ _ _ HO.out).mono ?_; rintro e w2 ⟨rfl, rfl⟩))
          go_ret
          exact ⟨ret_bool (by rw [HE.out, hnb]; rfl), HST.out _⟩
        · go_enter Try.func29, Try.ntmps29
          go_wp2_with (first | (go_at_call 57; refine (p_iInT _ _ _ _ HO.out).mono ?_; rintro e w2 ⟨rfl, rfl⟩))
          go_ret
          exact ⟨ret_bool (by rw [HE.out, hnb, Bool.eq_iff_iff]; simp), HST.out _⟩
      · by_cases k2 : K = 2
        · have HE := hide (nd_2 (nm := NM) (n := n) HO.out k2)
          subst k2
          clear k1 k4
          go_enter Try.func29, Try.ntmps29
          go_wp2_with (first | (go_at_call 57; refine (p_iInT _ _ _ _ HO.out).mono ?_; rintro e w2 ⟨rfl, rfl⟩))
          go_ret
          exact ⟨ret_bool (by rw [HE.out]), HST.out _⟩
        · by_cases k3 : K = 3
          · have HE := hide (nd_3 (nm := NM) (n := n) HO.out k3)
            subst k3
            clear k1 k4 k2
            cases hnb : NM.toList.isEmpty
            · go_enter Try.func29, Try.ntmps29
              go_wp2_with (first | (go_at_call 57; refine (p_iInT _ _ _ _ HO.out).mono ?_; rintro e w2 ⟨rfl, rfl⟩))
              go_ret
              exact ⟨ret_bool (by rw [HE.out, hnb]; rfl), HST.out _⟩
            · go_enter Try.func29, Try.ntmps29
              go_wp2_with (first | (go_at_call 57; refine (p_iInT _ _ _ _ HO.out).mono ?_; rintro e w2 ⟨rfl, rfl⟩))
              go_ret
              exact ⟨ret_bool (by rw [HE.out, hnb, Bool.eq_iff_iff]; simp; omega), HST.out _⟩
          · have HE := hide (nd_9 (nm := NM) (n := n) (oc := OC) k1 k2 k3 k4)
            have f1 : (K == 1) = false := by simpa using k1
            have f2 : (K == 2) = false := by simpa using k2
            have f3 : (K == 3) = false := by simpa using k3
            have f4 : (K == 4) = false := by simpa using k4
            clear k1 k2 k3 k4
            go_enter Try.func29, Try.ntmps29
            go_wp2_with (first | (go_at_call 57; refine (p_iInT _ _ _ _ HO.out).mono ?_; rintro e w2 ⟨rfl, rfl⟩))
            go_ret
            exact ⟨ret_bool HE.out.symm, HST.out _⟩
  · have HE := hide (nd_no_oc (k := K) (nm := NM) (n := n) ho)
    have HO := hide ho
    clear ho
    go_enter Try.func29, Try.ntmps29
    go_wp2_with (first | (go_at_call 57; refine (p_iInF _ _ _ _ HO.out).mono ?_; rintro e w2 ⟨rfl, rfl⟩))
    go_ret
    exact ⟨ret_bool HE.out.symm, HST.out _⟩
end Go.Proofs.Ytfohfljdgmlibaa

/-
  Contracts: slices.Backward over a row of numbers, and a node's stem, by the program.
-/
namespace Go.Proofs.Ytfohfljdgmlibaa
open Go.RowKit Go.Joins Go.Shelf
set_option linter.unusedVariables false
set_option linter.unusedSimpArgs false
attribute [local go_sem] Oper.semAt_some
def upto {α : Type} (f : Nat → α) (k : Nat) : List α := (List.range k).map f
theorem upto_succ {α : Type} (f : Nat → α) (k : Nat) : upto f (k + 1) = upto f k ++ [f k] := by simp [upto, List.range_succ]
theorem upto_length {α : Type} (f : Nat → α) (k : Nat) : (upto f k).length = k := by simp [upto]
/-- What comes: the places from the last one on, with what stands there. -/
def bkF (zs : List Int) (j : Nat) : Nat × Int := (zs.length - 1 - j, zs[zs.length - 1 - j]?.getD 0)
def KpB (n₀ Bs : Nat) (W W' : World) : Prop := Below n₀ W W' ∧ W'.cell? ⟨Bs, 0, none⟩ = W.cell? ⟨Bs, 0, none⟩
theorem kpB_t {n₀ Bs : Nat} {A B C : World} (h : KpB n₀ Bs A B) (k : KpB n₀ Bs B C) : KpB n₀ Bs A C := ⟨h.1.trans k.1, k.2.trans h.2⟩
theorem kpB_b {n₀ Bs : Nat} {w : World} (hn : n₀ ≤ w.heap.size) (hB : Bs < w.heap.size) (W : World) (l : Nat) (o o' : Obj) (hl : w.heap.size ≤ l) (h : W.heap[l]? = some o) (h1 : o.isCells = false) (h2 : o.isWalk = false) : KpB n₀ Bs W (W.putObj l o') :=
  ⟨belowK_b hn W l o o' hl h h1 h2, World.cell?_of_block (World.putObj_heap_other (by show Bs ≠ l; omega))⟩
set_option maxRecDepth 100000 in
set_option maxHeartbeats 2000000 in
theorem back1_in (F : Fence) (n : Nat) (h7 : F.fn 75) (hro : F.round = none) (hn : 1 ≤ n) (l Bs n₀ len cap : Nat) (ad : Option Addr) (zs : List Int) (hlen : zs.length = len) (hreach : len ≤ 1048576) (J Jx : List (Nat × Int) → World → Prop)
    (hY : ∀ pre x W, J pre W → pre.length < len → YieldAt F (n - 1) Try.prog l #[.int .i64 (x.1 : Int), .int .i64 x.2] W fun e W' =>
      (e = .returned (.bool true) ∧ J (pre ++ [x]) W' ∧ KpB n₀ Bs W W') ∨ (e = .returned (.bool false) ∧ Jx (pre ++ [x]) W'))
    (W : World) (hBs : W.cell? ⟨Bs, 0, none⟩ = some (.slice ad len cap)) (hc : RowAt .i64 W ad zs n₀) (h0 : J [] W) :
    CallsIn F n Try.prog 75 #[.func (.yield l) #[] #[], .pointer (some ⟨Bs, 0, none⟩)] W fun e W' => (∃ v, e = .returned v) ∧
      ((∃ ys, ys = upto (bkF zs) len ∧ J ys W') ∨ (∃ pre, (∃ k, k ≤ len ∧ pre = upto (bkF zs) k) ∧ Jx pre W')) := by
  refine callsIn_of_wp Try.func75 rfl h7 ?_ hro
  simp only [Try.ntmps75, List.size_toArray, List.length_cons, List.length_nil, Nat.reduceAdd, Nat.reduceSub, Array.replicate_succ, Array.replicate_zero, List.push_toArray, List.append_toArray, List.nil_append, List.cons_append]
  have HC := hide hc
  have HL := hide hlen
  clear hc hlen
  gi_wp2
  gi_loopw [3] (fun i wr => ∃ k : Nat, k ≤ len ∧ i = .int .i64 ((len : Int) - 1 - k) ∧ J (upto (bkF zs) k) wr ∧ KpB n₀ Bs W wr)
    (fun i _ => (intOf i + 1).toNat)
  case atStart => exact ⟨0, Nat.zero_le _, by simp, h0, ⟨Below.refl _ _, rfl⟩⟩
  case round =>
    obtain ⟨k, hk, rfl, hJs, hnx, hbx⟩ := hrel
    have hb9 := hbx.trans hBs
    by_cases hlt : k < len
    · obtain ⟨b, off, rfl, hb, hcc⟩ := HC.out (fun e => by have := HL.out; rw [e] at this; simp at this; omega)
      have hcx : wr.cell? ⟨b, off + (len - 1 - k), none⟩ = some (.int .i64 (zs[len - 1 - k]?.getD 0)) := (hnx.cell (p := ⟨b, off + (len - 1 - k), none⟩) hb).trans (hcc _ (by rw [HL.out]; omega))
      obtain ⟨m, hm⟩ : ∃ m, len - 1 - k = m := ⟨_, rfl⟩
      have hmi : (len : Int) - 1 - (k : Int) = (m : Int) := by omega
      have hbk : bkF zs k = (m, zs[m]?.getD 0) := by unfold bkF; rw [HL.out, hm]
      obtain ⟨fn, tmps, assign, body, hy, hR⟩ := hY _ (m, zs[m]?.getD 0) wr hJs (by rw [upto_length]; exact hlt)
      dsimp only at hy
      rw [hm] at hcx
      rw [hmi]
      have hml : (m : Int) < (len : Int) := by omega
      have HM := hide hm
      have HBK := hide hbk
      have HNX := hide hnx
      have HBX := hide hbx
      clear hcc hm hbk hnx hbx
      gi_wp2
      refine hR.mono ?_
      rintro e W3 (⟨rfl, hJ3, hk3⟩ | ⟨rfl, hJx3⟩)
      · gi_wp2
        go_roundw
        case rel => exact ⟨k + 1, by omega, by have := HM.out; first | go_num | (congr 1; omega), by rw [upto_succ, HBK.out]; exact hJ3, kpB_t ⟨HNX.out, HBX.out⟩ hk3⟩
        case measure => simp [intOf]; try omega
      · gi_wp2
        refine bodyPost_ret (results_none rfl _ _ _) rfl ?_
        exact ⟨⟨_, rfl⟩, .inr ⟨_, ⟨k + 1, by omega, by rw [upto_succ, HBK.out]⟩, hJx3⟩⟩
    · have hkl : k = len := by omega
      subst hkl
      have hneg : (k : Int) - 1 - (k : Int) = -1 := by omega
      rw [hneg]
      gi_wp2
      go_end0
      exact ⟨⟨_, rfl⟩, .inl ⟨_, rfl, hJs⟩⟩
set_option maxHeartbeats 1000000 in
theorem back_in (F : Fence) (n : Nat) (h5 : F.fn 56) (hro : F.round = none) (a : Option Addr) (len cap : Nat) (w : World) :
    CallsIn F n Try.prog 56 #[.slice a len cap] w fun e w' => e = .returned (.func (.func 75) #[] #[.pointer (some ⟨w.heap.size, 0, none⟩)]) ∧ w' = w.alloc (.cells #[.slice a len cap] 44) := by
  refine callsIn_of_wp Try.func56 rfl h5 ?_ hro
  simp only [Try.ntmps56, List.size_toArray, List.length_cons, List.length_nil, Nat.reduceAdd, Nat.reduceSub, Array.replicate_succ, Array.replicate_zero, List.push_toArray, List.append_toArray, List.nil_append, List.cons_append]
  gi_wp2
  go_ret
  exact ⟨rfl, rfl⟩
theorem back_stops (F : Fence) (n : Nat) (h7 : F.fn 75) (hro : F.round = none) (hn : 1 ≤ n) (Bs n₀ : Nat) (ad : Option Addr) (len cap : Nat) (zs : List Int) (hlen : zs.length = len) (hreach : len ≤ 1048576) (w : World) (hBs : Bs < w.heap.size) (hn₀ : n₀ ≤ w.heap.size)
    (hc : w.cell? ⟨Bs, 0, none⟩ = some (.slice ad len cap)) (hI : RowAt .i64 w ad zs n₀) :
    SeqStopsK F n Try.prog 75 #[.pointer (some ⟨Bs, 0, none⟩)] (fun x : Nat × Int => #[Value.int .i64 (x.1 : Int), Value.int .i64 x.2]) (KpB n₀ Bs) (fun ys => ys = upto (bkF zs) len)
      (fun pre => ∃ k, k ≤ len ∧ pre = upto (bkF zs) k) len w := fun l J Jx W hW _ _ hY h0 =>
  back1_in F n h7 hro hn l Bs n₀ len cap ad zs hlen hreach J Jx hY W ((hW.cell (p := ⟨Bs, 0, none⟩) hBs).trans hc) (rwAt_go hI (hW.mono hn₀)) h0
end Go.Proofs.Ytfohfljdgmlibaa
