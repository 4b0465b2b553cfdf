/-
  Texts put together: FsD, PtW.
-/
import Derived.Test.YtpakkllcemcfdaaGreatDoorA29
import Derived.Test.YtpakkllcemcfdaaGreatDoorA30
import Derived.Test.YtpakkllcemcfdaaGreatDoorA8
import Derived.Test.YtpakkllcemcfdaaGreatDoorA20
/-
  Contracts: what is drawn for a path: a document, a place, a path; the laws' comparison of rows of numbers.
-/
namespace Go.Proofs.YtpakkllcemcfdaaGreatDoor
open Go.RowKit Go.Joins
set_option linter.unusedVariables false
set_option linter.unusedSimpArgs false
set_option maxHeartbeats 1000000 in
theorem same_ints (a1 a2 : Option Addr) (n m c1 c2 : Nat) (xs ys : List Int) (w : World) (hx : xs.length = n) (hy : ys.length = m) (hn : n ≤ 1048576) (hm : m ≤ 1048576) (h1 : RowAt .i64 w a1 xs w.heap.size) (h2 : RowAt .i64 w a2 ys w.heap.size) :
    Calls Tryz.prog 9 #[.slice a1 n c1, .slice a2 m c2] w fun e w' => e = .returned (.bool (decide (xs = ys))) ∧ ∃ q, w' = w.drewN q := by
  have HX : Hid (xs.length = n) := hx
  have HY : Hid (ys.length = m) := hy
  have H1 : Hid (RowAt .i64 w a1 xs w.heap.size) := h1
  have H2 : Hid (RowAt .i64 w a2 ys w.heap.size) := h2
  clear hx hy h1 h2
  by_cases hnm : n = m
  · subst hnm
    go_enter Tryz.func9, Tryz.ntmps9
    go_wp2
    go_loopw [5] (fun i wr => ∃ k : Nat, k ≤ n ∧ i = .int .i64 k ∧ (∃ q, wr = w.drewN q) ∧ ∀ j, j < k → xs[j]?.getD 0 = ys[j]?.getD 0) (fun i _ => n - (intOf i).toNat)
    case atStart => exact ⟨0, Nat.zero_le _, rfl, ⟨0, rfl⟩, fun j h => by omega⟩
    case round =>
      obtain ⟨k, hk, rfl, ⟨q, rfl⟩, hsame⟩ := hrel
      have HS := hide hsame
      clear hsame
      by_cases hlt : k < n
      · obtain ⟨b, off, rfl, hbs, hc⟩ := rowAt_cell H1.out k (by rw [HX.out]; exact hlt)
        obtain ⟨b', off', rfl, hbs', hc'⟩ := rowAt_cell H2.out k (by rw [HY.out]; exact hlt)
        have hc1 := hc k (by rw [HX.out]; exact hlt)
        have hc2 := hc' k (by rw [HY.out]; exact hlt)
        have hi : (k : Int) < (n : Int) := by omega
        have hi0 : (0 : Int) ≤ (k : Int) := by omega
        clear hc hc'
        cases hb : (xs[k]?.getD 0 != ys[k]?.getD 0)
        · go_wp2
          go_quiet (fail)
          go_wp2
          go_roundw
          case rel =>
            refine ⟨k + 1, by omega, by go_num, ⟨q + nq, by simp⟩, fun j hj => ?_⟩
            by_cases e : j = k
            · subst e; simpa using hb
            · exact HS.out j (by omega)
          case measure => simp [intOf]; omega
        · go_wp2
          go_quiet (fail)
          go_wp2
          go_ret
          exact ⟨ret_bool (eqB_f _ _ (fun e => by rw [e] at hb; simp at hb)), q + nq, by simp⟩
      · go_wp2
        go_ret
        exact ⟨ret_bool (eqB_t _ _ (get_ext xs ys (by rw [HX.out, HY.out]) (fun j hj => HS.out j (by have := HX.out; omega)))), _, rfl⟩
  · have hne : ((n : Int) != (m : Int)) = true := by simp; omega
    go_enter Tryz.func9, Tryz.ntmps9
    go_wp2
    go_ret
    exact ⟨ret_bool (eqB_f _ _ (fun e => by have := HX.out; have := HY.out; subst e; omega)), 0, rfl⟩

theorem same_same (a1 a2 : Option Addr) (n c1 c2 : Nat) (xs : List Int) (w : World) (hx : xs.length = n) (hn : n ≤ 1048576) (h1 : RowAt .i64 w a1 xs w.heap.size) (h2 : RowAt .i64 w a2 xs w.heap.size) :
    Calls Tryz.prog 9 #[.slice a1 n c1, .slice a2 n c2] w fun e w' => e = .returned (.bool true) ∧ ∃ q, w' = w.drewN q := by
  refine (same_ints a1 a2 n n c1 c2 xs xs w hx hx hn hn h1 h2).mono ?_
  rintro e w' ⟨rfl, h⟩
  exact ⟨by simp, h⟩

theorem grow_at (G : Nat) (a : Option Addr) (n cap : Nat) (zs : List Int) : GrowAt G a n cap zs := by
  have h0 : ∀ (w : World) (ad0 : Option Addr) (m0 c0 : Nat) (D0 : Dc) (up : Int), 1 ≤ m0 → m0 ≤ 900 → RdAt w G a n cap zs → DrIt (G + 1) w ad0 m0 c0 D0 → Calls Tryz.prog 50 #[.pointer (some ⟨G, 0, none⟩), .slice ad0 m0 c0, .int .i64 up, .int .i64 ((0 : Nat) : Int)] w (GrowAns G a n cap zs w m0 0) :=
    fun w ad0 m0 c0 D0 up h1 h2 h3 h4 => grow_step G a n cap zs 0 0 w ad0 m0 c0 D0 up (by omega) rfl 900 (by omega) h1 h2 h3 h4 (.inl rfl)
  have h1 : ∀ (w : World) (ad0 : Option Addr) (m0 c0 : Nat) (D0 : Dc) (up : Int), 1 ≤ m0 → m0 ≤ 850 → RdAt w G a n cap zs → DrIt (G + 1) w ad0 m0 c0 D0 → Calls Tryz.prog 50 #[.pointer (some ⟨G, 0, none⟩), .slice ad0 m0 c0, .int .i64 up, .int .i64 ((1 : Nat) : Int)] w (GrowAns G a n cap zs w m0 1) :=
    fun w ad0 m0 c0 D0 up h1 h2 h3 h4 => grow_step G a n cap zs 1 3 w ad0 m0 c0 D0 up (by omega) rfl 850 (by omega) h1 h2 h3 h4 (.inr (fun w ad0 m0 c0 D0 up k1 k2 k3 k4 => h0 w ad0 m0 c0 D0 up k1 (by omega) k3 k4))
  intro w ad0 m0 c0 D0 up k1 k2 k3 k4
  exact grow_step G a n cap zs 2 12 w ad0 m0 c0 D0 up (by omega) rfl 800 (by omega) k1 k2 k3 k4 (.inr (fun w ad0 m0 c0 D0 up k1 k2 k3 k4 => h1 w ad0 m0 c0 D0 up k1 (by omega) k3 k4))
theorem str_cellS {w w1 : World} {G : Nat} (Q : ByteArray → Prop) {cs : Array Value} {T : TypeId} {x : Int} {N : Nat} (hg : (w.alloc (.cells cs T)).grownBy w1 (some G)) (h0 : 0 ≤ x) (hx : x < N) (hN : cs.size = N) (hG : G < w.heap.size) (hK : ∀ k, k < N → ∃ s : ByteArray, cs[k]? = some (.string s) ∧ Q s) : ∃ s : ByteArray, w1.cell? ⟨w.heap.size, x.toNat, none⟩ = some (.string s) ∧ Q s := by
  have hb := hg.block w.heap.size (by simp) (fun e => by cases e; omega)
  rw [World.cell?_of_block (a := ⟨w.heap.size, x.toNat, none⟩) hb, cell_of_row _ w.heap.size x.toNat _ T (0, 0) (heap_alloc_new w _)]
  exact hK x.toNat (by omega)
set_option maxHeartbeats 1000000 in
theorem d_path (G : Nat) (a : Option Addr) (n cap : Nat) (zs : List Int) (w : World) (h : RdAt w G a n cap zs) :
    Calls Tryz.prog 26 #[.pointer (some ⟨G, 0, none⟩)] w fun e w' => ∃ s : ByteArray, s.size ≤ 8 ∧ e = .returned (.string s) ∧ Drew G a n cap zs w w' := by
  have HH := hide h
  have hG := rd_lt h
  clear h
  go_enter Tryz.func26, Tryz.ntmps26
  go_wp2_with fail
  refine (d_below G a n cap zs 12 _ (by omega) (by omega) (rd_alloc HH.out _)).mono ?_
  rintro e w1 ⟨x, hx0, hx1, rfl, hd⟩
  obtain ⟨s, hs, hs1⟩ := str_cellS (fun s => s.size ≤ 8) hd.2 hx0 hx1 rfl hG (fun k hk => by
    have hk' : k < 12 := hk
    have hx : k = 0 ∨ k = 1 ∨ k = 2 ∨ k = 3 ∨ k = 4 ∨ k = 5 ∨ k = 6 ∨ k = 7 ∨ k = 8 ∨ k = 9 ∨ k = 10 ∨ k = 11 := by omega
    rcases hx with e | e | e | e | e | e | e | e | e | e | e | e <;> subst e <;> exact ⟨_, rfl, by decide⟩)
  have HD := hide (drew_alloc _ hd)
  clear hd
  go_wp2
  go_ret
  exact ⟨s, hs1, rfl, HD.out⟩
set_option maxRecDepth 100000 in
set_option maxHeartbeats 4000000 in
theorem d_select (a : Option Addr) (n cap : Nat) (zs : List Int) (w : World) (hl : zs.length = n) (hz : ∀ x ∈ zs, 0 ≤ x ∧ x ≤ 255) (hn : n ≤ 1048576) (hs : SrcAt w a zs w.heap.size) :
    Calls Tryz.prog 7 #[.slice a n cap] w fun e w' => ∃ ad m c D x s, e = .returned (.tuple #[.slice ad m c, .int .i64 x, .string s]) ∧ D.n = m ∧ (1 ≤ m ∧ m ≤ 40) ∧ dcTot D ≤ 1048576 ∧ DcAt w' ad D w'.heap.size ∧ s.size ≤ 8 ∧ Below w.heap.size w w' := by
  have HS := hide hs
  have HL := hide hl
  have HZ := hide hz
  clear hs hl hz
  go_enter Tryz.func7, Tryz.ntmps7
  go_wp2_with fail
  refine (d_open a n cap zs _ HL.out HZ.out hn HS.out).mono ?_
  rintro e w1 ⟨rfl, hrd, hb1⟩
  have HRD := hide hrd
  have HB1 := hide hb1
  clear hrd hb1
  go_wp2_with fail
  refine (d_flat w.heap.size a n cap zs _ HRD.out).mono ?_
  rintro e w2 ⟨ad, m, c, D, rfl, hg, hm1, hm2⟩
  have HGS := hide hg
  clear hg
  go_wp2_with fail
  refine (d_once w.heap.size a n cap zs 3 _ (by omega) (by omega) HGS.out.1).mono ?_
  rintro e w3 ⟨bo, rfl, hd⟩
  replace HGS := hide (gs_drew HGS.out hd)
  clear hd
  go_upto_if 13 with fail
  go_cut [6] (fun v wx => ∃ (ad : Option Addr) (m c : Nat) (D : Dc), v = .slice ad m c ∧ 1 ≤ m ∧ m ≤ 40 ∧ GS w.heap.size a n cap zs w1 wx ad m c D)
  case first =>
    cases bo
    · go_wp2
      go_meet
      exact ⟨ad, m, c, D, rfl, hm1, by omega, HGS.out⟩
    · go_wp2_with fail
      refine (d_doc w.heap.size a n cap zs _ (grow_at _ _ _ _ _) HGS.out.1).mono ?_
      rintro e w4 ⟨ad4, m4, c4, D4, rfl, hg4, hm3, hm4⟩
      have HG4 := hide (gs_trans HGS.out hg4)
      clear hg4
      go_wp2
      go_meet
      exact ⟨ad4, m4, c4, D4, rfl, hm3, hm4, HG4.out⟩
  case rest =>
    clear HGS hm1 hm2
    obtain ⟨ad, m, c, D, rfl, hm1, hm2, hg⟩ := hcut
    have HGS := hide hg
    clear hg
    go_wp2_with fail
    refine (d_once w.heap.size a n cap zs 3 _ (by omega) (by omega) HGS.out.1).mono ?_
    rintro e w5 ⟨b2, rfl, hd⟩
    replace HGS := hide (gs_drew HGS.out hd)
    clear hd
    cases b2
    · go_wp2_with fail
      refine (d_path w.heap.size a n cap zs _ HGS.out.1).mono ?_
      rintro e w6 ⟨s, hs8, rfl, hd⟩
      replace HGS := hide (gs_drew HGS.out hd)
      clear hd
      go_wp2
      go_ret3
      exact ⟨ad, m, c, D, 0, s, rfl, (drIt_dc HGS.out.2.1).1, ⟨hm1, hm2⟩, drIt_tot HGS.out.2.1 (by omega), (drIt_dc HGS.out.2.1).2, hs8, HB1.out.trans HGS.out.2.2.1⟩
    · go_wp2_with fail
      refine (d_offG w.heap.size a n cap zs 0 ((m : Int) - 1) _ (by omega) (by omega) (by omega) HGS.out.1).mono ?_
      rintro e w6 ⟨x, rfl, hd⟩
      replace HGS := hide (gs_drew HGS.out hd)
      clear hd
      go_wp2_with fail
      refine (d_path w.heap.size a n cap zs _ HGS.out.1).mono ?_
      rintro e w7 ⟨s, hs8, rfl, hd⟩
      replace HGS := hide (gs_drew HGS.out hd)
      clear hd
      go_wp2
      go_ret3
      exact ⟨ad, m, c, D, x, s, rfl, (drIt_dc HGS.out.2.1).1, ⟨hm1, hm2⟩, drIt_tot HGS.out.2.1 (by omega), (drIt_dc HGS.out.2.1).2, hs8, HB1.out.trans HGS.out.2.2.1⟩
end Go.Proofs.YtpakkllcemcfdaaGreatDoor

/-
  Contracts: which texts are paths, by the specification and by the program; the walk of the law.
-/
namespace Go.Proofs.YtpakkllcemcfdaaGreatDoor
open Go.RowKit
set_option linter.unusedVariables false
set_option linter.unusedSimpArgs false
theorem route_s (s : ByteArray) : routeB s = (allN (restS s).data.toList && decide (cntN (restS s).data.toList ≤ 6) && decide (s.size ≤ 20000)) := by
  obtain ⟨h1, h2⟩ := rest_same s
  unfold routeB
  cases h : allN (restL s.data.toList)
  · rw [h1, h]; simp
  · obtain ⟨h3, -⟩ := h2 h
    rw [h3, h]
    cases decide (s.size ≤ 20000) <;> cases decide (cntN (restL s.data.toList) ≤ 6) <;> rfl
set_option maxHeartbeats 1000000 in
theorem s_path (s : ByteArray) (w : World) (hs : s.size ≤ 1048576) : Calls Tryz.prog 14 #[.string s] w fun e w' => e = .returned (.bool (routeB s)) ∧ Below w.heap.size w w' := by
  have C := hide (s_steps s w hs)
  have HR := hide (route_s s)
  cases ha : allN (restS s).data.toList
  · have HF : Hid (routeB s = false) := hide (by rw [HR.out, ha]; rfl)
    have HA := hide ha
    clear ha
    go_enter Tryz.func14, Tryz.ntmps14
    go_wp2_with fail
    refine C.out.mono ?_
    rintro e w2 ⟨hb, h | ⟨-, rfl⟩⟩
    · exact absurd (HA.out.symm.trans h.1) (by decide)
    have HB := hide hb
    clear hb
    go_wp2
    go_ret
    exact ⟨ret_bool HF.out.symm, HB.out⟩
  · have HA := hide ha
    rw [ha] at HR
    clear ha
    obtain ⟨m, hm⟩ : ∃ m, cntN (restS s).data.toList = m := ⟨_, rfl⟩
    have HMM := hide hm
    clear hm
    by_cases h6 : m ≤ 6
    all_goals
      by_cases h2 : s.size ≤ 20000
      all_goals
        have h2i : (s.size : Int) ≤ 20000 ∨ (20000 : Int) < s.size := by omega
        go_enter Tryz.func14, Tryz.ntmps14
        go_wp2_with fail
        refine C.out.mono ?_
        rintro e w2 ⟨hb, ⟨-, ad, c, rfl, -⟩ | h⟩
        rotate_left
        · exact absurd (HA.out.symm.trans h.1) (by decide)
        rw [HMM.out] at HR ⊢
        have HB := hide hb
        clear hb
        first | rw [decide_eq_true h6] at HR ⊢ | rw [decide_eq_false h6] at HR ⊢
        first | rw [decide_eq_true h2] at HR | rw [decide_eq_false h2] at HR
        go_wp2
        go_ret
        refine ⟨ret_bool ?_, HB.out⟩
        rw [HR.out]
        first | rfl | (simp; omega)
set_option maxHeartbeats 1000000 in
theorem i_path (s : ByteArray) (w : World) (hs : s.size ≤ 1048576) (hM : MaxL w) : Calls Tryz.prog 12 #[.string s] w fun e w' => e = .returned (.bool (routeB s)) ∧ Below w.heap.size w w' := by
  have C := hide (i_route s w hs hM)
  clear hM
  go_enter Tryz.func12, Tryz.ntmps12
  go_wp2_with fail
  refine C.out.mono ?_
  rintro e w2 ⟨hb, ⟨hy, ad, c, rfl, -⟩ | ⟨hy, rfl⟩⟩
  all_goals
    have HB := hide hb
    have HY := hide hy
    clear hb hy
    go_wp2
    go_ret
    exact ⟨ret_bool HY.out.symm, HB.out.alloc HB.out.size _⟩
end Go.Proofs.YtpakkllcemcfdaaGreatDoor
