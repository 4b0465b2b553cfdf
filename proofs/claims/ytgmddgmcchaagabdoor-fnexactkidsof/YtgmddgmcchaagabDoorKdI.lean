/-
  Contracts: the kids of an item, by the program and by the specification.
-/
import Derived.Test.YtgmddgmcchaagabDoorKdS
import Derived.Test.YtgmddgmcchaagabDoorTxI
namespace Go.Proofs.YtgmddgmcchaagabDoor
open Go.RowKit Go.Joins
set_option linter.unusedVariables false
set_option linter.unusedSimpArgs false
def kidsV (D : Dc) (x : Int) : List Int := if hasB' D x = true then kd D x D.n else []
theorem kidsV_no {D : Dc} {x : Int} (h : hasB' D x = false) : kidsV D x = [] := by unfold kidsV; rw [h]; rfl
theorem kidsV_yes {D : Dc} {x : Int} (h : hasB' D x = true) : kidsV D x = kd D x D.n := by unfold kidsV; rw [h]; rfl
theorem kidsV_len (D : Dc) (x : Int) : (kidsV D x).length ≤ D.n := by
  unfold kidsV
  split
  · exact kd_len D x D.n
  · exact Nat.zero_le _
def KidsAns (D : Dc) (x : Int) (w : World) (e : Ending) (w' : World) : Prop := ∃ ad c, e = .returned (.slice ad (kidsV D x).length c) ∧ w'.ownsRow w.heap.size 2 1 (.slice ad (kidsV D x).length c) (kidsV D x).length ((kidsV D x).map (Value.int .i64)) ∧ Below w.heap.size w w'
theorem one_new2 (w : World) (o : Obj) (v : Value) (t : TypeId) (j : Nat) (u : Value) (hj : [v][j]? = some u) : ((w.alloc o).alloc (.cells #[v] t)).cell? ((⟨w.heap.size + 1, 0, none⟩ : Addr).add j) = some u := by
  have h := one_new (w.alloc o) v t j u hj
  have e : (w.alloc o).heap.size = w.heap.size + 1 := by simp
  rw [e] at h
  exact h
theorem below_two {w wr w2 : World} {o1 o2 : Obj} {e : TypeId} {ad : Option Addr} {n c : Nat} {xs : List Value} (hb : Below w.heap.size w wr) (hown : wr.ownsRow w.heap.size e 1 (.slice ad n c) n xs)
    (hg : ((wr.alloc o1).alloc o2).grownBy w2 (Value.slice ad n c).ownBlock) : Below w.heap.size w w2 := by
  have h2 : Below w.heap.size w ((wr.alloc o1).alloc o2) := (hb.alloc hb.size o1).alloc (by have := hb.size; simp; omega) o2
  exact h2.grown hg h2.size (fun k hk => (hown.lt k hk).1)
set_option maxRecDepth 100000 in
set_option maxHeartbeats 4000000 in
theorem i_kidsof (D : Dc) (n : Nat) (a : Option Addr) (cap : Nat) (x : Int) (w : World) (hD : D.n = n) (hz : dcTot D ≤ 1048576) (hr : DcAt w a D w.heap.size) (hT : Tabs w) :
    Calls Tryd.prog 7 #[.slice a n cap, .int .i64 x] w (KidsAns D x w) := by
  have HD := hide hD
  have HR := hide hr
  have hn : n ≤ 1048576 := by rw [← hD]; exact (dc_sz hz).1
  have CH := hide (i_hasItem D n a cap x w hD hz hr hT)
  clear hr hD hz hT
  cases hh : hasB' D x
  · have HV := hide (kidsV_no hh)
    rw [hh] at CH
    go_enter Tryd.func7, Tryd.ntmps7
    go_wp2_with (first | (go_at_call 18; refine CH.out.mono ?_; rintro e w1 ⟨rfl, hb1⟩; have HB := hide hb1; clear hb1))
    go_ret
    refine ⟨none, 0, ?_, ?_, HB.out⟩
    · rw [HV.out]; rfl
    · rw [HV.out]; exact ⟨rfl, .inl ⟨rfl, rfl⟩⟩
  · obtain ⟨i0, hi, hz0, hz1, hz2⟩ := info_parts info64
    have HV := hide (kidsV_yes hh)
    rw [HD.out] at HV
    have hh2 := hh
    unfold hasB' at hh2
    simp only [Bool.and_eq_true, decide_eq_true_eq] at hh2
    obtain ⟨hd, h0, h1⟩ := hh2
    rw [HD.out] at h1
    obtain ⟨⟨g1, g2⟩, -, -⟩ := docok_facts hd
    rw [HD.out] at g1 g2
    rw [hh] at CH
    obtain ⟨b, off, rfl, hbs, hrow⟩ := HR.out (by rw [HD.out]; omega)
    have HRW := hide hrow
    clear hrow
    go_enter Tryd.func7, Tryd.ntmps7
    go_wp2_with (first | (go_at_call 18; refine CH.out.mono ?_; rintro e w1 ⟨rfl, hb1⟩; have HB := hide hb1; clear hb1))
    go_loopw [5, 14] (fun v iv wr => ∃ (i : Nat) (ad : Option Addr) (c : Nat), i ≤ n ∧ iv = .int .i64 i ∧ v = .slice ad (kd D x i).length c ∧ wr.ownsRow w.heap.size 2 1 (.slice ad (kd D x i).length c) (kd D x i).length ((kd D x i).map (Value.int .i64)) ∧ Below w.heap.size w wr) (fun _ iv _ => n - (intOf iv).toNat)
    case atStart => exact ⟨0, none, 0, Nat.zero_le _, rfl, rfl, ⟨rfl, .inl ⟨rfl, rfl⟩⟩, HB.out⟩
    case round =>
      obtain ⟨i, ad, c, hi2, rfl, rfl, ho, hb⟩ := hrel
      have HO := hide ho
      have HB2 := hide hb
      have hkl := kd_len D x i
      have hsz : w.heap.size ≤ wr.heap.size := hb.size
      by_cases hlt : i < n
      · obtain ⟨ad9, cp9, hc9, -⟩ := HRW.out i (by rw [HD.out]; omega)
        obtain ⟨c0, c1, c2, c3⟩ := dcCells_go hc9 hbs hb
        have hin : (i : Int) < (n : Int) := by omega
        clear hc9 ho hb
        by_cases hu : D.U i = x
        · have e : kd D x (i + 1) = kd D x i ++ [(i : Int)] := kd_yes hu
          obtain ⟨L, hL⟩ : ∃ L, kd D x i = L := ⟨_, rfl⟩
          rw [hL] at e HO hkl ⊢
          have HE := hide e
          have hub : (D.U i == x) = true := by simpa using hu
          clear e hL hu
          go_wp2_with (at_builtin; refine wpList_append_own _ rfl (.tmp 23) (.tmp 25) 24 rfl w.heap.size 2 i0 (.int .i64 0) 1 8 Tryd.underlying24 hi hz0 hz1 hz2 rfl (by decide) _ _ _ rfl ((HO.out.alloc _).alloc _) ⟨wr.heap.size + 1, 0, none⟩ 1 1 [.int .i64 (i : Int)] rfl rfl (fun j u hj => one_new2 wr _ _ _ j u hj) (one_list _ _) (by unfold maxLen; omega) (by omega) (by simp; omega) ?_; intro v2 w2 hown2 hgrow2 _; obtain ⟨ad2, c2', hv2⟩ := own_shape hown2; rw [hv2] at hown2 ⊢; clear hv2; have HB3 := hide (below_two HB2.out HO.out hgrow2); have HO2 := hide hown2; clear hown2 hgrow2)
          go_roundw
          case rel =>
            refine ⟨i + 1, ad2, c2', by omega, by go_num, ?_, ?_, HB3.out⟩
            · rw [HE.out]; simp
            · have := HO2.out
              rw [HE.out]
              simpa using this
          case measure => simp [intOf]; omega
        · have e : kd D x (i + 1) = kd D x i := kd_no hu
          have HE := hide e
          have hub : (D.U i == x) = false := by simpa using hu
          clear e hu
          go_wp2
          go_roundw
          case rel => exact ⟨i + 1, ad, c, by omega, by go_num, by rw [HE.out], by rw [HE.out]; exact HO.out.alloc _, HB2.out.alloc HB2.out.size _⟩
          case measure => simp [intOf]; omega
      · have hin : i = n := by omega
        subst hin
        go_wp2
        go_ret
        refine ⟨ad, c, ?_, ?_, hb⟩
        · rw [HV.out]; rfl
        · rw [HV.out]; exact ho
end Go.Proofs.YtgmddgmcchaagabDoor
