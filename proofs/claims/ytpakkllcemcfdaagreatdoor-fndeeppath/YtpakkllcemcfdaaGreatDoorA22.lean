/-
  Contract: what a path selects, the program's answer.
-/
import Derived.Test.YtpakkllcemcfdaaGreatDoorA21
namespace Go.Proofs.YtpakkllcemcfdaaGreatDoor
open Go.RowKit
set_option linter.unusedVariables false
set_option linter.unusedSimpArgs false
def selV (D : Dc) (x : Int) (s : ByteArray) : List Int := if (routeB s && txOk D x) = true then srtL (sel D (st D x.toNat D.n (deepL s.data.toList)) (sg [] (restL s.data.toList))) else []
theorem selV_no {D : Dc} {x : Int} {s : ByteArray} (h : routeB s = false ∨ txOk D x = false) : selV D x s = [] := by
  unfold selV
  rw [if_neg]
  rcases h with h | h <;> rw [h] <;> simp
theorem selV_yes {D : Dc} {x : Int} {s : ByteArray} (h1 : routeB s = true) (h2 : txOk D x = true) : selV D x s = srtL (sel D (st D x.toNat D.n (deepL s.data.toList)) (sg [] (restL s.data.toList))) := by
  unfold selV
  rw [if_pos (by rw [h1, h2]; rfl)]
theorem tx_facts {D : Dc} {x : Int} (h : txOk D x = true) : docokB D = true ∧ D.n ≤ 200 ∧ Good D D.n ∧ 0 ≤ x ∧ x < D.n := by
  have h2 := h
  unfold txOk at h2
  simp only [Bool.and_eq_true, decide_eq_true_eq] at h2
  obtain ⟨hd, ⟨h0, h1⟩, -⟩ := h2
  obtain ⟨⟨g1, g2⟩, -, hsum⟩ := docok_facts hd
  exact ⟨hd, g2, docok_good hd, h0, by omega⟩
theorem selV_len {D : Dc} {x : Int} {s : ByteArray} : (selV D x s).length ≤ 200 := by
  cases h1 : routeB s
  · rw [selV_no (.inl h1)]; exact Nat.zero_le _
  · cases h2 : txOk D x
    · rw [selV_no (.inr h2)]; exact Nat.zero_le _
    · obtain ⟨-, hn, -, h0, hx⟩ := tx_facts h2
      have hs := st_ok (D := D) (x := x.toNat) (n := D.n) (deepL s.data.toList) rfl (by omega)
      have hs2 := sel_ok (sg [] (restL s.data.toList)) _ hs.1 hs.2
      rw [selV_yes h1 h2, srt_len hs2.1]
      have := nodup_len hs2.1 hs2.2
      omega
def SelAns (D : Dc) (x : Int) (s : ByteArray) (w : World) (e : Ending) (w' : World) : Prop := ∃ ad c, e = .returned (.slice ad (selV D x s).length c) ∧ IntR w.heap.size w' ad c (selV D x s) ∧ Below w.heap.size w w'
set_option maxRecDepth 100000 in
set_option maxHeartbeats 4000000 in
theorem i_select (D : Dc) (n : Nat) (a : Option Addr) (cap : Nat) (x : Int) (s : ByteArray) (w : World) (hD : D.n = n) (hz : dcTot D ≤ 1048576) (hs : s.size ≤ 1048576) (hr : DcAt w a D w.heap.size) (hT : Tabs w) (hM : MaxL w) :
    Calls Tryz.prog 8 #[.slice a n cap, .int .i64 x, .string s] w (SelAns D x s w) := by
  have HD := hide hD
  have HR := hide hr
  have C := hide (i_route s w hs hM)
  have CH := hide (fun (W : World) (hb : Below w.heap.size w W) => i_hasElement D n a cap x W hD hz (dcAt_up (dcAt_go hr hb) hb.size) (tabs_below hT hb))
  clear hr hD hz hT hM
  cases hrt : routeB s
  · have HV := hide (selV_no (D := D) (x := x) (.inl hrt))
    have HRT := hide hrt
    clear hrt
    go_enter Tryz.func8, Tryz.ntmps8
    go_wp2_with fail
    refine C.out.mono ?_
    rintro e w2 ⟨hb, ⟨h, -⟩ | ⟨-, rfl⟩⟩
    · exact absurd (HRT.out.symm.trans h) (by decide)
    have HB := hide hb
    clear hb
    go_wp2
    go_ret
    refine ⟨none, 0, ?_, ?_, HB.out.alloc HB.out.size _⟩
    · rw [HV.out]; rfl
    · rw [HV.out]; exact intR_nil _ _
  · have HRT := hide hrt
    clear hrt
    go_enter Tryz.func8, Tryz.ntmps8
    go_wp2_with fail
    refine C.out.mono ?_
    rintro e w2 ⟨hb, ⟨-, ad, c, rfl, ho⟩ | ⟨h, -⟩⟩
    rotate_left
    · exact absurd (HRT.out.symm.trans h) (by decide)
    obtain ⟨d, hd⟩ : ∃ d, deepL s.data.toList = d := ⟨_, rfl⟩
    obtain ⟨ps, hps⟩ : ∃ ps, sg [] (restL s.data.toList) = ps := ⟨_, rfl⟩
    obtain ⟨m, hm⟩ : ∃ m, cntN (restL s.data.toList) = m := ⟨_, rfl⟩
    rw [hd, hm]
    rw [hm, hps] at ho
    have HB := hide hb
    have HK := hide (cellsAt_new w2 #[.bool d, .slice ad m c] 51)
    have HO := hide (World.ownsRow.alloc ho (.cells #[.bool d, .slice ad m c] 51))
    have HBA := hide (hb.alloc hb.size (.cells #[.bool d, .slice ad m c] 51))
    have hgl : w2.heap.size < (w2.alloc (.cells #[.bool d, .slice ad m c] 51)).heap.size := by simp
    obtain ⟨w3, hw3⟩ : ∃ w3, w2.alloc (.cells #[.bool d, .slice ad m c] 51) = w3 := ⟨_, rfl⟩
    rw [hw3] at HK HO HBA hgl
    have HDD := hide hd
    have HPP := hide hps
    have HPL : Hid (ps.length = m) := hide (by rw [← hps]; exact hm)
    have hm6 : m ≤ 6 := by
      have := HRT.out
      unfold routeB at this
      simp only [Bool.and_eq_true, decide_eq_true_eq] at this
      omega
    clear hb ho hd hps hm
    go_wp2_with fail
    refine (CH.out _ HBA.out).mono ?_
    rintro e w4 ⟨rfl, hb4⟩
    have HB4 := hide hb4
    have HK4 := hide (cellsAt_go HK.out hb4 hgl)
    have HO4 := hide (gOwn_after HO.out hb4)
    have HBB := hide (low_trans HBA.out hb4 HBA.out.size)
    clear hb4
    cases hh : txOk D x
    · have HV := hide (selV_no (D := D) (x := x) (s := s) (.inr hh))
      clear hh
      go_wp2
      go_ret
      refine ⟨none, 0, ?_, ?_, HBB.out⟩
      · rw [HV.out]; rfl
      · rw [HV.out]; exact intR_nil _ _
    · obtain ⟨-, g2, hG, h0, h1⟩ := tx_facts hh
      have HV := hide (selV_yes HRT.out hh)
      rw [HD.out] at g2 hG h1 HV
      rw [HDD.out, HPP.out] at HV
      obtain ⟨b, off, rfl, hbs, hrow⟩ := HR.out (by rw [HD.out]; omega)
      have hx' : x = (x.toNat : Int) := by omega
      have CF : Hid (Calls Tryz.prog 29 #[.agg #[.bool d, .slice ad m c], .slice (some ⟨b, off, none⟩) n cap, .int .i64 x] w4 fun e w' => ∃ ad2 c2, e = .returned (.slice ad2 (srtL (sel D (st D x.toNat n d) ps)).length c2) ∧ IntR w4.heap.size w' ad2 c2 (srtL (sel D (st D x.toNat n d) ps)) ∧ Below w4.heap.size w4 w') := hide (by
        have h := i_from D n b off cap w4 x.toNat d ad m c ps w.heap.size HD.out g2 (by omega) (Nat.lt_of_lt_of_le hbs HBB.out.size) (dcRow_up (dcRow_go hrow hbs HBB.out) HBB.out.size) hG HPL.out (by omega) HO4.out
        rw [← hx'] at h
        exact h)
      rw [← HV.out] at CF
      have a0 := cellsAt_cell HK4.out 0
      have a1 := cellsAt_cell HK4.out 1
      clear hrow hh hx' hG HV
      go_wp2_with fail
      refine CF.out.mono ?_
      rintro e w5 ⟨ad5, c5, rfl, ho5, hb5⟩
      have HO5 := hide (intR_low ho5 HBB.out.size)
      have HB5 := hide (low_trans HBB.out hb5 HBB.out.size)
      clear ho5 hb5
      go_wp2
      go_ret
      exact ⟨ad5, c5, rfl, HO5.out, HB5.out⟩
end Go.Proofs.YtpakkllcemcfdaaGreatDoor
