/-
  Contract: does a key refer right, by the program?
-/
import Derived.Test.YtkfhhgfmjkjldaaDoorPlI
namespace Go.Proofs.YtkfhhgfmjkjldaaDoor
open Go.RowKit Go.Joins
set_option linter.unusedVariables false
set_option linter.unusedSimpArgs false
theorem plO_goN {B N : Nat} {w w' : World} {ad : Option Addr} {m c : Nat} {Ps : List Pl} (h : PlO B w ad m c Ps) (hN : ∀ g, ad = some ⟨g, 0, none⟩ → g < N) (hb : Below N w w') : PlO B w' ad m c Ps := by
  obtain ⟨hl, h1, ⟨e, h0⟩ | ⟨g, cap, cur, e, hB, hg, rest⟩⟩ := h
  · exact ⟨hl, h1, .inl ⟨e, h0⟩⟩
  · have e2 := e
    simp only [Value.slice.injEq] at e2
    exact ⟨hl, h1, .inr ⟨g, cap, cur, e, hB, (hb.block g (hN g e2.1)).trans hg, rest⟩⟩
/-- What a plan refers to is right. -/
def RfP (Ps : List Pl) (m : Nat) (x : Ky) : Prop := (x.kd ≠ 3 → x.re = ⟨#[]⟩) ∧ (x.kd = 3 → ∃ j, j < m ∧ (plA Ps j).k.nm = x.re ∧ (plA Ps j).k.kd ≠ 3 ∧ (plA Ps j).k.fl.length = x.fl.length ∧ (plA Ps j).k.on = x.on)
/-- The answer. -/
def RfAns (Ps : List Pl) (m : Nat) (p : Pl) (N : Nat) (w : World) (e : Ending) (w' : World) : Prop := Below N w w' ∧ w.heap.size ≤ w'.heap.size ∧ ∃ (Bv : Bool) (r : Int), e = .returned (.bool Bv) ∧ (Bv = true ↔ RfP Ps m p.k) ∧ CellsAt w' N (plV { p with r := r }).toArray
theorem below_setN {N : Nat} {w : World} (i : Nat) (v : Value) : Below N w (w.setCell ⟨N, i, none⟩ v) := (Below.refl N w).setCell (p := ⟨N, i, none⟩) (Nat.le_refl _) v
theorem rf_set {N : Nat} {w : World} {p : Pl} (h : CellsAt w N (plV p).toArray) (r : Int) : CellsAt (w.setCell ⟨N, 9, none⟩ (.int .i64 r)) N (plV { p with r := r }).toArray := cellsAt_set (i := 9) h (.int .i64 r)
theorem rf_no {Ps : List Pl} {m : Nat} {p : Pl} {N : Nat} {w w' : World} {r : Int} (hb : Below N w w') (hs : w.heap.size ≤ w'.heap.size) (hc : CellsAt w' N (plV { p with r := r }).toArray) (h : ¬ RfP Ps m p.k) : RfAns Ps m p N w (.returned (.bool false)) w' :=
  ⟨hb, hs, false, r, rfl, by constructor; (intro h; cases h); (intro h2; exact absurd h2 h), hc⟩
theorem rf_yes {Ps : List Pl} {m : Nat} {p : Pl} {N : Nat} {w w' : World} {r : Int} (hb : Below N w w') (hs : w.heap.size ≤ w'.heap.size) (hc : CellsAt w' N (plV { p with r := r }).toArray) (h : RfP Ps m p.k) : RfAns Ps m p N w (.returned (.bool true)) w' :=
  ⟨hb, hs, true, r, rfl, ⟨fun _ => h, fun _ => rfl⟩, hc⟩
set_option maxRecDepth 100000 in
set_option maxHeartbeats 4000000 in
theorem i_refers (B : Nat) (ad : Option Addr) (m c : Nat) (Ps : List Pl) (p : Pl) (N : Nat) (w : World) (hP : PlO B w ad m c Ps) (hm : m ≤ 1048576) (hN : ∀ g, ad = some ⟨g, 0, none⟩ → g < N) (hU : ∀ i j, i < m → j < m → (plA Ps i).k.nm = (plA Ps j).k.nm → i = j) (hC : CellsAt w N (plV p).toArray) :
    Calls Tryd.prog 24 #[.pointer (some ⟨N, 0, none⟩), .slice ad m c] w (RfAns Ps m p N w) := by
  have hNl : N < w.heap.size := cellsAt_lt hC
  have HC := hide hC
  have HP := hide hP
  have HU := hide hU
  have HN := hide hN
  clear hP hU hN hC
  obtain ⟨⟨nm, kd, on, pa, fl, re⟩, af, cf, d, a1, n1, c1, fa, fc, r0⟩ := p
  obtain ⟨fm, hfm⟩ : ∃ fm, fl.length = fm := ⟨_, rfl⟩
  have HFM := hide hfm
  have q1 : w.cell? ⟨N, 1, none⟩ = some (.int .i64 kd) := cellsAt_cell HC.out 1
  have q5 : w.cell? ⟨N, 5, none⟩ = some (.string re) := cellsAt_cell HC.out 5
  clear hfm
  by_cases h3 : kd = 3
  · have h3b : (kd != 3) = false := by rw [h3]; rfl
    have H3 := hide h3
    clear h3
    have CP := hide (i_place B ad m c Ps re w HP.out hm)
    go_enter Tryd.func24, Tryd.ntmps24
    go_wp2_with fail
    refine CP.out.mono ?_
    rintro e w2 ⟨⟨r, rfl, hr⟩, hb2⟩
    have hk2 := cellsAt_go HC.out hb2 hNl
    have HP2 := hide (plO_goN HP.out HN.out (hb2.mono (Nat.le_of_lt hNl)))
    have HB2 := hide (hb2.mono (Nat.le_of_lt hNl))
    have hs2 : w.heap.size ≤ w2.heap.size := hb2.size
    have v9 : w2.cell? ⟨N, 9, none⟩ = some (.int .i64 r0) := cellsAt_cell hk2 9
    have vf := cellsAt_frozen hk2
    have HK3 := hide (rf_set hk2 r)
    have HP3 := hide (plO_goN HP2.out HN.out (below_setN (w := w2) 9 (.int .i64 r)))
    have HB3 := hide (HB2.out.trans (below_setN (w := w2) 9 (.int .i64 r)))
    obtain ⟨W, hW⟩ : ∃ W, w2.setCell ⟨N, 9, none⟩ (.int .i64 r) = W := ⟨_, rfl⟩
    rw [hW] at HK3 HP3 HB3
    have hsW : w.heap.size ≤ W.heap.size := by rw [← hW]; simp; exact hs2
    have u9 : W.cell? ⟨N, 9, none⟩ = some (.int .i64 r) := cellsAt_cell HK3.out 9
    clear hb2 hk2
    rcases hr with ⟨rfl, hno⟩ | ⟨j, rfl, hj, hjn⟩
    · have HNO : Hid (¬ RfP Ps m ⟨nm, kd, on, pa, fl, re⟩) := hide (fun h => by
        obtain ⟨j, h1, h2, -⟩ := h.2 H3.out
        exact hno j h1 h2)
      clear hno
      go_wp2
      go_ret
      exact rf_no HB3.out hsW HK3.out HNO.out
    · obtain ⟨g, rfl, hBg, hg, hc⟩ := plO_cell HP3.out j hj
      have hji : (j : Int) < m := by omega
      have hgN := HN.out g rfl
      obtain ⟨p2, hp2⟩ : ∃ p2, plA Ps j = p2 := ⟨_, rfl⟩
      have HPP := hide hp2
      rw [hp2] at hc
      have HJN := hide hjn
      rw [hp2] at HJN
      obtain ⟨⟨onm, okd, oon, opa, ofl, ore⟩, oaf, ocf, od, oa1, on1, oc1, ofa, ofc, orr⟩ := p2
      obtain ⟨om, hom⟩ : ∃ om, ofl.length = om := ⟨_, rfl⟩
      have HOM := hide hom
      have q0 : W.cell? ⟨g, j * 10, none⟩ = some (.string onm) := hc 0 (by decide)
      have q1' : W.cell? ⟨g, j * 10 + 1, none⟩ = some (.int .i64 okd) := hc 1 (by decide)
      have q2 : W.cell? ⟨g, j * 10 + 2, none⟩ = some (.string oon) := hc 2 (by decide)
      have q3 : W.cell? ⟨g, j * 10 + 3, none⟩ = some (.string opa) := hc 3 (by decide)
      have q4 : W.cell? ⟨g, j * 10 + 4, none⟩ = some (.slice oaf ofl.length ocf) := hc 4 (by decide)
      have q5' : W.cell? ⟨g, j * 10 + 5, none⟩ = some (.string ore) := hc 5 (by decide)
      have q6 : W.cell? ⟨g, j * 10 + 6, none⟩ = some (.bool od) := hc 6 (by decide)
      have q7 : W.cell? ⟨g, j * 10 + 7, none⟩ = some (.slice oa1 on1 oc1) := hc 7 (by decide)
      have q8 : W.cell? ⟨g, j * 10 + 8, none⟩ = some (.slice ofa ofl.length ofc) := hc 8 (by decide)
      have q9 : W.cell? ⟨g, j * 10 + 9, none⟩ = some (.int .i64 orr) := hc 9 (by decide)
      have u2 : W.cell? ⟨N, 2, none⟩ = some (.string on) := cellsAt_cell HK3.out 2
      have u8 : W.cell? ⟨N, 8, none⟩ = some (.slice fa fl.length fc) := cellsAt_cell HK3.out 8
      have hNW : N < W.heap.size := cellsAt_lt HK3.out
      rw [hom] at q4 q8
      rw [HFM.out] at u8
      have HW := hide hW
      have hRF : (((okd != 3) && ((oon.toList == on.toList) && ((om : Int) == (fm : Int)))) = true) ↔ RfP Ps m ⟨nm, kd, on, pa, fl, re⟩ := by
        rw [Bool.and_eq_true, Bool.and_eq_true, ba_eq, bne_iff_ne, beq_iff_eq, Int.ofNat_inj]
        constructor
        · rintro ⟨h1, h2, h4⟩
          refine ⟨fun h => absurd H3.out h, fun _ => ⟨j, hj, ?_⟩⟩
          rw [HPP.out]
          exact ⟨HJN.out, h1, by show ofl.length = fl.length; rw [HOM.out, HFM.out]; exact h4, h2⟩
        · intro h
          obtain ⟨i, h1, h2, h4⟩ := h.2 H3.out
          have hij : i = j := HU.out i j h1 hj (by rw [h2, HPP.out]; exact HJN.out.symm)
          subst hij
          rw [HPP.out] at h4
          exact ⟨h4.1, h4.2.2, by rw [← HOM.out, ← HFM.out]; exact h4.2.1⟩
      have HRF := hide hRF
      have HB4 : ∀ o q, Below N w ((W.alloc o).drewN q) := fun o q => (HB3.out.alloc (Nat.le_of_lt hNW) o).trans ⟨rfl, rfl, rfl, Nat.le_refl _, fun _ _ => rfl⟩
      have HK4 : ∀ o q, CellsAt ((W.alloc o).drewN q) N (plV ⟨⟨nm, kd, on, pa, fl, re⟩, af, cf, d, a1, n1, c1, fa, fc, j⟩).toArray := fun o q => cellsAt_go HK3.out (((Below.refl W.heap.size _).alloc (Nat.le_refl _) o).trans ⟨rfl, rfl, rfl, Nat.le_refl _, fun _ _ => rfl⟩) hNW
      have HB5 := hide HB4
      have HK5 := hide HK4
      clear hc hom hRF HB4 HK4 hp2 hjn
      cases e2 : (okd != 3)
      · go_wp2
        go_quiet (fail)
        go_wp2
        go_ret
        exact rf_no (HB5.out _ _) (by simp; omega) (HK5.out _ _) (fun h => by have h9 := HRF.out.2 h; simp [e2] at h9)
      · cases e4 : (oon.toList == on.toList)
        · go_wp2
          go_quiet (fail)
          go_wp2
          go_ret
          exact rf_no (HB5.out _ _) (by simp; omega) (HK5.out _ _) (fun h => by have h9 := HRF.out.2 h; simp [e2, e4] at h9)
        · cases e3 : ((om : Int) == (fm : Int))
          · go_wp2
            go_quiet (fail)
            go_wp2
            go_ret
            exact rf_no (HB5.out _ _) (by simp; omega) (HK5.out _ _) (fun h => by have h9 := HRF.out.2 h; simp [e2, e3, e4] at h9)
          · go_wp2
            go_quiet (fail)
            go_wp2
            go_ret
            exact rf_yes (HB5.out _ _) (by simp; omega) (HK5.out _ _) (HRF.out.1 (by simp [e2, e3, e4]))
  · have h3b : (kd != 3) = true := by rw [bne_iff_ne]; exact h3
    have H3 := hide h3
    clear h3
    by_cases hre : re = ⟨#[]⟩
    · have hre3 : re.toList = [] := by simp [hre, ByteArray.toList_eq]
      have hre2 : re.toList.isEmpty = true := by rw [hre3]; rfl
      have HY : Hid (RfP Ps m ⟨nm, kd, on, pa, fl, re⟩) := hide ⟨fun _ => hre, fun h => absurd h H3.out⟩
      clear hre
      go_enter Tryd.func24, Tryd.ntmps24
      go_wp2
      go_ret
      exact rf_yes (Below.refl _ _) (Nat.le_refl _) HC.out HY.out
    · have hre3 : re.toList ≠ [] := fun e => hre ((ba_eq re ⟨#[]⟩).1 (by simp [e, ByteArray.toList_eq]))
      have hre2 : re.toList.isEmpty = false := by simpa using hre3
      have HY : Hid (¬ RfP Ps m ⟨nm, kd, on, pa, fl, re⟩) := hide (fun h => hre (h.1 H3.out))
      clear hre
      go_enter Tryd.func24, Tryd.ntmps24
      go_wp2
      go_ret
      exact rf_no (Below.refl _ _) (Nat.le_refl _) HC.out HY.out
end Go.Proofs.YtkfhhgfmjkjldaaDoor
