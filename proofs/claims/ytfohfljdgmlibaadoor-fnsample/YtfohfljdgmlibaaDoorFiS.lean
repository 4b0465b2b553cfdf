/-
  Contracts: where rows of a model begin and end, by the specification.
-/
import Derived.Test.YtfohfljdgmlibaaDoorEdS
import Derived.Test.YtfohfljdgmlibaaDoorSoS
import Derived.Test.YtfohfljdgmlibaaDoorFiI
namespace Go.Proofs.YtfohfljdgmlibaaDoor
open Go.RowKit Go.Joins
set_option linter.unusedVariables false
set_option linter.unusedSimpArgs false
theorem intR_zero (w : World) : IntR w.heap.size (w.alloc (.cells #[] 2)) (some ⟨w.heap.size, 0, none⟩) 0 [] := World.ownsRow_made (base := w.heap.size) (e := 2) (size := 1) w #[] 0 (Nat.le_refl _) (Nat.zero_le _) rfl
theorem ed_small {D : Pn} {n : Nat} {rev : Bool} (hRN : RN D n) {i : Nat} (hi : i < n) : (ed D rev i).length ≤ 40 := by
  obtain ⟨cc, hcc⟩ := hRN.2.2.2.2.1 i hi
  have := (ed_len (rev := rev) (by rw [hRN.1]; exact hRN.2.2.2.1) (i + 1) i cc (by omega) (by rw [hRN.1]; exact hi) hcc).1
  have := hRN.2.1
  omega
set_option maxRecDepth 100000 in
set_option maxHeartbeats 4000000 in
theorem s_firstOf (D : Pn) (n : Nat) (a : Option Addr) (cap : Nat) (w : World) (hD : D.n = n) (hz : pnTot D ≤ 1048576) (hr : PnAt w a D w.heap.size) :
    Calls Tryd.prog 46 #[.slice a n cap] w (IntAns (foV D) w) := by
  have HP := hide (s_particle D n a cap w hD hz hr)
  cases hpk : pkB D
  · rw [hpk] at HP
    have HE : Hid (foV D = []) := hide (by unfold foV; rw [hpk]; rfl)
    clear hD hz hr hpk
    go_enter Tryd.func46, Tryd.ntmps46
    go_wp2_with (first | (go_at_call 11; refine HP.out.mono ?_; rintro r w1 ⟨rfl, hb1⟩; have HB1 := hide hb1; clear hb1))
    go_ret
    rw [HE.out]
    exact ⟨_, 0, rfl, gOwn_lower (intR_zero w1) HB1.out.size, HB1.out.alloc HB1.out.size _⟩
  · have hRN := rn_of hD hpk hz
    have hn1 : 1 ≤ n ∧ n ≤ 40 := by rw [← hD]; exact (pk_facts hpk).1
    obtain ⟨b0, off, rfl, hb0, hrow⟩ := hr (by rw [hD]; omega)
    have CE := hide (fun (W : World) (hW : Below w.heap.size w W) => s_edge D n b0 off cap false hRN n (n - 1) (by omega) (by omega) W (Nat.lt_of_lt_of_le hb0 hW.size) (pnRow_up (pnRow_go hrow hb0 hW) hW.size))
    have hel := ed_small (rev := false) hRN (i := n - 1) (by omega)
    rw [hpk] at HP
    have hnn : (n : Int) - 1 = ((n - 1 : Nat) : Int) := by omega
    have hwp : IntKind.i64.wrap ((n - 1 : Nat) : Int) = ((n - 1 : Nat) : Int) := by rw [IntKind.wrap_i64]; omega
    have HE : Hid (foV D = srtL (ed D false (n - 1))) := hide (by unfold foV; rw [hpk, hD]; rfl)
    obtain ⟨P, hPp⟩ : ∃ P, ed D false (n - 1) = P := ⟨_, rfl⟩
    rw [hPp] at CE hel HE
    clear hD hz hr hpk hrow hRN hPp
    go_enter Tryd.func46, Tryd.ntmps46
    go_wp2_with (first
      | (go_at_call 11; refine HP.out.mono ?_; rintro r w1 ⟨rfl, hb1⟩; have HB1 := hide hb1; clear hb1)
      | (go_at_call 79; refine (CE.out _ HB1.out).mono ?_; rintro r w2 ⟨ad2, c2, rfl, ho2, hb2⟩; have HO2 := hide ho2; have HB2 := hide (HB1.out.trans (hb2.mono HB1.out.size)); clear ho2 hb2)
      | (go_at_call 78; refine (s_sorted ad2 P.length c2 P w2 rfl (by omega) (own_rowAt9 HO2.out)).mono ?_; rintro r w3 ⟨ad3, c3, rfl, ho3, hb3⟩; have HO3 := hide ho3; have HB3 := hide (HB2.out.trans (hb3.mono HB2.out.size)); clear ho3 hb3))
    go_ret
    rw [HE.out]
    exact ⟨ad3, c3, rfl, gOwn_lower HO3.out HB2.out.size, HB3.out⟩
set_option maxRecDepth 100000 in
set_option maxHeartbeats 4000000 in
theorem s_lastOf (D : Pn) (n : Nat) (a : Option Addr) (cap : Nat) (w : World) (hD : D.n = n) (hz : pnTot D ≤ 1048576) (hr : PnAt w a D w.heap.size) :
    Calls Tryd.prog 50 #[.slice a n cap] w (IntAns (laV D) w) := by
  have HP := hide (s_particle D n a cap w hD hz hr)
  cases hpk : pkB D
  · rw [hpk] at HP
    have HE : Hid (laV D = []) := hide (by unfold laV; rw [hpk]; rfl)
    clear hD hz hr hpk
    go_enter Tryd.func50, Tryd.ntmps50
    go_wp2_with (first | (go_at_call 11; refine HP.out.mono ?_; rintro r w1 ⟨rfl, hb1⟩; have HB1 := hide hb1; clear hb1))
    go_ret
    rw [HE.out]
    exact ⟨_, 0, rfl, gOwn_lower (intR_zero w1) HB1.out.size, HB1.out.alloc HB1.out.size _⟩
  · have hRN := rn_of hD hpk hz
    have hn1 : 1 ≤ n ∧ n ≤ 40 := by rw [← hD]; exact (pk_facts hpk).1
    obtain ⟨b0, off, rfl, hb0, hrow⟩ := hr (by rw [hD]; omega)
    have CE := hide (fun (W : World) (hW : Below w.heap.size w W) => s_edge D n b0 off cap true hRN n (n - 1) (by omega) (by omega) W (Nat.lt_of_lt_of_le hb0 hW.size) (pnRow_up (pnRow_go hrow hb0 hW) hW.size))
    have hel := ed_small (rev := true) hRN (i := n - 1) (by omega)
    rw [hpk] at HP
    have hnn : (n : Int) - 1 = ((n - 1 : Nat) : Int) := by omega
    have hwp : IntKind.i64.wrap ((n - 1 : Nat) : Int) = ((n - 1 : Nat) : Int) := by rw [IntKind.wrap_i64]; omega
    have HE : Hid (laV D = srtL (ed D true (n - 1))) := hide (by unfold laV; rw [hpk, hD]; rfl)
    obtain ⟨P, hPp⟩ : ∃ P, ed D true (n - 1) = P := ⟨_, rfl⟩
    rw [hPp] at CE hel HE
    clear hD hz hr hpk hrow hRN hPp
    go_enter Tryd.func50, Tryd.ntmps50
    go_wp2_with (first
      | (go_at_call 11; refine HP.out.mono ?_; rintro r w1 ⟨rfl, hb1⟩; have HB1 := hide hb1; clear hb1)
      | (go_at_call 79; refine (CE.out _ HB1.out).mono ?_; rintro r w2 ⟨ad2, c2, rfl, ho2, hb2⟩; have HO2 := hide ho2; have HB2 := hide (HB1.out.trans (hb2.mono HB1.out.size)); clear ho2 hb2)
      | (go_at_call 78; refine (s_sorted ad2 P.length c2 P w2 rfl (by omega) (own_rowAt9 HO2.out)).mono ?_; rintro r w3 ⟨ad3, c3, rfl, ho3, hb3⟩; have HO3 := hide ho3; have HB3 := hide (HB2.out.trans (hb3.mono HB2.out.size)); clear ho3 hb3))
    go_ret
    rw [HE.out]
    exact ⟨ad3, c3, rfl, gOwn_lower HO3.out HB2.out.size, HB3.out⟩
theorem pos_len {L : List Int} {n : Nat} (hn : n ≤ 40) (h : ∀ z ∈ L, 0 ≤ z ∧ z < (n : Int)) : (srtL L).length ≤ 40 := by
  have := sorted_len (srt_sorted L) (fun z hz => h z ((srt_mem L z).1 hz))
  omega
theorem foV_len {D : Pn} : (foV D).length ≤ 40 := by
  unfold foV
  split
  · rename_i hpk
    have h1 := (pk_facts hpk).1
    refine pos_len (n := D.n) h1.2 (fun z hz => ?_)
    have := ed_range (D.n - 1 + 1) (D.n - 1) (by omega) (lo_root hpk) z hz
    omega
  · simp
theorem laV_len {D : Pn} : (laV D).length ≤ 40 := by
  unfold laV
  split
  · rename_i hpk
    have h1 := (pk_facts hpk).1
    refine pos_len (n := D.n) h1.2 (fun z hz => ?_)
    have := ed_range (D.n - 1 + 1) (D.n - 1) (by omega) (lo_root hpk) z hz
    omega
  · simp
end Go.Proofs.YtfohfljdgmlibaaDoor
