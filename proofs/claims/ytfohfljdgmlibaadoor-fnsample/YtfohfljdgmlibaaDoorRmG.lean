/-
  Contracts: the drawn model, the drawn model with a row of names, as the laws draw them; whether two rows of texts are alike.
-/
import Derived.Test.YtfohfljdgmlibaaDoorRmF
namespace Go.Proofs.YtfohfljdgmlibaaDoor
open Go.RowKit Go.Joins
set_option linter.unusedVariables false
set_option linter.unusedSimpArgs false
/-- What the laws know of a drawn model. -/
def DmA (w : World) (ad : Option Addr) (m : Nat) (D : Pn) : Prop := D.n = m ∧ pnTot D ≤ 1048576 ∧ m ≤ 40 ∧ PnAt w ad D w.heap.size
theorem dm_of {G : Nat} {a : Option Addr} {n cap : Nat} {zs : List Int} {w w' : World} {ad : Option Addr} {m c : Nat} {D : Pn} (h : MdS G a n cap zs w w' ad m c D) : DmA w' ad m D := ⟨(po_at h.2.1).1, po_tot h.2.1 (by have := h.2.2; omega), h.2.2, (po_at h.2.1).2⟩
theorem dm_go {w w' : World} {ad : Option Addr} {m : Nat} {D : Pn} (h : DmA w ad m D) (hb : Below w.heap.size w w') : DmA w' ad m D := ⟨h.1, h.2.1, h.2.2.1, pnAt_up (pnAt_go h.2.2.2 hb) hb.size⟩
set_option maxHeartbeats 2000000 in
theorem d_sample (a : Option Addr) (n cap : Nat) (zs : List Int) (w : World) (hl : zs.length = n) (hz : ∀ x ∈ zs, 0 ≤ x ∧ x ≤ 255) (hn : n ≤ 1048576) (hs : SrcAt w a zs w.heap.size) :
    Calls Tryd.prog 24 #[.slice a n cap] w fun e w' => ∃ ad m c D, e = .returned (.slice ad m c) ∧ DmA w' ad m D ∧ Below w.heap.size w w' := by
  have HS := hide hs
  have HL := hide hl
  have HZ := hide hz
  clear hs hl hz
  go_enter Tryd.func24, Tryd.ntmps24
  go_wp2_with fail
  refine (d_open a n cap zs _ HL.out HZ.out hn HS.out).mono ?_
  rintro e w1 ⟨rfl, hrd, hb1⟩
  have HRD := hide hrd
  have HB1 := hide hb1
  clear hrd hb1
  go_wp2_with fail
  refine (d_model w.heap.size a n cap zs _ HRD.out).mono ?_
  rintro e w2 ⟨ad, m, c, D, rfl, hM⟩
  have HM := hide hM
  clear hM
  go_wp2
  go_ret
  exact ⟨ad, m, c, D, rfl, dm_of HM.out, HB1.out.trans HM.out.1.2⟩
set_option maxHeartbeats 2000000 in
theorem d_accepts (a : Option Addr) (n cap : Nat) (zs : List Int) (w : World) (hl : zs.length = n) (hz : ∀ x ∈ zs, 0 ≤ x ∧ x ≤ 255) (hn : n ≤ 1048576) (hs : SrcAt w a zs w.heap.size) :
    Calls Tryd.prog 8 #[.slice a n cap] w fun e w' => ∃ ad m c D sa sc T, e = .returned (.tuple #[.slice ad m c, .slice sa T.length sc]) ∧ DmA w' ad m D ∧ T.length ≤ 6 ∧ (∀ s ∈ T, s.size ≤ 20000) ∧ TxAt w' sa T w'.heap.size ∧ Below w.heap.size w w' := by
  have HS := hide hs
  have HL := hide hl
  have HZ := hide hz
  clear hs hl hz
  go_enter Tryd.func8, Tryd.ntmps8
  go_wp2_with fail
  refine (d_open a n cap zs _ HL.out HZ.out hn HS.out).mono ?_
  rintro e w1 ⟨rfl, hrd, hb1⟩
  have HRD := hide hrd
  have HB1 := hide hb1
  clear hrd hb1
  go_wp2_with fail
  refine (d_model w.heap.size a n cap zs _ HRD.out).mono ?_
  rintro e w2 ⟨ad, m, c, D, rfl, hM⟩
  have HM := hide hM
  clear hM
  go_wp2_with fail
  refine (d_row w.heap.size a n cap zs _ _ ad m c D HM.out).mono ?_
  rintro e w3 ⟨sa, sc, T, rfl, hT6, hR⟩
  have HR := hide hR
  clear hR
  go_wp2
  go_ret2
  exact ⟨ad, m, c, D, sa, sc, T, rfl, dm_of HR.out.md, hT6, HR.out.sz, tx_own HR.out.tx, HB1.out.trans HR.out.md.1.2⟩
set_option maxHeartbeats 2000000 in
theorem d_attribute (a : Option Addr) (n cap : Nat) (zs : List Int) (w : World) (hl : zs.length = n) (hz : ∀ x ∈ zs, 0 ≤ x ∧ x ≤ 255) (hn : n ≤ 1048576) (hs : SrcAt w a zs w.heap.size) :
    Calls Tryd.prog 18 #[.slice a n cap] w fun e w' => ∃ ad m c D sa sc T, e = .returned (.tuple #[.slice ad m c, .slice sa T.length sc]) ∧ DmA w' ad m D ∧ T.length ≤ 6 ∧ (∀ s ∈ T, s.size ≤ 20000) ∧ TxAt w' sa T w'.heap.size ∧ Below w.heap.size w w' := by
  have HS := hide hs
  have HL := hide hl
  have HZ := hide hz
  clear hs hl hz
  go_enter Tryd.func18, Tryd.ntmps18
  go_wp2_with fail
  refine (d_accepts a n cap zs _ HL.out HZ.out hn HS.out).mono ?_
  rintro e w1 ⟨ad, m, c, D, sa, sc, T, rfl, h1, h2, h3, h4, h5⟩
  have H1 := hide h1
  have H3 := hide h3
  have H4 := hide h4
  have H5 := hide h5
  clear h1 h3 h4 h5
  go_wp2
  go_ret2
  exact ⟨ad, m, c, D, sa, sc, T, rfl, H1.out, h2, H3.out, H4.out, H5.out⟩
set_option maxHeartbeats 1000000 in
theorem l_sameTexts (a1 a2 : Option Addr) (n c1 c2 : Nat) (L : List ByteArray) (w : World) (hL : L.length = n) (hn : n ≤ 1048576) (h1 : TxAt w a1 L w.heap.size) (h2 : TxAt w a2 L w.heap.size) :
    Calls Tryd.prog 27 #[.slice a1 n c1, .slice a2 n c2] w fun e w' => e = .returned (.bool true) ∧ Below w.heap.size w w' := by
  have HL := hide hL
  have H1 := hide h1
  have H2 := hide h2
  clear hL h1 h2
  go_enter Tryd.func27, Tryd.ntmps27
  go_wp2
  go_loopw [5] (fun i wr => ∃ k : Nat, k ≤ n ∧ i = .int .i64 k ∧ Below w.heap.size w wr) (fun i _ => n - (intOf i).toNat)
  case atStart => exact ⟨0, Nat.zero_le _, rfl, Below.refl _ _⟩
  case round =>
    obtain ⟨k, hk, rfl, hb⟩ := hrel
    by_cases hlt : k < n
    · have hlt2 : k < L.length := by rw [HL.out]; exact hlt
      have hne : L ≠ [] := fun h => by rw [h] at hlt2; exact absurd hlt2 (Nat.not_lt_zero _)
      obtain ⟨b, off, rfl, hbs, hc⟩ := H1.out hne
      obtain ⟨b', off', rfl, hbs', hc'⟩ := H2.out hne
      have k1 := (hb.cell (p := ⟨b, off + k, none⟩) hbs).trans (hc k hlt2)
      have k2 := (hb.cell (p := ⟨b', off' + k, none⟩) hbs').trans (hc' k hlt2)
      have hi : (k : Int) < (n : Int) := by omega
      have hi0 : (0 : Int) ≤ (k : Int) := by omega
      have HB := hide hb
      obtain ⟨T, hT⟩ : ∃ T, L[k]?.getD ⟨#[]⟩ = T := ⟨_, rfl⟩
      rw [hT] at k1 k2
      clear hc hc' hb hT hne
      go_wp2
      go_quiet (fail)
      go_wp2
      go_roundw
      case rel => exact ⟨k + 1, by omega, by go_num, HB.out.trans ((drewN_below9 _ _).mono HB.out.size)⟩
      case measure => simp [intOf]; omega
    · go_wp2
      go_ret
      exact ⟨rfl, hb⟩
end Go.Proofs.YtfohfljdgmlibaaDoor
