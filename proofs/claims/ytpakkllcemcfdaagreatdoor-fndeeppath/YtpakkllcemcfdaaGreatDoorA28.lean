/-
  Contracts: the drawn document: whatever the code is, a row of items of its own, with what is hurt in it.
-/
import Derived.Test.YtpakkllcemcfdaaGreatDoorA27
namespace Go.Proofs.YtpakkllcemcfdaaGreatDoor
open Go.RowKit Go.Joins
set_option linter.unusedVariables false
set_option linter.unusedSimpArgs false
set_option maxHeartbeats 1000000 in
theorem d_belowG (G : Nat) (a : Option Addr) (n cap : Nat) (zs : List Int) (m : Int) (w : World) (hm : 1 ≤ m) (hm' : m ≤ 256) (h : RdAt w G a n cap zs) :
    Calls Tryz.prog 49 #[.pointer (some ⟨G, 0, none⟩), .int .i64 m] w fun e w' => ∃ x : Int, 0 ≤ x ∧ x < m ∧ e = .returned (.int .i64 x) ∧ Drew G a n cap zs w w' := by
  by_cases h2 : 2 ≤ m
  · exact d_below G a n cap zs m w h2 hm' h
  · have h1 : m ≤ 1 := by omega
    have HH := hide h
    clear h
    go_enter Tryz.func49, Tryz.ntmps49
    go_wp2
    go_ret
    exact ⟨0, by omega, by omega, rfl, drew_refl HH.out⟩
/-- What grow does, asked at one depth. -/
def GrowAt (G : Nat) (a : Option Addr) (n cap : Nat) (zs : List Int) : Prop := ∀ (w : World) (ad0 : Option Addr) (m0 c0 : Nat) (D0 : Dc) (up : Int), 1 ≤ m0 → m0 ≤ 800 → RdAt w G a n cap zs → DrIt (G + 1) w ad0 m0 c0 D0 →
    Calls Tryz.prog 50 #[.pointer (some ⟨G, 0, none⟩), .slice ad0 m0 c0, .int .i64 up, .int .i64 2] w (fun e w' => ∃ ad m c D, e = .returned (.slice ad m c) ∧ GS G a n cap zs w w' ad m c D ∧ m0 ≤ m ∧ m ≤ m0 + 39)
def D1 (u : Int) (nm : ByteArray) : Dc := ⟨1, fun _ => u, fun _ => nm, fun _ => ⟨#[]⟩, fun _ => 0, fun _ _ => ⟨#[]⟩, fun _ _ => ⟨#[]⟩⟩
theorem drIt_one (w : World) (G : Nat) (u : Int) (nm : ByteArray) (hG : G < w.heap.size) (hn : nm.size ≤ 8) : DrIt (G + 1) (w.alloc (.cells #[.int .i64 u, .string nm, .string ⟨#[]⟩, .slice none 0 0] IT)) (some ⟨w.heap.size, 0, none⟩) 1 1 (D1 u nm) := by
  refine ⟨[.int .i64 u, .string nm, .string ⟨#[]⟩, .slice none 0 0], ⟨rfl, .inr ⟨w.heap.size, 1, _, rfl, hG, heap_alloc_new w _, Nat.le_refl _, by unfold maxLen; omega, rfl, rfl⟩⟩, rfl, fun j hj => ?_⟩
  have : j = 0 := by omega
  subst this
  exact ⟨none, 0, ⟨rfl, rfl, rfl, rfl⟩, fun h => absurd h (Nat.lt_irrefl _), Nat.le_refl _, hn, (show (0 : Nat) ≤ 8 from by omega), (show (0 : Nat) ≤ 8 from by omega), fun k hk => absurd hk (Nat.not_lt_zero _)⟩
def updU (D : Dc) (k : Nat) (y : Int) : Dc := ⟨D.n, fun j => if j = k then y else D.U j, D.NM, D.TX, D.AC, D.AN, D.AV⟩
def updN (D : Dc) (k : Nat) (y : ByteArray) : Dc := ⟨D.n, D.U, fun j => if j = k then y else D.NM j, D.TX, D.AC, D.AN, D.AV⟩
def updT (D : Dc) (k : Nat) (y : ByteArray) : Dc := ⟨D.n, D.U, D.NM, fun j => if j = k then y else D.TX j, D.AC, D.AN, D.AV⟩
section
variable {G : Nat} {a : Option Addr} {n cap : Nat} {zs : List Int} {w0 w : World} {g m c k : Nat} {D D' : Dc} {xs : List Value}
theorem gs_cell (h : GS G a n cap zs w0 w (some ⟨g, 0, none⟩) m c D) (i : Nat) (hi : i < m * 4) : (∃ v, w.cell? ⟨g, i, none⟩ = some v) ∧ w.frozen? ⟨g, i, none⟩ = false := by
  obtain ⟨xs, h1, h2⟩ := h.2.1
  refine ⟨?_, h1.frozenAt i⟩
  rw [h1.cellAt i (by omega)]
  exact ⟨_, List.getElem?_eq_getElem (by rw [h1.1]; omega)⟩
theorem gs_store (h : GS G a n cap zs w0 w (some ⟨g, 0, none⟩) m c D) (i : Nat) (v : Value) (hI : ∀ (W : World) (xs : List Value), xs.length = m * 4 → Its W xs m D → Its W (xs.set i v) m D') : GS G a n cap zs w0 (w.setCell ⟨g, i, none⟩ v) (some ⟨g, 0, none⟩) m c D' := by
  obtain ⟨h1, ⟨xs, h2, h3⟩, h4, h5⟩ := h
  have hg := grown_set w ⟨g, i, none⟩ v
  have hlt := h2.lt g rfl
  have hrow : ∀ k, some g = some k → k = g := fun k hk => by cases hk; rfl
  have hk : KeepA w (w.setCell ⟨g, i, none⟩ v) := keepA_own (keepA_refl w) h2 hg
  refine ⟨rd_grown h1 hg (fun k hk => by have := hrow k hk; omega), ⟨_, (h2.stored i v).1, hI _ _ h2.1 (its_keep h3 hk)⟩, ?_, keepA_trans h5 hk⟩
  exact h4.grown hg (Nat.le_of_lt (rd_lt h1)) (fun k hk => by have := hrow k hk; omega)
theorem its_U (y : Int) (hk : k < m) (W : World) (xs : List Value) (hl : xs.length = m * 4) (h : Its W xs m D) : Its W (xs.set (k * 4) (.int .i64 y)) m (updU D k y) := by
  refine ⟨h.1, fun j hj => ?_⟩
  obtain ⟨ad, cp, ⟨c0, c1, c2, c3⟩, h2⟩ := h.2 j hj
  refine ⟨ad, cp, ⟨?_, ?_, ?_, ?_⟩, h2⟩
  · by_cases e : j = k
    · subst e; rw [List.getElem?_set_self (by omega)]; show _ = some (Value.int .i64 (if j = j then y else D.U j)); rw [if_pos rfl]
    · rw [List.getElem?_set_ne (by omega)]; show _ = some (Value.int .i64 (if j = k then y else D.U j)); rw [if_neg e]; exact c0
  · rw [List.getElem?_set_ne (by omega)]; exact c1
  · rw [List.getElem?_set_ne (by omega)]; exact c2
  · rw [List.getElem?_set_ne (by omega)]; exact c3
theorem its_N (y : ByteArray) (hy : y.size ≤ 8) (hk : k < m) (W : World) (xs : List Value) (hl : xs.length = m * 4) (h : Its W xs m D) : Its W (xs.set (k * 4 + 1) (.string y)) m (updN D k y) := by
  refine ⟨h.1, fun j hj => ?_⟩
  obtain ⟨ad, cp, ⟨c0, c1, c2, c3⟩, h2, h3, s1, s2, s3⟩ := h.2 j hj
  refine ⟨ad, cp, ⟨?_, ?_, ?_, ?_⟩, h2, h3, ?_, s2, s3⟩
  · rw [List.getElem?_set_ne (by omega)]; exact c0
  · by_cases e : j = k
    · subst e; rw [List.getElem?_set_self (by omega)]; show _ = some (Value.string (if j = j then y else D.NM j)); rw [if_pos rfl]
    · rw [List.getElem?_set_ne (by omega)]; show _ = some (Value.string (if j = k then y else D.NM j)); rw [if_neg e]; exact c1
  · rw [List.getElem?_set_ne (by omega)]; exact c2
  · rw [List.getElem?_set_ne (by omega)]; exact c3
  · show (if j = k then y else D.NM j).size ≤ 8
    split
    · exact hy
    · exact s1
theorem its_T (y : ByteArray) (hy : y.size ≤ 8) (hk : k < m) (W : World) (xs : List Value) (hl : xs.length = m * 4) (h : Its W xs m D) : Its W (xs.set (k * 4 + 2) (.string y)) m (updT D k y) := by
  refine ⟨h.1, fun j hj => ?_⟩
  obtain ⟨ad, cp, ⟨c0, c1, c2, c3⟩, h2, h3, s1, s2, s3⟩ := h.2 j hj
  refine ⟨ad, cp, ⟨?_, ?_, ?_, ?_⟩, h2, h3, s1, ?_, s3⟩
  · rw [List.getElem?_set_ne (by omega)]; exact c0
  · rw [List.getElem?_set_ne (by omega)]; exact c1
  · by_cases e : j = k
    · subst e; rw [List.getElem?_set_self (by omega)]; show _ = some (Value.string (if j = j then y else D.TX j)); rw [if_pos rfl]
    · rw [List.getElem?_set_ne (by omega)]; show _ = some (Value.string (if j = k then y else D.TX j)); rw [if_neg e]; exact c2
  · rw [List.getElem?_set_ne (by omega)]; exact c3
  · show (if j = k then y else D.TX j).size ≤ 8
    split
    · exact hy
    · exact s2
end
set_option maxRecDepth 100000 in
set_option maxHeartbeats 4000000 in
theorem d_doc (G : Nat) (a : Option Addr) (n cap : Nat) (zs : List Int) (w : World) (hgrow : GrowAt G a n cap zs) (h : RdAt w G a n cap zs) :
    Calls Tryz.prog 24 #[.pointer (some ⟨G, 0, none⟩)] w fun e w' => ∃ ad m c D, e = .returned (.slice ad m c) ∧ GS G a n cap zs w w' ad m c D ∧ 1 ≤ m ∧ m ≤ 40 := by
  have HH := hide h
  have HGR := hide hgrow
  clear h hgrow
  go_enter Tryz.func24, Tryz.ntmps24
  go_wp2_with fail
  refine (d_name G a n cap zs _ HH.out).mono ?_
  rintro e w1 ⟨nm, hn1, hn5, rfl, hd⟩
  have hk1 := keepA_drew (keepA_refl w) HH.out hd
  have hb1 := below_drew (Below.refl G w) hd (Nat.le_of_lt (rd_lt HH.out))
  have hlt1 := rd_lt hd.1
  have HGS : Hid (GS G a n cap zs w (w1.alloc (.cells #[.int .i64 (-1), .string nm, .string ⟨#[]⟩, .slice none 0 0] IT)) (some ⟨w1.heap.size, 0, none⟩) 1 1 (D1 (-1) nm)) := hide ⟨rd_alloc hd.1 _, drIt_one w1 G (-1) nm hlt1 (by omega), hb1.alloc (Nat.le_of_lt hlt1) _, keepA_below hk1 ((Below.refl _ _).alloc (Nat.le_refl _) _)⟩
  clear hd hk1 hb1
  go_wp2_with fail
  refine (HGR.out _ _ 1 1 _ 0 (by omega) (by omega) HGS.out.1 HGS.out.2.1).mono ?_
  rintro e w2 ⟨ad, m, c, D, rfl, hg2, hm1, hm2⟩
  replace HGS := hide (gs_trans HGS.out hg2)
  clear hg2
  go_wp2_with fail
  refine (d_once G a n cap zs 24 _ (by omega) (by omega) HGS.out.1).mono ?_
  rintro e w3 ⟨bo, rfl, hd⟩
  replace HGS := hide (gs_drew HGS.out hd)
  clear hd
  cases bo
  · go_wp2
    go_ret
    exact ⟨ad, m, c, D, rfl, HGS.out, hm1, by omega⟩
  · go_wp2_with fail
    refine (d_belowG G a n cap zs (m : Int) _ (by omega) (by omega) HGS.out.1).mono ?_
    rintro e w4 ⟨x, hx0, hx1, rfl, hd⟩
    replace HGS := hide (gs_drew HGS.out hd)
    clear hd
    obtain ⟨k, rfl⟩ : ∃ k : Nat, x = k := ⟨x.toNat, by omega⟩
    have hkm : k < m := by omega
    obtain ⟨g, hag, -⟩ := drIt_cells HGS.out.2.1 (by omega)
    subst hag
    go_wp2_with fail
    refine (d_below G a n cap zs 3 _ (by omega) (by omega) HGS.out.1).mono ?_
    rintro e w5 ⟨y, hy0, hy1, rfl, hd⟩
    replace HGS := hide (gs_drew HGS.out hd)
    clear hd
    rcases (show y = 0 ∨ y = 1 ∨ y = 2 by omega) with rfl | rfl | rfl
    · go_wp2_with fail
      refine (d_offG G a n cap zs (-1) (k : Int) _ (by omega) (by omega) (by omega) HGS.out.1).mono ?_
      rintro e w6 ⟨z, rfl, hd⟩
      replace HGS := hide (gs_drew HGS.out hd)
      clear hd
      obtain ⟨⟨v0, hv0⟩, hf0⟩ := gs_cell HGS.out (k * 4) (by omega)
      go_wp2
      go_ret
      exact ⟨some ⟨g, 0, none⟩, m, c, _, rfl, gs_store HGS.out (k * 4) (.int .i64 z) (fun W xs => its_U z hkm W xs), hm1, by omega⟩
    · go_wp2_with fail
      refine (d_text G a n cap zs _ HGS.out.1).mono ?_
      rintro e w6 ⟨z, hz, rfl, hd⟩
      replace HGS := hide (gs_drew HGS.out hd)
      clear hd
      obtain ⟨⟨v0, hv0⟩, hf0⟩ := gs_cell HGS.out (k * 4 + 2) (by omega)
      go_wp2
      go_ret
      exact ⟨some ⟨g, 0, none⟩, m, c, _, rfl, gs_store HGS.out (k * 4 + 2) (.string z) (fun W xs => its_T z (by omega) hkm W xs), hm1, by omega⟩
    · go_wp2_with fail
      refine (d_text G a n cap zs _ HGS.out.1).mono ?_
      rintro e w6 ⟨z, hz, rfl, hd⟩
      replace HGS := hide (gs_drew HGS.out hd)
      clear hd
      obtain ⟨⟨v0, hv0⟩, hf0⟩ := gs_cell HGS.out (k * 4 + 1) (by omega)
      go_wp2
      go_ret
      exact ⟨some ⟨g, 0, none⟩, m, c, _, rfl, gs_store HGS.out (k * 4 + 1) (.string z) (fun W xs => its_N z (by omega) hkm W xs), hm1, by omega⟩
end Go.Proofs.YtpakkllcemcfdaaGreatDoor
