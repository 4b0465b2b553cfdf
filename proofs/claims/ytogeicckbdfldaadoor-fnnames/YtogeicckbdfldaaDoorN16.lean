/-
  Texts put together: DrDoc, KdS.
-/
import Derived.Test.YtogeicckbdfldaaDoorN14
import Derived.Test.YtogeicckbdfldaaDoorN10
/-
  Contracts: the drawn document: whatever the code is, a row of items of its own, with what is hurt in it.
-/
namespace Go.Proofs.YtogeicckbdfldaaDoor
open Go.RowKit Go.Joins
set_option linter.unusedVariables false
set_option linter.unusedSimpArgs false
set_option maxHeartbeats 1000000 in
theorem d_belowG (G : Nat) (a : Option Addr) (n cap : Nat) (zs : List Int) (m : Int) (w : World) (hm : 1 ≤ m) (hm' : m ≤ 256) (h : RdAt w G a n cap zs) :
    Calls Tryd.prog 46 #[.pointer (some ⟨G, 0, none⟩), .int .i64 m] w fun e w' => ∃ x : Int, 0 ≤ x ∧ x < m ∧ e = .returned (.int .i64 x) ∧ Drew G a n cap zs w w' := by
  by_cases h2 : 2 ≤ m
  · exact d_below G a n cap zs m w h2 hm' h
  · have h1 : m ≤ 1 := by omega
    have HH := hide h
    clear h
    go_enter Tryd.func46, Tryd.ntmps46
    go_wp2
    go_ret
    exact ⟨0, by omega, by omega, rfl, drew_refl HH.out⟩
/-- What grow does, asked at one depth. -/
def GrowAt (G : Nat) (a : Option Addr) (n cap : Nat) (zs : List Int) : Prop := ∀ (w : World) (ad0 : Option Addr) (m0 c0 : Nat) (D0 : Dc) (up : Int), 1 ≤ m0 → m0 ≤ 800 → RdAt w G a n cap zs → DrIt (G + 1) w ad0 m0 c0 D0 →
    Calls Tryd.prog 51 #[.pointer (some ⟨G, 0, none⟩), .slice ad0 m0 c0, .int .i64 up, .int .i64 2] w (fun e w' => ∃ ad m c D, e = .returned (.slice ad m c) ∧ GS G a n cap zs w w' ad m c D ∧ m0 ≤ m ∧ m ≤ m0 + 39)
def D1 (u : Int) (nm : ByteArray) : Dc := ⟨1, fun _ => u, fun _ => nm, fun _ => ⟨#[]⟩, fun _ => 0, fun _ _ => ⟨#[]⟩, fun _ _ => ⟨#[]⟩⟩
theorem drIt_one (w : World) (G : Nat) (u : Int) (nm : ByteArray) (hG : G < w.heap.size) (hn : nm.size ≤ 8) : DrIt (G + 1) (w.alloc (.cells #[.int .i64 u, .string nm, .string ⟨#[]⟩, .slice none 0 0] IT)) (some ⟨w.heap.size, 0, none⟩) 1 1 (D1 u nm) := by
  refine ⟨[.int .i64 u, .string nm, .string ⟨#[]⟩, .slice none 0 0], ⟨rfl, .inr ⟨w.heap.size, 1, _, rfl, hG, heap_alloc_new w _, Nat.le_refl _, by unfold maxLen; omega, rfl, rfl⟩⟩, rfl, fun j hj => ?_⟩
  have : j = 0 := by omega
  subst this
  exact ⟨none, 0, ⟨rfl, rfl, rfl, rfl⟩, fun h => absurd h (Nat.lt_irrefl _), Nat.le_refl _, hn, (show (0 : Nat) ≤ 8 from by omega), (show (0 : Nat) ≤ 8 from by omega), fun k hk => absurd hk (Nat.not_lt_zero _)⟩
def updU (D : Dc) (k : Nat) (y : Int) : Dc := ⟨D.n, fun j => if j = k then y else D.U j, D.NM, D.TX, D.AC, D.AN, D.AV⟩
def updN (D : Dc) (k : Nat) (y : ByteArray) : Dc := ⟨D.n, D.U, fun j => if j = k then y else D.NM j, D.TX, D.AC, D.AN, D.AV⟩
def updT (D : Dc) (k : Nat) (y : ByteArray) : Dc := ⟨D.n, D.U, D.NM, fun j => if j = k then y else D.TX j, D.AC, D.AN, D.AV⟩
section
variable {G : Nat} {a : Option Addr} {n cap : Nat} {zs : List Int} {w0 w : World} {g m c k : Nat} {D D' : Dc} {xs : List Value}
theorem gs_cell (h : GS G a n cap zs w0 w (some ⟨g, 0, none⟩) m c D) (i : Nat) (hi : i < m * 4) : (∃ v, w.cell? ⟨g, i, none⟩ = some v) ∧ w.frozen? ⟨g, i, none⟩ = false := by
  obtain ⟨xs, h1, h2⟩ := h.2.1
  refine ⟨?_, h1.frozenAt i⟩
  rw [h1.cellAt i (by omega)]
  exact ⟨_, List.getElem?_eq_getElem (by rw [h1.1]; omega)⟩
theorem gs_store (h : GS G a n cap zs w0 w (some ⟨g, 0, none⟩) m c D) (i : Nat) (v : Value) (hI : ∀ (W : World) (xs : List Value), xs.length = m * 4 → Its W xs m D → Its W (xs.set i v) m D') : GS G a n cap zs w0 (w.setCell ⟨g, i, none⟩ v) (some ⟨g, 0, none⟩) m c D' := by
  obtain ⟨h1, ⟨xs, h2, h3⟩, h4, h5⟩ := h
  have hg := grown_set w ⟨g, i, none⟩ v
  have hlt := h2.lt g rfl
  have hrow : ∀ k, some g = some k → k = g := fun k hk => by cases hk; rfl
  have hk : KeepA w (w.setCell ⟨g, i, none⟩ v) := keepA_own (keepA_refl w) h2 hg
  refine ⟨rd_grown h1 hg (fun k hk => by have := hrow k hk; omega), ⟨_, (h2.stored i v).1, hI _ _ h2.1 (its_keep h3 hk)⟩, ?_, keepA_trans h5 hk⟩
  exact h4.grown hg (Nat.le_of_lt (rd_lt h1)) (fun k hk => by have := hrow k hk; omega)
theorem its_U (y : Int) (hk : k < m) (W : World) (xs : List Value) (hl : xs.length = m * 4) (h : Its W xs m D) : Its W (xs.set (k * 4) (.int .i64 y)) m (updU D k y) := by
  refine ⟨h.1, fun j hj => ?_⟩
  obtain ⟨ad, cp, ⟨c0, c1, c2, c3⟩, h2⟩ := h.2 j hj
  refine ⟨ad, cp, ⟨?_, ?_, ?_, ?_⟩, h2⟩
  · by_cases e : j = k
    · subst e; rw [List.getElem?_set_self (by omega)]; show _ = some (Value.int .i64 (if j = j then y else D.U j)); rw [if_pos rfl]
    · rw [List.getElem?_set_ne (by omega)]; show _ = some (Value.int .i64 (if j = k then y else D.U j)); rw [if_neg e]; exact c0
  · rw [List.getElem?_set_ne (by omega)]; exact c1
  · rw [List.getElem?_set_ne (by omega)]; exact c2
  · rw [List.getElem?_set_ne (by omega)]; exact c3
theorem its_N (y : ByteArray) (hy : y.size ≤ 8) (hk : k < m) (W : World) (xs : List Value) (hl : xs.length = m * 4) (h : Its W xs m D) : Its W (xs.set (k * 4 + 1) (.string y)) m (updN D k y) := by
  refine ⟨h.1, fun j hj => ?_⟩
  obtain ⟨ad, cp, ⟨c0, c1, c2, c3⟩, h2, h3, s1, s2, s3⟩ := h.2 j hj
  refine ⟨ad, cp, ⟨?_, ?_, ?_, ?_⟩, h2, h3, ?_, s2, s3⟩
  · rw [List.getElem?_set_ne (by omega)]; exact c0
  · by_cases e : j = k
    · subst e; rw [List.getElem?_set_self (by omega)]; show _ = some (Value.string (if j = j then y else D.NM j)); rw [if_pos rfl]
    · rw [List.getElem?_set_ne (by omega)]; show _ = some (Value.string (if j = k then y else D.NM j)); rw [if_neg e]; exact c1
  · rw [List.getElem?_set_ne (by omega)]; exact c2
  · rw [List.getElem?_set_ne (by omega)]; exact c3
  · show (if j = k then y else D.NM j).size ≤ 8
    split
    · exact hy
    · exact s1
theorem its_T (y : ByteArray) (hy : y.size ≤ 8) (hk : k < m) (W : World) (xs : List Value) (hl : xs.length = m * 4) (h : Its W xs m D) : Its W (xs.set (k * 4 + 2) (.string y)) m (updT D k y) := by
  refine ⟨h.1, fun j hj => ?_⟩
  obtain ⟨ad, cp, ⟨c0, c1, c2, c3⟩, h2, h3, s1, s2, s3⟩ := h.2 j hj
  refine ⟨ad, cp, ⟨?_, ?_, ?_, ?_⟩, h2, h3, s1, ?_, s3⟩
  · rw [List.getElem?_set_ne (by omega)]; exact c0
  · rw [List.getElem?_set_ne (by omega)]; exact c1
  · by_cases e : j = k
    · subst e; rw [List.getElem?_set_self (by omega)]; show _ = some (Value.string (if j = j then y else D.TX j)); rw [if_pos rfl]
    · rw [List.getElem?_set_ne (by omega)]; show _ = some (Value.string (if j = k then y else D.TX j)); rw [if_neg e]; exact c2
  · rw [List.getElem?_set_ne (by omega)]; exact c3
  · show (if j = k then y else D.TX j).size ≤ 8
    split
    · exact hy
    · exact s2
end
set_option maxRecDepth 100000 in
set_option maxHeartbeats 4000000 in
theorem d_doc (G : Nat) (a : Option Addr) (n cap : Nat) (zs : List Int) (w : World) (hgrow : GrowAt G a n cap zs) (h : RdAt w G a n cap zs) :
    Calls Tryd.prog 24 #[.pointer (some ⟨G, 0, none⟩)] w fun e w' => ∃ ad m c D, e = .returned (.slice ad m c) ∧ GS G a n cap zs w w' ad m c D ∧ 1 ≤ m ∧ m ≤ 40 := by
  have HH := hide h
  have HGR := hide hgrow
  clear h hgrow
  go_enter Tryd.func24, Tryd.ntmps24
  go_wp2_with fail
  refine (d_name G a n cap zs _ HH.out).mono ?_
  rintro e w1 ⟨nm, hn1, hn5, rfl, hd⟩
  have hk1 := keepA_drew (keepA_refl w) HH.out hd
  have hb1 := below_drew (Below.refl G w) hd (Nat.le_of_lt (rd_lt HH.out))
  have hlt1 := rd_lt hd.1
  have HGS : Hid (GS G a n cap zs w (w1.alloc (.cells #[.int .i64 (-1), .string nm, .string ⟨#[]⟩, .slice none 0 0] IT)) (some ⟨w1.heap.size, 0, none⟩) 1 1 (D1 (-1) nm)) := hide ⟨rd_alloc hd.1 _, drIt_one w1 G (-1) nm hlt1 (by omega), hb1.alloc (Nat.le_of_lt hlt1) _, keepA_below hk1 ((Below.refl _ _).alloc (Nat.le_refl _) _)⟩
  clear hd hk1 hb1
  go_wp2_with fail
  refine (HGR.out _ _ 1 1 _ 0 (by omega) (by omega) HGS.out.1 HGS.out.2.1).mono ?_
  rintro e w2 ⟨ad, m, c, D, rfl, hg2, hm1, hm2⟩
  replace HGS := hide (gs_trans HGS.out hg2)
  clear hg2
  go_wp2_with fail
  refine (d_once G a n cap zs 24 _ (by omega) (by omega) HGS.out.1).mono ?_
  rintro e w3 ⟨bo, rfl, hd⟩
  replace HGS := hide (gs_drew HGS.out hd)
  clear hd
  cases bo
  · go_wp2
    go_ret
    exact ⟨ad, m, c, D, rfl, HGS.out, hm1, by omega⟩
  · go_wp2_with fail
    refine (d_belowG G a n cap zs (m : Int) _ (by omega) (by omega) HGS.out.1).mono ?_
    rintro e w4 ⟨x, hx0, hx1, rfl, hd⟩
    replace HGS := hide (gs_drew HGS.out hd)
    clear hd
    obtain ⟨k, rfl⟩ : ∃ k : Nat, x = k := ⟨x.toNat, by omega⟩
    have hkm : k < m := by omega
    obtain ⟨g, hag, -⟩ := drIt_cells HGS.out.2.1 (by omega)
    subst hag
    go_wp2_with fail
    refine (d_below G a n cap zs 3 _ (by omega) (by omega) HGS.out.1).mono ?_
    rintro e w5 ⟨y, hy0, hy1, rfl, hd⟩
    replace HGS := hide (gs_drew HGS.out hd)
    clear hd
    rcases (show y = 0 ∨ y = 1 ∨ y = 2 by omega) with rfl | rfl | rfl
    · go_wp2_with fail
      refine (d_offG G a n cap zs (-1) (k : Int) _ (by omega) (by omega) (by omega) HGS.out.1).mono ?_
      rintro e w6 ⟨z, rfl, hd⟩
      replace HGS := hide (gs_drew HGS.out hd)
      clear hd
      obtain ⟨⟨v0, hv0⟩, hf0⟩ := gs_cell HGS.out (k * 4) (by omega)
      go_wp2
      go_ret
      exact ⟨some ⟨g, 0, none⟩, m, c, _, rfl, gs_store HGS.out (k * 4) (.int .i64 z) (fun W xs => its_U z hkm W xs), hm1, by omega⟩
    · go_wp2_with fail
      refine (d_text G a n cap zs _ HGS.out.1).mono ?_
      rintro e w6 ⟨z, hz, rfl, hd⟩
      replace HGS := hide (gs_drew HGS.out hd)
      clear hd
      obtain ⟨⟨v0, hv0⟩, hf0⟩ := gs_cell HGS.out (k * 4 + 2) (by omega)
      go_wp2
      go_ret
      exact ⟨some ⟨g, 0, none⟩, m, c, _, rfl, gs_store HGS.out (k * 4 + 2) (.string z) (fun W xs => its_T z (by omega) hkm W xs), hm1, by omega⟩
    · go_wp2_with fail
      refine (d_text G a n cap zs _ HGS.out.1).mono ?_
      rintro e w6 ⟨z, hz, rfl, hd⟩
      replace HGS := hide (gs_drew HGS.out hd)
      clear hd
      obtain ⟨⟨v0, hv0⟩, hf0⟩ := gs_cell HGS.out (k * 4 + 1) (by omega)
      go_wp2
      go_ret
      exact ⟨some ⟨g, 0, none⟩, m, c, _, rfl, gs_store HGS.out (k * 4 + 1) (.string z) (fun W xs => its_N z (by omega) hkm W xs), hm1, by omega⟩
set_option maxRecDepth 100000 in
set_option maxHeartbeats 4000000 in
theorem d_kids (a : Option Addr) (n cap : Nat) (zs : List Int) (w : World) (hgrow : ∀ G, GrowAt G a n cap zs) (hl : zs.length = n) (hz : ∀ x ∈ zs, 0 ≤ x ∧ x ≤ 255) (hn : n ≤ 1048576) (hs : SrcAt w a zs w.heap.size) :
    Calls Tryd.prog 7 #[.slice a n cap] w fun e w' => ∃ ad m c D x, e = .returned (.tuple #[.slice ad m c, .int .i64 x]) ∧ D.n = m ∧ (1 ≤ m ∧ m ≤ 40) ∧ dcTot D ≤ 1048576 ∧ DcAt w' ad D w'.heap.size ∧ Below w.heap.size w w' := by
  have HS := hide hs
  have HL := hide hl
  have HZ := hide hz
  have HGR := hide hgrow
  clear hs hl hz hgrow
  go_enter Tryd.func7, Tryd.ntmps7
  go_wp2_with fail
  refine (d_open a n cap zs _ HL.out HZ.out hn HS.out).mono ?_
  rintro e w1 ⟨rfl, hrd, hb1⟩
  have HRD := hide hrd
  have HB1 := hide hb1
  clear hrd hb1
  go_wp2_with fail
  refine (d_doc w.heap.size a n cap zs _ (HGR.out _) HRD.out).mono ?_
  rintro e w2 ⟨ad, m, c, D, rfl, hg, hm1, hm2⟩
  have HGS := hide hg
  clear hg
  go_wp2_with fail
  refine (d_offG w.heap.size a n cap zs 0 ((m : Int) - 1) _ (by omega) (by omega) (by omega) HGS.out.1).mono ?_
  rintro e w3 ⟨x, rfl, hd⟩
  replace HGS := hide (gs_drew HGS.out hd)
  clear hd
  go_wp2
  go_ret2
  exact ⟨ad, m, c, D, x, rfl, (drIt_dc HGS.out.2.1).1, ⟨hm1, hm2⟩, drIt_tot HGS.out.2.1 (by omega), (drIt_dc HGS.out.2.1).2, HB1.out.trans HGS.out.2.2.1⟩
end Go.Proofs.YtogeicckbdfldaaDoor

/-
  Contracts: the kids of an item, and the text right below it, by the specification.
-/
namespace Go.Proofs.YtogeicckbdfldaaDoor
open Go.RowKit Go.Joins
set_option linter.unusedVariables false
set_option linter.unusedSimpArgs false
theorem catT_take (D : Dc) (L : List Int) (j : Nat) (h : j < L.length) : catT D (L.take (j + 1)) = catT D (L.take j) ++ D.TX (L[j]?.getD 0).toNat := by
  rw [List.take_succ_eq_append_getElem h, catT_snoc, List.getElem?_eq_getElem h]
  rfl
theorem catT_app (D : Dc) : ∀ a b : List Int, catT D (a ++ b) = catT D a ++ catT D b
  | [], b => by show catT D b = ByteArray.empty ++ catT D b; rw [ByteArray.empty_append]
  | i :: l, b => by show D.TX i.toNat ++ catT D (l ++ b) = D.TX i.toNat ++ catT D l ++ catT D b; rw [catT_app D l b, ByteArray.append_assoc]
theorem catT_le (D : Dc) (L : List Int) (j : Nat) : (catT D (L.take j)).size ≤ (catT D L).size := by
  have h := catT_app D (L.take j) (L.drop j)
  rw [List.take_append_drop] at h
  rw [h, ByteArray.size_append]
  omega
set_option maxHeartbeats 2000000 in
theorem s_kids (D : Dc) (n b off cap : Nat) (w : World) (x : Nat) (hD : D.n = n) (hn : n ≤ 200) (hx : x < n) (hbs : b < w.heap.size) (hr : DcRow w b off D w.heap.size) (hdec : ∀ j, j < n → D.U j < j) :
    Calls Tryd.prog 32 #[.slice (some ⟨b, off, none⟩) n cap, .int .i64 x] w fun e w' => ∃ ad c, e = .returned (.slice ad (kd D x n).length c) ∧ w'.ownsRow w.heap.size 2 1 (.slice ad (kd D x n).length c) (kd D x n).length ((kd D x n).map (Value.int .i64)) ∧ Below w.heap.size w w' := by
  obtain ⟨i0, hi, hz0, hz1, hz2⟩ := info_parts info64
  have HD := hide hD
  have HR := hide hr
  have HC := hide hdec
  have hxn : (x : Int) < (n : Int) := by omega
  clear hr hD hdec
  go_enter Tryd.func32, Tryd.ntmps32
  go_wp2
  go_loopw [5, 6] (fun v iv wr => ∃ (i : Nat) (ad : Option Addr) (c : Nat), x + 1 ≤ i ∧ i ≤ n ∧ iv = .int .i64 i ∧ v = .slice ad (kd D x i).length c ∧ wr.ownsRow w.heap.size 2 1 (.slice ad (kd D x i).length c) (kd D x i).length ((kd D x i).map (Value.int .i64)) ∧ Below w.heap.size w wr) (fun _ iv _ => n - (intOf iv).toNat)
  case atStart =>
    have e : kd D x (x + 1) = [] := kd_start (fun j hj => HC.out j (by omega)) (x + 1) (Nat.le_refl _)
    refine ⟨x + 1, some ⟨w.heap.size, 0, none⟩, 0, Nat.le_refl _, by omega, by go_num, by rw [e]; rfl, ?_, (Below.refl _ _).alloc (Nat.le_refl _) _⟩
    rw [e]
    exact World.ownsRow_made (base := w.heap.size) (e := 2) (size := 1) w #[] 0 (Nat.le_refl _) (Nat.zero_le _) rfl
  case round =>
    obtain ⟨i, ad, c, hi1, hi2, rfl, rfl, ho, hb⟩ := hrel
    have HO := hide ho
    have HB := hide hb
    have hkl := kd_len D x i
    have hsz : w.heap.size ≤ wr.heap.size := hb.size
    by_cases hlt : i < n
    · obtain ⟨ad9, cp9, hc9, -⟩ := HR.out i (by rw [HD.out]; omega)
      obtain ⟨c0, c1, c2, c3⟩ := dcCells_go hc9 hbs hb
      have hin : (i : Int) < (n : Int) := by omega
      clear hc9 ho hb
      by_cases hu : D.U i = x
      · have e : kd D x (i + 1) = kd D x i ++ [(i : Int)] := kd_yes hu
        obtain ⟨L, hL⟩ : ∃ L, kd D x i = L := ⟨_, rfl⟩
        rw [hL] at e HO hkl ⊢
        have HE := hide e
        have hub : (D.U i == (x : Int)) = true := by simpa using hu
        clear e hL hu
        go_wp2_with (at_builtin; refine wpList_append_own _ rfl (.tmp 23) (.tmp 25) 27 rfl w.heap.size 2 i0 (.int .i64 0) 1 8 Tryd.underlying27 hi hz0 hz1 hz2 rfl (by decide) _ _ _ rfl (HO.out.alloc _) ⟨_, 0, none⟩ 1 1 [.int .i64 (i : Int)] rfl rfl (fun j u hj => one_new _ _ _ j u hj) (one_list _ _) (by unfold maxLen; omega) (by omega) (by simp; omega) ?_; intro v2 w2 hown2 hgrow2 _; obtain ⟨ad2, c2', hv2⟩ := own_shape hown2; rw [hv2] at hown2 ⊢; clear hv2; have HB2 := hide (below_step' HB.out HO.out hgrow2); have HO2 := hide hown2; clear hown2 hgrow2)
        go_roundw
        case rel =>
          refine ⟨i + 1, ad2, c2', by omega, by omega, by go_num, ?_, ?_, HB2.out⟩
          · rw [HE.out]; simp
          · have := HO2.out
            rw [HE.out]
            simpa using this
        case measure => simp [intOf]; omega
      · have e : kd D x (i + 1) = kd D x i := kd_no hu
        have HE := hide e
        have hub : (D.U i == (x : Int)) = false := by simpa using hu
        clear e hu
        go_wp2
        go_roundw
        case rel => exact ⟨i + 1, ad, c, by omega, by omega, by go_num, by rw [HE.out], by rw [HE.out]; exact HO.out, HB.out⟩
        case measure => simp [intOf]; omega
    · have hin : i = n := by omega
      subst hin
      go_wp2
      go_ret
      exact ⟨ad, c, rfl, ho, hb⟩
set_option maxHeartbeats 2000000 in
theorem s_text2 (D : Dc) (n b off cap : Nat) (w : World) (x : Nat) (hD : D.n = n) (hn : n ≤ 200) (hx : x < n) (hbs : b < w.heap.size) (hr : DcRow w b off D w.heap.size) (hdec : ∀ j, j < n → D.U j < j) (hsz : sumN (szD D) n ≤ 2500) :
    Calls Tryd.prog 31 #[.slice (some ⟨b, off, none⟩) n cap, .int .i64 x] w fun e w' => e = .returned (.string (txF D x n)) ∧ Below w.heap.size w w' := by
  have HD := hide hD
  have HR := hide hr
  have CK := hide (s_kids D n b off cap w x hD hn hx hbs hr hdec)
  have htx := txF_size D x n
  have hcat := cat_kd D x n
  have hmem := kd_mem (D := D) (x := (x : Int)) n
  have hlen := kd_len D x n
  obtain ⟨L, hL⟩ : ∃ L, kd D x n = L := ⟨_, rfl⟩
  rw [hL] at CK hcat hmem hlen
  rw [← hcat] at htx ⊢
  have HT : Hid ((catT D L).size ≤ 2500) := hide (by omega)
  have HM := hide hmem
  clear hr hdec htx hcat hmem hL hD
  go_enter Tryd.func31, Tryd.ntmps31
  go_wp2_with fail
  refine CK.out.mono ?_
  rintro e w1 ⟨ad, c, rfl, ho, hb⟩
  have hra := own_rowAt' rfl ho
  have HRA := hide hra
  have HB := hide hb
  clear ho hra hb
  go_wp2
  go_loop [5, 7] (fun s i => ∃ j : Nat, j ≤ L.length ∧ s = .string (catT D (L.take j)) ∧ i = .int .i64 j) (fun _ i => L.length - (intOf i).toNat)
  case atStart => exact ⟨0, Nat.zero_le _, rfl, rfl⟩
  case round =>
    obtain ⟨j, hj, rfl, rfl⟩ := hrel
    by_cases hlt : j < L.length
    · obtain ⟨b9, off9, rfl, hb9, hc9⟩ := HRA.out (fun h => by rw [h] at hlt; exact absurd hlt (Nat.not_lt_zero _))
      have k0 := hc9 j hlt
      obtain ⟨v, hv⟩ : ∃ v, L[j]?.getD 0 = v := ⟨_, rfl⟩
      have hvm := HM.out v (by rw [← hv, List.getElem?_eq_getElem hlt]; exact List.getElem_mem hlt)
      rw [hv] at k0
      obtain ⟨ad8, cp8, hc8, -⟩ := HR.out v.toNat (by rw [HD.out]; omega)
      obtain ⟨c0, c1, c2, c3⟩ := dcCells_go hc8 hbs HB.out
      have HTK := hide (catT_take D L j hlt)
      rw [hv] at HTK
      have hle := catT_le D L (j + 1)
      rw [HTK.out, ByteArray.size_append] at hle
      have hT := HT.out
      obtain ⟨S, hS⟩ : ∃ S, catT D (L.take j) = S := ⟨_, rfl⟩
      rw [hS] at HTK hle ⊢
      have hS1 : ¬ 9223372036854775807 < S.size + (D.TX v.toNat).size := by omega
      have hjl : (j : Int) < (L.length : Int) := by omega
      have hvn : v < (n : Int) := by omega
      have hv0 : 0 ≤ v := by omega
      clear hc9 hv hc8 hS hle hT
      go_wp2
      go_round
      case rel => exact ⟨j + 1, by omega, by rw [HTK.out], by go_num⟩
      case measure => simp [intOf]; omega
    · have hjn : j = L.length := by omega
      subst hjn
      go_wp2
      go_ret
      exact ⟨by first | rfl | rw [List.take_length], HB.out⟩
end Go.Proofs.YtogeicckbdfldaaDoor
