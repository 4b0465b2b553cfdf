/-
  Texts put together: RmF, RmG, SpP.
-/
import Derived.Test.YtfohfljdgmlibaaDoorU26
import Derived.Test.YtfohfljdgmlibaaDoorU27
import Derived.Test.YtfohfljdgmlibaaDoorU29
import Derived.Test.YtfohfljdgmlibaaDoorU23
/-
  Contract: a drawn row of names, whatever the code is.
-/
namespace Go.Proofs.YtfohfljdgmlibaaDoor
open Go.RowKit Go.Joins
set_option linter.unusedVariables false
set_option linter.unusedSimpArgs false
/-- A drawn model, and the names so far. -/
structure RwS (G : Nat) (a : Option Addr) (n cap : Nat) (zs : List Int) (w w' : World) (ad : Option Addr) (m c : Nat) (D : Pn) (sa : Option Addr) (sc : Nat) (T : List ByteArray) : Prop where
  md : MdS G a n cap zs w w' ad m c D
  tx : w'.ownsRow (G + 1) 9 1 (.slice sa T.length sc) T.length (T.map Value.string)
  sz : ∀ s ∈ T, s.size ≤ 20000
section
variable {G : Nat} {a : Option Addr} {n cap : Nat} {zs : List Int} {w v w1 : World} {ad : Option Addr} {m c : Nat} {D : Pn} {sa : Option Addr} {sc : Nat} {T : List ByteArray}
theorem rw_drew (h : RwS G a n cap zs w v ad m c D sa sc T) (hd : Drew G a n cap zs v w1) : RwS G a n cap zs w w1 ad m c D sa sc T :=
  ⟨mds_drew h.md hd, own_kp h.tx (kp_grown (S := fun k => k = G) hd.2 (fun k hk => by cases hk; rfl)) (fun j hj e => by have := (h.tx.lt j hj).1; have e' : j = G := e; omega), h.sz⟩
theorem md_below (h : MdS G a n cap zs w v ad m c D) (hb : Below v.heap.size v w1) : MdS G a n cap zs w w1 ad m c D := ⟨mj_below h.1 hb, po_G h.2.1 ⟨hb.os, hb.tape, hb.output, hb.size, fun k hk _ => hb.block k hk⟩, h.2.2⟩
theorem rw_below (h : RwS G a n cap zs w v ad m c D sa sc T) (hb : Below v.heap.size v w1) : RwS G a n cap zs w w1 ad m c D sa sc T := ⟨md_below h.md hb, gOwn_after h.tx hb, h.sz⟩
theorem rw_app {o : Obj} {gg c9 : Nat} {s : ByteArray} (h : RwS G a n cap zs w v ad m c D sa sc T) (hs : s.size ≤ 20000) (ho : w1.ownsRow (G + 1) 9 1 (.slice (some ⟨gg, 0, none⟩) (T.length + 1) c9) (T.length + 1) (T.map Value.string ++ [.string s])) (hg : (v.alloc o).grownBy w1 (Value.slice sa T.length sc).ownBlock) :
    RwS G a n cap zs w w1 ad m c D (some ⟨gg, 0, none⟩) c9 (T ++ [s]) := by
  have hG := rd_lt h.md.1.1
  have hrow : ∀ k, (Value.slice sa T.length sc).ownBlock = some k → G < k := fun k hk => (h.tx.lt k hk).1
  have hk : Kp (fun j => (Value.slice sa T.length sc).ownBlock = some j) v w1 := (kp_alloc v o).trans (kp_grown (S := fun j => (Value.slice sa T.length sc).ownBlock = some j) hg (fun j hj => hj)) (fun j _ hj => hj)
  refine ⟨⟨⟨rd_grown (rd_alloc h.md.1.1 o) hg hrow, (h.md.1.2.alloc (Nat.le_of_lt hG) o).grown hg (by simp; omega) (fun k hk => Nat.le_of_lt (hrow k hk))⟩, ?_, h.md.2.2⟩, ?_, ?_⟩
  · obtain ⟨xs, h1, -⟩ := id h.md.2.1
    exact po_kp h.md.2.1 hk (fun j hj e => own_ne h.tx e h1 hj (by decide) rfl) (fun B' z n v ys j hv hj _ e => own_ne hv hj h.tx e (by decide) rfl)
  · rw [show (T ++ [s]).length = T.length + 1 by simp, List.map_append]; exact ho
  · intro t ht
    rcases List.mem_append.1 ht with ht | ht
    · exact h.sz t ht
    · rw [List.mem_singleton.1 ht]; exact hs
end
/-- The positions that may come next. -/
def NxR (G : Nat) (w : World) (na : Option Addr) (nc : Nat) (L : List Int) (m : Nat) : Prop := w.ownsRow (G + 1) 2 1 (.slice na L.length nc) L.length (L.map (Value.int .i64)) ∧ L.length ≤ 40 ∧ ∀ z ∈ L, 0 ≤ z ∧ z < (m : Int)
section
variable {G : Nat} {a : Option Addr} {n cap : Nat} {zs : List Int} {w v w1 : World} {na : Option Addr} {nc : Nat} {L : List Int} {m : Nat}
theorem nx_drew (h : NxR G v na nc L m) (hd : Drew G a n cap zs v w1) : NxR G w1 na nc L m := ⟨own_kp h.1 (kp_grown (S := fun k => k = G) hd.2 (fun k hk => by cases hk; rfl)) (fun j hj e => by have := (h.1.lt j hj).1; have e' : j = G := e; omega), h.2⟩
theorem nx_of {B : Nat} (h : IntR B v na nc L) (hB : G < B) (h1 : L.length ≤ 40) (h2 : ∀ z ∈ L, 0 ≤ z ∧ z < (m : Int)) : NxR G v na nc L m := ⟨gOwn_lower h (by omega), h1, h2⟩
end
theorem srt_in {D : Pn} (h : pkB D = true) {x : Int} : (srtL (foL D x D.n)).length ≤ 40 ∧ ∀ z ∈ srtL (foL D x D.n), 0 ≤ z ∧ z < (D.n : Int) :=
  ⟨pos_len (n := D.n) (pk_facts h).1.2 (foL_range h), fun z hz => foL_range h z ((srt_mem _ z).1 hz)⟩
set_option maxRecDepth 100000 in
set_option maxHeartbeats 8000000 in
theorem d_row (G : Nat) (a : Option Addr) (n cap : Nat) (zs : List Int) (w0 w : World) (ad : Option Addr) (m c : Nat) (D : Pn) (h : MdS G a n cap zs w0 w ad m c D) :
    Calls Tryd.prog 33 #[.pointer (some ⟨G, 0, none⟩), .slice ad m c] w fun r w' => ∃ sa sc T, r = .returned (.slice sa T.length sc) ∧ T.length ≤ 6 ∧ RwS G a n cap zs w0 w' ad m c D sa sc T := by
  obtain ⟨i0, hi0, hz0, hz1, hz2⟩ := info_parts infoStr9
  have hG := rd_lt h.1.1
  have H0 : Hid (RwS G a n cap zs w0 (w.alloc (.cells #[] 9)) ad m c D (some ⟨w.heap.size, 0, none⟩) 0 []) := hide ⟨mds_alloc h _, World.ownsRow_lit w #[] 0 (by omega) (by unfold maxLen; omega) rfl, fun s hs => absurd hs (List.not_mem_nil)⟩
  clear h
  go_enter Tryd.func33, Tryd.ntmps33
  go_upto_region 2 with fail
  obtain ⟨wy, hwy⟩ : ∃ wy, w.alloc (.cells #[] 9) = wy := ⟨_, rfl⟩
  obtain ⟨o0, ho0⟩ : ∃ o0, w.heap.size = o0 := ⟨_, rfl⟩
  rw [hwy, ho0] at H0
  rw [hwy, ho0]
  rw [ho0] at hG
  clear hwy ho0
  have hDn := (po_at H0.out.md.2.1).1
  have HDn := hide hDn
  have htot := po_tot H0.out.md.2.1 (by have := H0.out.md.2.2; omega)
  have HTOT := hide htot
  clear hDn htot
  go_cut [17] (fun v wx => ∃ b : Bool, v = .bool b ∧ Hid (RwS G a n cap zs w0 wx ad m c D (some ⟨o0, 0, none⟩) 0 []) ∧ (b = true → pkB D = true))
  case first =>
    go_wp2_with fail
    refine (s_particle D m ad c _ HDn.out HTOT.out (po_at H0.out.md.2.1).2).mono ?_
    rintro e w1 ⟨rfl, hb1⟩
    have H1 := hide (rw_below H0.out hb1)
    clear hb1
    cases hpk : pkB D
    · go_wp2
      go_meet
      exact ⟨false, rfl, H1, fun h => (by cases h)⟩
    · go_wp2_with fail
      refine (d_once G a n cap zs 3 _ (by omega) (by omega) H1.out.md.1.1).mono ?_
      rintro e w2 ⟨b, rfl, hd⟩
      have H2 := hide (rw_drew H1.out hd)
      clear hd
      cases b
      all_goals
        go_wp2
        go_meet
        exact ⟨_, rfl, H2, fun _ => hpk⟩
  case rest =>
    obtain ⟨b, rfl, H1, hpk⟩ := hcut
    clear H0
    cases b
    case true =>
      have hpk := hpk rfl
      have HPK := hide hpk
      have hRN := hide (rn_of HDn.out hpk HTOT.out)
      have hn1 := (pk_facts hpk).1
      rw [HDn.out] at hn1
      obtain ⟨g, rfl⟩ := mds_shape H1.out.md (by omega)
      have HFR := hide (foV_range hpk)
      have HSI := hide (fun (x : Int) => srt_in (D := D) (x := x) hpk)
      have hnm := hide (fun j (hj : j < m) => (pk_facts hpk).2.1 j (by rw [HDn.out]; exact hj))
      rw [HDn.out] at HFR HSI
      clear hpk
      go_wp2_with fail
      refine (s_firstOf D m _ c _ HDn.out HTOT.out (po_at H1.out.md.2.1).2).mono ?_
      rintro e w2 ⟨na, nc, rfl, hni, hb2⟩
      have HN2 : Hid (NxR G w2 na nc (foV D) m) := hide (nx_of hni (rd_lt H1.out.md.1.1) foV_len HFR.out)
      have H2 := hide (rw_below H1.out hb2)
      obtain ⟨L0, hL0⟩ : ∃ L0, foV D = L0 := ⟨_, rfl⟩
      rw [hL0] at HN2
      rw [hL0]
      clear hni hb2 hL0 H1 HFR
      go_wp2_with fail
      refine (d_below G a n cap zs 7 _ (by omega) (by omega) H2.out.md.1.1).mono ?_
      rintro e w3 ⟨x, hx0, hx1, rfl, hd⟩
      have HN3 := hide (nx_drew HN2.out hd)
      have H3 := hide (rw_drew H2.out hd)
      clear hd H2 HN2
      go_wp2_with fail
      go_loopw [5, 6, 7, 8] (fun v5 v6 v7 v8 wr => ∃ (sa : Option Addr) (sc : Nat) (T : List ByteArray) (na : Option Addr) (nc : Nat) (L : List Int) (k : Nat), v5 = .slice sa T.length sc ∧ v6 = .slice na L.length nc ∧ v7 = .int .i64 k ∧ T.length + k ≤ 6 ∧ Hid (RwS G a n cap zs w0 wr (some ⟨g, 0, none⟩) m c D sa sc T) ∧ Hid (NxR G wr na nc L m)) (fun _ _ v7 _ _ => (intOf v7).toNat)
      case atStart => exact ⟨some ⟨o0, 0, none⟩, 0, [], na, nc, L0, x.toNat, rfl, rfl, by congr 1; omega, by simp; omega, H3, HN3⟩
      case round =>
        clear H3 HN3
        obtain ⟨sa, sc, T, na, nc, L, k, rfl, rfl, rfl, hk, H3, HN3⟩ := hrel
        have hL40 := HN3.out.2.1
        by_cases hk0 : 0 < k
        · have hk1 : (0 : Int) < (k : Int) := by omega
          have hk2 : decide ((k : Int) > 0) = true := decide_eq_true hk1
          by_cases hl0 : 0 < L.length
          · have hl1 : (0 : Int) < (L.length : Int) := by omega
            go_wp2_with fail
            refine (d_belowM G a n cap zs (L.length : Int) _ (by omega) (by omega) H3.out.md.1.1).mono ?_
            rintro e w4 ⟨y, hy0, hy1, rfl, hd⟩
            have HN4 := hide (nx_drew HN3.out hd)
            have H4 := hide (rw_drew H3.out hd)
            clear hd H3 HN3
            have hyl : y.toNat < L.length := by omega
            obtain ⟨z, hz⟩ : ∃ z, L[y.toNat]?.getD 0 = z := ⟨_, rfl⟩
            have hzr : 0 ≤ z ∧ z < (m : Int) := HN4.out.2.2 z (by
              rw [← hz, List.getElem?_eq_getElem hyl]
              exact List.getElem_mem hyl)
            obtain ⟨b9, off9, hna, hb9, hc9⟩ := own_rowAt9 HN4.out.1 (fun e => by rw [e] at hl0; simp at hl0)
            subst hna
            have hcz := hc9 y.toNat hyl
            rw [hz] at hcz
            obtain ⟨q, rfl⟩ : ∃ q : Nat, z = q := ⟨z.toNat, by omega⟩
            have hqm : q < m := by omega
            have HRW := hide (po_at H4.out.md.2.1).2
            obtain ⟨g', off', hgo, hgs, hrow⟩ := HRW.out (by rw [HDn.out]; omega)
            simp only [Option.some.injEq, Addr.mk.injEq] at hgo
            obtain ⟨rfl, rfl, -⟩ := hgo
            obtain ⟨kad, kcp, ⟨c0, c1, c2, c3⟩, -⟩ := hrow q (by rw [HDn.out]; exact hqm)
            rw [Nat.zero_add] at c0 c1 c2 c3
            have hnsz : (D.NM q).size ≤ 20000 := by
              obtain ⟨xs, h1, ⟨-, h2⟩, -⟩ := H4.out.md.2.1
              obtain ⟨_, _, -, -, -, h5, -⟩ := h2 q hqm
              exact h5
            have hGw := rd_lt H4.out.md.1.1
            clear hc9 hz
            go_upto_if 43 with fail
            go_cut [5] (fun v5 wx => ∃ (sa' : Option Addr) (sc' : Nat) (s' : ByteArray), v5 = .slice sa' (T.length + 1) sc' ∧ Hid (RwS G a n cap zs w0 wx (some ⟨g, 0, none⟩) m c D sa' sc' (T ++ [s'])))
            case first =>
              cases hKb : (D.K q == 4)
              case false =>
                  go_wp2_with (at_builtin; refine wpList_append_lies _ (by rfl) (.tmp 49) (.tmp 55) 25 (by rfl) (G + 1) 9 i0 _ 1 16 Tryd.underlying25 hi0 hz0 hz1 hz2 rfl (by omega) (.slice sa T.length sc) T.length (T.map Value.string) (by rfl) (H4.out.tx.alloc _) ⟨w4.heap.size, 0, none⟩ 1 1 [.string (D.NM q)] (by rfl) (by rfl) (World.news_of_block (cs := #[.string (D.NM q)]) (t := 9) (fr := (0, 0)) (heap_alloc_new w4 _)) (by simp [Value.oneCell']) (by omega) (by unfold maxLen; omega) (by omega) (by simp; omega) (w4.heap.size + 1) (by simp) ?_; intro gg c9 w5 hown5 hgrow5 hat5 hlt5; have H5 := hide (rw_app H4.out hnsz hown5 hgrow5); clear hown5 hgrow5 hat5)
                  go_meet
                  exact ⟨some ⟨gg, 0, none⟩, c9, D.NM q, rfl, H5⟩
              case true =>
                  clear c0 c1 c2 c3 hcz
                  go_wp2_with fail
                  refine (d_name G a n cap zs _ H4.out.md.1.1).mono ?_
                  rintro e w5 ⟨s5, hs51, hs52, rfl, hd⟩
                  have H5 := hide (rw_drew H4.out hd)
                  have hG5 := rd_lt H5.out.md.1.1
                  clear hd
                  go_wp2_with (at_builtin; refine wpList_append_lies _ (by rfl) (.tmp 44) (.tmp 47) 25 (by rfl) (G + 1) 9 i0 _ 1 16 Tryd.underlying25 hi0 hz0 hz1 hz2 rfl (by omega) (.slice sa T.length sc) T.length (T.map Value.string) (by rfl) (H5.out.tx.alloc _) ⟨w5.heap.size, 0, none⟩ 1 1 [.string s5] (by rfl) (by rfl) (World.news_of_block (cs := #[.string s5]) (t := 9) (fr := (0, 0)) (heap_alloc_new w5 _)) (by simp [Value.oneCell']) (by omega) (by unfold maxLen; omega) (by omega) (by simp; omega) (w5.heap.size + 1) (by simp) ?_; intro gg c9 w6 hown6 hgrow6 hat6 hlt6; have H6 := hide (rw_app H5.out (by omega) hown6 hgrow6); clear hown6 hgrow6 hat6)
                  go_meet
                  exact ⟨some ⟨gg, 0, none⟩, c9, s5, rfl, H6⟩
            case rest =>
              obtain ⟨sa', sc', s', rfl, H6⟩ := hcut
              clear H4 HN4 HRW hgs hrow c0 c1 c2 c3 hcz
              obtain ⟨g', off', hgo, hgs, hrow⟩ := (po_at H6.out.md.2.1).2 (by rw [HDn.out]; omega)
              simp only [Option.some.injEq, Addr.mk.injEq] at hgo
              obtain ⟨rfl, rfl, -⟩ := hgo
              have HROW := hide hrow
              clear hrow
              go_wp2_with fail
              refine (s_follow D m g 0 c q _ hRN.out hgs HROW.out).mono ?_
              rintro e w7 ⟨na7, nc7, rfl, hni, hb7⟩
              have HN7 : Hid (NxR G w7 na7 nc7 (srtL (foL D q m)) m) := hide (nx_of hni (rd_lt H6.out.md.1.1) (HSI.out q).1 (HSI.out q).2)
              have H7 := hide (rw_below H6.out hb7)
              obtain ⟨L7, hL7⟩ : ∃ L7, srtL (foL D q m) = L7 := ⟨_, rfl⟩
              rw [hL7] at HN7
              rw [hL7]
              clear hni hb7 hL7 H6 HROW
              go_wp2
              go_roundw
              case rel => exact ⟨sa', sc', T ++ [s'], na7, nc7, L7, k - 1, by simp, rfl, by go_num, by simp; omega, H7, HN7⟩
              case measure => simp [intOf]; omega
          · have hl1 : ¬ (0 : Int) < (L.length : Int) := by omega
            have hl2 : decide ((L.length : Int) > 0) = false := decide_eq_false hl1
            go_wp2
            go_ret
            exact ⟨sa, sc, T, rfl, by omega, H3.out⟩
        · have hk1 : ¬ (0 : Int) < (k : Int) := by omega
          have hk2 : decide ((k : Int) > 0) = false := decide_eq_false hk1
          go_wp2
          go_ret
          exact ⟨sa, sc, T, rfl, by omega, H3.out⟩
    case false =>
      go_wp2_with fail
      refine (d_below G a n cap zs 5 _ (by omega) (by omega) H1.out.md.1.1).mono ?_
      rintro e w3 ⟨x, hx0, hx1, rfl, hd⟩
      have H3 := hide (rw_drew H1.out hd)
      clear hd H1
      go_wp2_with fail
      go_loopw [5, 9] (fun v5 v9 wr => ∃ (sa : Option Addr) (sc : Nat) (T : List ByteArray) (k : Nat), v5 = .slice sa T.length sc ∧ v9 = .int .i64 k ∧ T.length + k ≤ 6 ∧ Hid (RwS G a n cap zs w0 wr ad m c D sa sc T)) (fun _ v9 _ => (intOf v9).toNat)
      case atStart => exact ⟨some ⟨o0, 0, none⟩, 0, [], x.toNat, rfl, by congr 1; omega, by simp; omega, H3⟩
      case round =>
        clear H3
        obtain ⟨sa, sc, T, k, rfl, rfl, hk, H3⟩ := hrel
        by_cases hk0 : 0 < k
        · have hk1 : (0 : Int) < (k : Int) := by omega
          have hG3 := rd_lt H3.out.md.1.1
          go_wp2_with fail
          refine (d_below G a n cap zs 4 _ (by omega) (by omega) (rd_alloc H3.out.md.1.1 _)).mono ?_
          rintro e w4 ⟨y, hy0, hy1, rfl, hd⟩
          obtain ⟨s9, hs9, hs91⟩ := str_cell 1 hd.2 hy0 hy1 rfl hG3 (fun k hk => by
            have hk' : k < 4 := hk
            have hx : k = 0 ∨ k = 1 ∨ k = 2 ∨ k = 3 := by omega
            rcases hx with e | e | e | e <;> subst e <;> exact ⟨_, rfl, by decide⟩)
          have H4 := hide (rw_drew (rw_below H3.out ((Below.refl _ _).alloc (Nat.le_refl _) _)) hd)
          have hG4 := rd_lt H4.out.md.1.1
          clear hd H3
          go_wp2_with (at_builtin; refine wpList_append_lies _ (by rfl) (.tmp 67) (.tmp 73) 25 (by rfl) (G + 1) 9 i0 _ 1 16 Tryd.underlying25 hi0 hz0 hz1 hz2 rfl (by omega) (.slice sa T.length sc) T.length (T.map Value.string) (by rfl) (H4.out.tx.alloc _) ⟨w4.heap.size, 0, none⟩ 1 1 [.string s9] (by rfl) (by rfl) (World.news_of_block (cs := #[.string s9]) (t := 9) (fr := (0, 0)) (heap_alloc_new w4 _)) (by simp [Value.oneCell']) (by omega) (by unfold maxLen; omega) (by omega) (by simp; omega) (w4.heap.size + 1) (by simp) ?_; intro gg c9 w5 hown5 hgrow5 hat5 hlt5; have H5 := hide (rw_app H4.out (by omega) hown5 hgrow5); clear hown5 hgrow5 hat5)
          go_roundw
          case rel => exact ⟨some ⟨gg, 0, none⟩, c9, T ++ [s9], k - 1, by simp, by go_num, by simp; omega, H5⟩
          case measure => simp [intOf]; omega
        · have hk1 : ¬ (0 : Int) < (k : Int) := by omega
          go_wp2
          go_ret
          exact ⟨sa, sc, T, rfl, by omega, H3.out⟩
end Go.Proofs.YtfohfljdgmlibaaDoor

/-
  Contracts: the drawn model, the drawn model with a row of names, as the laws draw them; whether two rows of texts are alike.
-/
namespace Go.Proofs.YtfohfljdgmlibaaDoor
open Go.RowKit Go.Joins
set_option linter.unusedVariables false
set_option linter.unusedSimpArgs false
/-- What the laws know of a drawn model. -/
def DmA (w : World) (ad : Option Addr) (m : Nat) (D : Pn) : Prop := D.n = m ∧ pnTot D ≤ 1048576 ∧ m ≤ 40 ∧ PnAt w ad D w.heap.size
theorem dm_of {G : Nat} {a : Option Addr} {n cap : Nat} {zs : List Int} {w w' : World} {ad : Option Addr} {m c : Nat} {D : Pn} (h : MdS G a n cap zs w w' ad m c D) : DmA w' ad m D := ⟨(po_at h.2.1).1, po_tot h.2.1 (by have := h.2.2; omega), h.2.2, (po_at h.2.1).2⟩
theorem dm_go {w w' : World} {ad : Option Addr} {m : Nat} {D : Pn} (h : DmA w ad m D) (hb : Below w.heap.size w w') : DmA w' ad m D := ⟨h.1, h.2.1, h.2.2.1, pnAt_up (pnAt_go h.2.2.2 hb) hb.size⟩
set_option maxHeartbeats 2000000 in
theorem d_sample (a : Option Addr) (n cap : Nat) (zs : List Int) (w : World) (hl : zs.length = n) (hz : ∀ x ∈ zs, 0 ≤ x ∧ x ≤ 255) (hn : n ≤ 1048576) (hs : SrcAt w a zs w.heap.size) :
    Calls Tryd.prog 24 #[.slice a n cap] w fun e w' => ∃ ad m c D, e = .returned (.slice ad m c) ∧ DmA w' ad m D ∧ Below w.heap.size w w' := by
  have HS := hide hs
  have HL := hide hl
  have HZ := hide hz
  clear hs hl hz
  go_enter Tryd.func24, Tryd.ntmps24
  go_wp2_with fail
  refine (d_open a n cap zs _ HL.out HZ.out hn HS.out).mono ?_
  rintro e w1 ⟨rfl, hrd, hb1⟩
  have HRD := hide hrd
  have HB1 := hide hb1
  clear hrd hb1
  go_wp2_with fail
  refine (d_model w.heap.size a n cap zs _ HRD.out).mono ?_
  rintro e w2 ⟨ad, m, c, D, rfl, hM⟩
  have HM := hide hM
  clear hM
  go_wp2
  go_ret
  exact ⟨ad, m, c, D, rfl, dm_of HM.out, HB1.out.trans HM.out.1.2⟩
set_option maxHeartbeats 2000000 in
theorem d_accepts (a : Option Addr) (n cap : Nat) (zs : List Int) (w : World) (hl : zs.length = n) (hz : ∀ x ∈ zs, 0 ≤ x ∧ x ≤ 255) (hn : n ≤ 1048576) (hs : SrcAt w a zs w.heap.size) :
    Calls Tryd.prog 8 #[.slice a n cap] w fun e w' => ∃ ad m c D sa sc T, e = .returned (.tuple #[.slice ad m c, .slice sa T.length sc]) ∧ DmA w' ad m D ∧ T.length ≤ 6 ∧ (∀ s ∈ T, s.size ≤ 20000) ∧ TxAt w' sa T w'.heap.size ∧ Below w.heap.size w w' := by
  have HS := hide hs
  have HL := hide hl
  have HZ := hide hz
  clear hs hl hz
  go_enter Tryd.func8, Tryd.ntmps8
  go_wp2_with fail
  refine (d_open a n cap zs _ HL.out HZ.out hn HS.out).mono ?_
  rintro e w1 ⟨rfl, hrd, hb1⟩
  have HRD := hide hrd
  have HB1 := hide hb1
  clear hrd hb1
  go_wp2_with fail
  refine (d_model w.heap.size a n cap zs _ HRD.out).mono ?_
  rintro e w2 ⟨ad, m, c, D, rfl, hM⟩
  have HM := hide hM
  clear hM
  go_wp2_with fail
  refine (d_row w.heap.size a n cap zs _ _ ad m c D HM.out).mono ?_
  rintro e w3 ⟨sa, sc, T, rfl, hT6, hR⟩
  have HR := hide hR
  clear hR
  go_wp2
  go_ret2
  exact ⟨ad, m, c, D, sa, sc, T, rfl, dm_of HR.out.md, hT6, HR.out.sz, tx_own HR.out.tx, HB1.out.trans HR.out.md.1.2⟩
set_option maxHeartbeats 2000000 in
theorem d_attribute (a : Option Addr) (n cap : Nat) (zs : List Int) (w : World) (hl : zs.length = n) (hz : ∀ x ∈ zs, 0 ≤ x ∧ x ≤ 255) (hn : n ≤ 1048576) (hs : SrcAt w a zs w.heap.size) :
    Calls Tryd.prog 18 #[.slice a n cap] w fun e w' => ∃ ad m c D sa sc T, e = .returned (.tuple #[.slice ad m c, .slice sa T.length sc]) ∧ DmA w' ad m D ∧ T.length ≤ 6 ∧ (∀ s ∈ T, s.size ≤ 20000) ∧ TxAt w' sa T w'.heap.size ∧ Below w.heap.size w w' := by
  have HS := hide hs
  have HL := hide hl
  have HZ := hide hz
  clear hs hl hz
  go_enter Tryd.func18, Tryd.ntmps18
  go_wp2_with fail
  refine (d_accepts a n cap zs _ HL.out HZ.out hn HS.out).mono ?_
  rintro e w1 ⟨ad, m, c, D, sa, sc, T, rfl, h1, h2, h3, h4, h5⟩
  have H1 := hide h1
  have H3 := hide h3
  have H4 := hide h4
  have H5 := hide h5
  clear h1 h3 h4 h5
  go_wp2
  go_ret2
  exact ⟨ad, m, c, D, sa, sc, T, rfl, H1.out, h2, H3.out, H4.out, H5.out⟩
set_option maxHeartbeats 1000000 in
theorem l_sameTexts (a1 a2 : Option Addr) (n c1 c2 : Nat) (L : List ByteArray) (w : World) (hL : L.length = n) (hn : n ≤ 1048576) (h1 : TxAt w a1 L w.heap.size) (h2 : TxAt w a2 L w.heap.size) :
    Calls Tryd.prog 27 #[.slice a1 n c1, .slice a2 n c2] w fun e w' => e = .returned (.bool true) ∧ Below w.heap.size w w' := by
  have HL := hide hL
  have H1 := hide h1
  have H2 := hide h2
  clear hL h1 h2
  go_enter Tryd.func27, Tryd.ntmps27
  go_wp2
  go_loopw [5] (fun i wr => ∃ k : Nat, k ≤ n ∧ i = .int .i64 k ∧ Below w.heap.size w wr) (fun i _ => n - (intOf i).toNat)
  case atStart => exact ⟨0, Nat.zero_le _, rfl, Below.refl _ _⟩
  case round =>
    obtain ⟨k, hk, rfl, hb⟩ := hrel
    by_cases hlt : k < n
    · have hlt2 : k < L.length := by rw [HL.out]; exact hlt
      have hne : L ≠ [] := fun h => by rw [h] at hlt2; exact absurd hlt2 (Nat.not_lt_zero _)
      obtain ⟨b, off, rfl, hbs, hc⟩ := H1.out hne
      obtain ⟨b', off', rfl, hbs', hc'⟩ := H2.out hne
      have k1 := (hb.cell (p := ⟨b, off + k, none⟩) hbs).trans (hc k hlt2)
      have k2 := (hb.cell (p := ⟨b', off' + k, none⟩) hbs').trans (hc' k hlt2)
      have hi : (k : Int) < (n : Int) := by omega
      have hi0 : (0 : Int) ≤ (k : Int) := by omega
      have HB := hide hb
      obtain ⟨T, hT⟩ : ∃ T, L[k]?.getD ⟨#[]⟩ = T := ⟨_, rfl⟩
      rw [hT] at k1 k2
      clear hc hc' hb hT hne
      go_wp2
      go_quiet (fail)
      go_wp2
      go_roundw
      case rel => exact ⟨k + 1, by omega, by go_num, HB.out.trans ((drewN_below9 _ _).mono HB.out.size)⟩
      case measure => simp [intOf]; omega
    · go_wp2
      go_ret
      exact ⟨rfl, hb⟩
end Go.Proofs.YtfohfljdgmlibaaDoor

/-
  Contracts of the laws' helpers: sameInts, and sameParts where the rows are alike.
-/
namespace Go.Proofs.YtfohfljdgmlibaaDoor
open Go.RowKit Go.Joins
set_option linter.unusedVariables false
set_option linter.unusedSimpArgs false
set_option linter.unusedVariables false
set_option linter.unusedSimpArgs false
set_option maxHeartbeats 1000000 in
theorem l_sameInts (a1 a2 : Option Addr) (n m c1 c2 : Nat) (xs ys : List Int) (w : World) (hx : xs.length = n) (hy : ys.length = m) (hn : n ≤ 1048576) (hm : m ≤ 1048576) (h1 : RowAt .i64 w a1 xs w.heap.size) (h2 : RowAt .i64 w a2 ys w.heap.size) :
    Calls Tryd.prog 21 #[.slice a1 n c1, .slice a2 m c2] w fun e w' => e = .returned (.bool (decide (xs = ys))) ∧ ∃ q, w' = w.drewN q := by
  have HX : Hid (xs.length = n) := hx
  have HY : Hid (ys.length = m) := hy
  have H1 : Hid (RowAt .i64 w a1 xs w.heap.size) := h1
  have H2 : Hid (RowAt .i64 w a2 ys w.heap.size) := h2
  clear hx hy h1 h2
  by_cases hnm : n = m
  · subst hnm
    go_enter Tryd.func21, Tryd.ntmps21
    go_wp2
    go_loopw [5] (fun i wr => ∃ k : Nat, k ≤ n ∧ i = .int .i64 k ∧ (∃ q, wr = w.drewN q) ∧ ∀ j, j < k → xs[j]?.getD 0 = ys[j]?.getD 0) (fun i _ => n - (intOf i).toNat)
    case atStart => exact ⟨0, Nat.zero_le _, rfl, ⟨0, rfl⟩, fun j h => by omega⟩
    case round =>
      obtain ⟨k, hk, rfl, ⟨q, rfl⟩, hsame⟩ := hrel
      have HS := hide hsame
      clear hsame
      by_cases hlt : k < n
      · obtain ⟨b, off, rfl, hbs, hc⟩ := rowAt_cell H1.out k (by rw [HX.out]; exact hlt)
        obtain ⟨b', off', rfl, hbs', hc'⟩ := rowAt_cell H2.out k (by rw [HY.out]; exact hlt)
        have hc1 := hc k (by rw [HX.out]; exact hlt)
        have hc2 := hc' k (by rw [HY.out]; exact hlt)
        have hi : (k : Int) < (n : Int) := by omega
        have hi0 : (0 : Int) ≤ (k : Int) := by omega
        clear hc hc'
        cases hb : (xs[k]?.getD 0 != ys[k]?.getD 0)
        · go_wp2
          go_quiet (fail)
          go_wp2
          go_roundw
          case rel =>
            refine ⟨k + 1, by omega, by go_num, ⟨q + nq, by simp⟩, fun j hj => ?_⟩
            by_cases e : j = k
            · subst e; simpa using hb
            · exact HS.out j (by omega)
          case measure => simp [intOf]; omega
        · go_wp2
          go_quiet (fail)
          go_wp2
          go_ret
          exact ⟨ret_bool (eqB_f _ _ (fun e => by rw [e] at hb; simp at hb)), q + nq, by simp⟩
      · go_wp2
        go_ret
        exact ⟨ret_bool (eqB_t _ _ (get_ext xs ys (by rw [HX.out, HY.out]) (fun j hj => HS.out j (by have := HX.out; omega)))), _, rfl⟩
  · have hne : ((n : Int) != (m : Int)) = true := by simp; omega
    go_enter Tryd.func21, Tryd.ntmps21
    go_wp2
    go_ret
    exact ⟨ret_bool (eqB_f _ _ (fun e => by have := HX.out; have := HY.out; subst e; omega)), 0, rfl⟩

theorem l_sameYes (a1 a2 : Option Addr) (n c1 c2 : Nat) (xs : List Int) (w : World) (hx : xs.length = n) (hn : n ≤ 1048576) (h1 : RowAt .i64 w a1 xs w.heap.size) (h2 : RowAt .i64 w a2 xs w.heap.size) :
    Calls Tryd.prog 21 #[.slice a1 n c1, .slice a2 n c2] w fun e w' => e = .returned (.bool true) ∧ Below w.heap.size w w' := by
  refine (l_sameInts a1 a2 n n c1 c2 xs xs w hx hx hn hn h1 h2).mono ?_
  rintro e w' ⟨rfl, q, rfl⟩
  exact ⟨by rw [decide_eq_true rfl], drewN_below9 _ _⟩
set_option maxRecDepth 100000 in
set_option maxHeartbeats 4000000 in
theorem l_sameParts (D : Pn) (n : Nat) (a1 a2 : Option Addr) (c1 c2 : Nat) (w : World) (hX : D.n = n) (hn : n ≤ 1048576) (hnr : ∀ j, j < n → (D.KL j).length ≤ 1048576) (h1 : PnAt w a1 D w.heap.size) (h2 : PnAt w a2 D w.heap.size) :
    Calls Tryd.prog 30 #[.slice a1 n c1, .slice a2 n c2] w fun e w' => e = .returned (.bool true) ∧ Below w.heap.size w w' := by
  have HX := hide hX
  have HNR := hide hnr
  have H1 := hide h1
  have H2 := hide h2
  clear h1 h2 hnr hX
  go_enter Tryd.func30, Tryd.ntmps30
  go_wp2
  go_loopw [5] (fun i wr => ∃ k : Nat, k ≤ n ∧ i = .int .i64 k ∧ Below w.heap.size w wr) (fun i _ => n - (intOf i).toNat)
  case atStart => exact ⟨0, Nat.zero_le _, rfl, Below.refl _ _⟩
  case round =>
    obtain ⟨k, hk, rfl, hb⟩ := hrel
    by_cases hlt : k < n
    · obtain ⟨b, off, rfl, hbs, hc⟩ := H1.out (by rw [HX.out]; omega)
      obtain ⟨b', off', rfl, hbs', hc'⟩ := H2.out (by rw [HX.out]; omega)
      obtain ⟨ad, cp, hk1, hr1, -⟩ := hc k (by rw [HX.out]; omega)
      obtain ⟨ad', cp', hk2, hr2, -⟩ := hc' k (by rw [HX.out]; omega)
      have hnk := HNR.out k hlt
      have XX : Hid (EQP w wr b (off + k * 4) b' (off' + k * 4) D k ad cp ad' cp') := ⟨hb, ⟨hbs, hbs'⟩, pnCells_go hk1 hbs hb, pnCells_go hk2 hbs' hb, rwAt_go hr1 hb, rwAt_go hr2 hb⟩
      have hi : (k : Int) < (n : Int) := by omega
      have hi0 : (0 : Int) ≤ (k : Int) := by omega
      clear hc hc' hb hk1 hk2 hr1 hr2
      go_wp2
      go_region_held3 (fun w' => EQP w w' b (off + k * 4) b' (off' + k * 4) D k ad cp ad' cp' ∧ (w'.cell? ⟨b, off + k * 4, none⟩ = some (.int .i64 (D.K k)) ∧ w'.cell? ⟨b, off + k * 4 + 1, none⟩ = some (.string (D.NM k)) ∧ w'.cell? ⟨b, off + k * 4 + 2, none⟩ = some (.slice ad (D.KL k).length cp) ∧ w'.cell? ⟨b, off + k * 4 + 3, none⟩ = some (.int .i64 (D.OC k))) ∧ w'.cell? ⟨b', off' + k * 4, none⟩ = some (.int .i64 (D.K k)) ∧ w'.cell? ⟨b', off' + k * 4 + 1, none⟩ = some (.string (D.NM k)) ∧ w'.cell? ⟨b', off' + k * 4 + 2, none⟩ = some (.slice ad' (D.KL k).length cp') ∧ w'.cell? ⟨b', off' + k * 4 + 3, none⟩ = some (.int .i64 (D.OC k))) (first | assumption | exact eqp_all (eqp_drew XX.out) | exact eqp_all XX.out) (first | (go_at_call 21; refine (l_sameYes _ _ _ _ _ (D.KL k) _ rfl hnk (eqp_r1 (And.left (by assumption))) (eqp_r2 (And.left (by assumption)))).mono ?_; rintro e w2 ⟨rfl, hb2⟩; have X2 := hide (eqp_go (eqp_drew XX.out) hb2); replace XX := X2; clear X2 hb2))
      all_goals
        go_wp2
        go_roundw
        case rel => exact ⟨k + 1, by omega, by go_num, XX.out.1⟩
        case measure => simp [intOf]; omega
    · go_wp2
      go_ret
      exact ⟨rfl, hb⟩
end Go.Proofs.YtfohfljdgmlibaaDoor
