/-
  Texts put together: KyD4, DocAt3, DocPa.
-/
import Derived.Test.YtdepgkpfibmbgaaGreatDoorE20
import Derived.Test.YtdepgkpfibmbgaaGreatDoorE3
import Derived.Test.YtdepgkpfibmbgaaGreatDoorE15
import Derived.Test.YtdepgkpfibmbgaaGreatDoorE18
/-
  Contract of the draw of FnTables: a flat document, a place and a key.
-/
namespace Go.Proofs.YtdepgkpfibmbgaaGreatDoor
open Go.RowKit Go.Joins
set_option linter.unusedVariables false
set_option linter.unusedSimpArgs false
/-- What DrawTableOf answers. -/
def DtAns (w : World) (e : Ending) (w' : World) : Prop := ∃ ad m c D x kad cp, ∃ k : Ky, e = .returned (.tuple #[.slice ad m c, .int .i64 x, .agg #[.string k.nm, .int .i64 k.kd, .string k.on, .string k.pa, .slice kad k.fl.length cp, .string k.re]]) ∧ D.n = m ∧ (1 ≤ m ∧ m ≤ 15) ∧ dcTot D ≤ 1048576 ∧ DcAt w' ad D w'.heap.size ∧ KOk k.nm k.kd k.on k.pa k.re ∧ k.fl.length ≤ 2 ∧ k.fl.length ≤ cp ∧ (∀ t ∈ k.fl, t.size ≤ 8) ∧ TxAt w' kad k.fl w'.heap.size ∧ Below w.heap.size w w'
theorem own_capK {w : World} {B m c : Nat} {e : TypeId} {ad : Option Addr} {xs : List Value} (h : w.ownsRow B e 1 (.slice ad m c) m xs) : m ≤ c := by
  rcases h.2 with ⟨e1, h0⟩ | ⟨g, cap, cur, hv, -, -, h1, -⟩
  · simp only [Value.slice.injEq] at e1; omega
  · simp only [Value.slice.injEq] at hv; omega
theorem tx_setR {w : World} {a : Option Addr} {L : List ByteArray} {B : Nat} (h : TxAt w a L B) {q : Nat} (i : Nat) (v : Value) (hne : ∀ b off, a = some ⟨b, off, none⟩ → L ≠ [] → b ≠ q) : TxAt (w.setCell ⟨q, i, none⟩ v) a L B := fun h0 => by
  obtain ⟨b, off, e, hb, hc⟩ := h h0
  refine ⟨b, off, e, hb, fun j hj => ?_⟩
  rw [World.cell?_setCell_far _ _ _ _ (by show q ≠ b; exact fun e2 => hne b off e h0 e2.symm)]
  exact hc j hj
theorem src_belowT {w w' : World} {a : Option Addr} {zs : List Int} (h : SrcAt w a zs w.heap.size) (hb : Below w.heap.size w w') : SrcAt w' a zs w'.heap.size := by
  intro hne
  obtain ⟨b, off, rfl, hb2, hc⟩ := h hne
  exact ⟨b, off, rfl, Nat.lt_of_lt_of_le hb2 hb.size, fun j hj => (hb.cell (p := ⟨b, off + j, none⟩) hb2).trans (hc j hj)⟩
set_option maxRecDepth 100000 in
set_option maxHeartbeats 8000000 in
theorem d_tab (a : Option Addr) (n cap : Nat) (zs : List Int) (w : World) (hl : zs.length = n) (hz : ∀ x ∈ zs, 0 ≤ x ∧ x ≤ 255) (hn : n ≤ 1048576) (hs : SrcAt w a zs w.heap.size) :
    Calls Tryz.prog 6 #[.slice a n cap] w (DtAns w) := by
  have HS := hide hs
  have HL := hide hl
  have HZ := hide hz
  clear hs hl hz
  go_enter Tryz.func6, Tryz.ntmps6
  go_wp2_with fail
  have sx := (Below.refl w.heap.size w).alloc (Nat.le_refl _) (.cells #[.string ⟨#[]⟩, .int .i64 0, .string ⟨#[]⟩, .string ⟨#[]⟩, .slice none 0 0, .string ⟨#[]⟩] 27)
  have HC0 := hide (heap_alloc_new w (.cells #[.string ⟨#[]⟩, .int .i64 0, .string ⟨#[]⟩, .string ⟨#[]⟩, .slice none 0 0, .string ⟨#[]⟩] 27))
  have HS0 := hide (src_belowT HS.out sx)
  have HB0 := hide sx
  have hw0 : (w.alloc (.cells #[.string ⟨#[]⟩, .int .i64 0, .string ⟨#[]⟩, .string ⟨#[]⟩, .slice none 0 0, .string ⟨#[]⟩] 27)).heap.size = w.heap.size + 1 := by simp
  obtain ⟨W0, hW0⟩ : ∃ W, w.alloc (.cells #[.string ⟨#[]⟩, .int .i64 0, .string ⟨#[]⟩, .string ⟨#[]⟩, .slice none 0 0, .string ⟨#[]⟩] 27) = W := ⟨_, rfl⟩
  rw [hW0] at HC0 HS0 HB0 hw0 ⊢
  have HW0 := hide hw0
  clear hW0 sx hw0
  refine (d_open a n cap zs W0 HL.out HZ.out hn HS0.out).mono ?_
  rintro e w1 ⟨rfl, hrd, hb1⟩
  have HRD := hide hrd
  have HB1 := hide hb1
  clear hrd hb1
  go_wp2_with fail
  refine (d_flat W0.heap.size a n cap zs _ HRD.out).mono ?_
  rintro e w2 ⟨ad, m, c, D, rfl, hg, hm1, hm2⟩
  have HGS := hide hg
  clear hg
  go_wp2_with fail
  refine (d_once W0.heap.size a n cap zs 3 _ (by omega) (by omega) HGS.out.1).mono ?_
  rintro e w3 ⟨o, rfl, hd⟩
  replace HGS := hide (gs_drew HGS.out hd)
  clear hd
  cases o
  · go_upto_region 6 with fail
    go_wp2_with fail
    refine (d_key W0.heap.size a n cap zs 0 _ (by omega) (by omega) HGS.out.1).mono ?_
    rintro e w5 ⟨nm, kd, on, pa, kad, fl, cp, re, rfl, hok, hf2, hf8, hown, hd⟩
    have hGl := gs_size HGS.out
    have hw0 := HW0.out
    replace HGS := hide (gs_drew HGS.out hd)
    have hh5 : w5.heap[w.heap.size]? = some (.cells #[.string ⟨#[]⟩, .int .i64 0, .string ⟨#[]⟩, .string ⟨#[]⟩, .slice none 0 0, .string ⟨#[]⟩] 27 (0, 0)) := (HGS.out.2.2.1.block w.heap.size (by omega)).trans ((HB1.out.block w.heap.size (by omega)).trans HC0.out)
    obtain ⟨⟨c0, c1, c2, c3, c4, c5⟩, f0, f1, f2, f3, f4, f5⟩ := key_cells hh5
    have hT := key_sets (x0 := .string nm) (x1 := .int .i64 kd) (x2 := .string on) (x3 := .string pa) (x4 := .slice kad fl.length cp) (x5 := .string re) hh5
    have hgr : w5.grownBy ((((((w5.setCell ⟨w.heap.size, 0, none⟩ (.string nm)).setCell ⟨w.heap.size, 1, none⟩ (.int .i64 kd)).setCell ⟨w.heap.size, 2, none⟩ (.string on)).setCell ⟨w.heap.size, 3, none⟩ (.string pa)).setCell ⟨w.heap.size, 4, none⟩ (.slice kad fl.length cp)).setCell ⟨w.heap.size, 5, none⟩ (.string re)) (some w.heap.size) := grown_sets _ _ _ _ _ _
    have HTX := hide (tx_own (own_low hown hgr (by omega)))
    have HIT := hide (drIt_kept HGS.out.2.1 hgr (fun k hk e => by cases hk; have h9 := drIt_lt HGS.out.2.1 _ e; omega) (keepA_step (keepA_refl w5) hgr (fun k hk => by cases hk; exact .inr ⟨_, _, _, hh5, by decide⟩)))
    have HBF : Hid (Below w.heap.size w ((((((w5.setCell ⟨w.heap.size, 0, none⟩ (.string nm)).setCell ⟨w.heap.size, 1, none⟩ (.int .i64 kd)).setCell ⟨w.heap.size, 2, none⟩ (.string on)).setCell ⟨w.heap.size, 3, none⟩ (.string pa)).setCell ⟨w.heap.size, 4, none⟩ (.slice kad fl.length cp)).setCell ⟨w.heap.size, 5, none⟩ (.string re))) := hide ((HB0.out.trans ((HB1.out.trans HGS.out.2.2.1).mono HB0.out.size)).grown hgr (by have h8 := HB0.out.size; have h9 := HB1.out.size; have h7 := HGS.out.2.2.1.size; omega) (fun k hk => by cases hk; exact Nat.le_refl _))
    have HOK := hide hok
    have HF2 := hide hf2
    have HF8 := hide hf8
    have HCP := hide (own_capK hown)
    have hHT := hide hT
    clear hown hd hok hf2 hf8 hT hh5 hgr hw0
    go_wp2
    obtain ⟨⟨y0, y1, y2, y3, y4, y5⟩, -⟩ := key_cells hHT.out
    refine bodyPost_ret (v := .tuple #[.slice ad m c, .int .i64 0, .agg #[.string nm, .int .i64 kd, .string on, .string pa, .slice kad fl.length cp, .string re]]) (by simp [results, Tryz.results6, go_sem, y0, y1, y2, y3, y4, y5]) rfl ⟨ad, m, c, D, 0, kad, cp, ⟨nm, kd, on, pa, fl, re⟩, rfl, (drIt_dc HIT.out).1, ⟨hm1, hm2⟩, drIt_tot HIT.out (by omega), (drIt_dc HIT.out).2, HOK.out, HF2.out, HCP.out, HF8.out, HTX.out, HBF.out⟩
  · go_wp2_with fail
    refine (d_offG W0.heap.size a n cap zs 0 ((m : Int) - 1) _ (by omega) (by omega) (by omega) HGS.out.1).mono ?_
    rintro e w4 ⟨x, rfl, hd⟩
    replace HGS := hide (gs_drew HGS.out hd)
    clear hd
    go_wp2_with fail
    refine (d_key W0.heap.size a n cap zs 0 _ (by omega) (by omega) HGS.out.1).mono ?_
    rintro e w5 ⟨nm, kd, on, pa, kad, fl, cp, re, rfl, hok, hf2, hf8, hown, hd⟩
    have hGl := gs_size HGS.out
    have hw0 := HW0.out
    replace HGS := hide (gs_drew HGS.out hd)
    have hh5 : w5.heap[w.heap.size]? = some (.cells #[.string ⟨#[]⟩, .int .i64 0, .string ⟨#[]⟩, .string ⟨#[]⟩, .slice none 0 0, .string ⟨#[]⟩] 27 (0, 0)) := (HGS.out.2.2.1.block w.heap.size (by omega)).trans ((HB1.out.block w.heap.size (by omega)).trans HC0.out)
    obtain ⟨⟨c0, c1, c2, c3, c4, c5⟩, f0, f1, f2, f3, f4, f5⟩ := key_cells hh5
    have hT := key_sets (x0 := .string nm) (x1 := .int .i64 kd) (x2 := .string on) (x3 := .string pa) (x4 := .slice kad fl.length cp) (x5 := .string re) hh5
    have hgr : w5.grownBy ((((((w5.setCell ⟨w.heap.size, 0, none⟩ (.string nm)).setCell ⟨w.heap.size, 1, none⟩ (.int .i64 kd)).setCell ⟨w.heap.size, 2, none⟩ (.string on)).setCell ⟨w.heap.size, 3, none⟩ (.string pa)).setCell ⟨w.heap.size, 4, none⟩ (.slice kad fl.length cp)).setCell ⟨w.heap.size, 5, none⟩ (.string re)) (some w.heap.size) := grown_sets _ _ _ _ _ _
    have HTX := hide (tx_own (own_low hown hgr (by omega)))
    have HIT := hide (drIt_kept HGS.out.2.1 hgr (fun k hk e => by cases hk; have h9 := drIt_lt HGS.out.2.1 _ e; omega) (keepA_step (keepA_refl w5) hgr (fun k hk => by cases hk; exact .inr ⟨_, _, _, hh5, by decide⟩)))
    have HBF : Hid (Below w.heap.size w ((((((w5.setCell ⟨w.heap.size, 0, none⟩ (.string nm)).setCell ⟨w.heap.size, 1, none⟩ (.int .i64 kd)).setCell ⟨w.heap.size, 2, none⟩ (.string on)).setCell ⟨w.heap.size, 3, none⟩ (.string pa)).setCell ⟨w.heap.size, 4, none⟩ (.slice kad fl.length cp)).setCell ⟨w.heap.size, 5, none⟩ (.string re))) := hide ((HB0.out.trans ((HB1.out.trans HGS.out.2.2.1).mono HB0.out.size)).grown hgr (by have h8 := HB0.out.size; have h9 := HB1.out.size; have h7 := HGS.out.2.2.1.size; omega) (fun k hk => by cases hk; exact Nat.le_refl _))
    have HOK := hide hok
    have HF2 := hide hf2
    have HF8 := hide hf8
    have HCP := hide (own_capK hown)
    have hHT := hide hT
    clear hown hd hok hf2 hf8 hT hh5 hgr hw0
    go_wp2
    obtain ⟨⟨y0, y1, y2, y3, y4, y5⟩, -⟩ := key_cells hHT.out
    refine bodyPost_ret (v := .tuple #[.slice ad m c, .int .i64 x, .agg #[.string nm, .int .i64 kd, .string on, .string pa, .slice kad fl.length cp, .string re]]) (by simp [results, Tryz.results6, go_sem, y0, y1, y2, y3, y4, y5]) rfl ⟨ad, m, c, D, x, kad, cp, ⟨nm, kd, on, pa, fl, re⟩, rfl, (drIt_dc HIT.out).1, ⟨hm1, hm2⟩, drIt_tot HIT.out (by omega), (drIt_dc HIT.out).2, HOK.out, HF2.out, HCP.out, HF8.out, HTX.out, HBF.out⟩
end Go.Proofs.YtdepgkpfibmbgaaGreatDoor

/-
  Contract: rows of attributes, by the program.
-/
namespace Go.Proofs.YtdepgkpfibmbgaaGreatDoor
open Go.RowKit Go.Joins
set_option linter.unusedVariables false
set_option linter.unusedSimpArgs false
/-- An attribute lies in block G; all that was there is as it was. -/
def AS (w w' : World) (G : Nat) (x y : ByteArray) : Prop := (∃ T, w'.heap[G]? = some (.cells #[.string x, .string y] T (0, 0))) ∧ Below w.heap.size w w'
section
variable {w w1 w2 : World} {G : Nat} {x y : ByteArray}
theorem as_go (h : AS w w1 G x y) (k : Below w1.heap.size w1 w2) : AS w w2 G x y := by
  obtain ⟨⟨T, h1⟩, h2⟩ := h
  exact ⟨⟨T, (k.block G (Array.getElem?_eq_some_iff.1 h1).1).trans h1⟩, h2.trans (k.mono h2.size)⟩
theorem as_drew (h : AS w w1 G x y) : AS w w1.drew G x y := as_go h ⟨rfl, rfl, rfl, Nat.le_refl _, fun _ _ => rfl⟩
theorem as_all (h : AS w w1 G x y) : AS w w1 G x y ∧ w1.cell? ⟨G, 0, none⟩ = some (.string x) ∧ w1.cell? ⟨G, 1, none⟩ = some (.string y) := by
  have h' := h
  obtain ⟨⟨T, h1⟩, -⟩ := h
  have e : ∀ i, w1.cell? ⟨G, i, none⟩ = #[Value.string x, .string y][i]? := fun i => by rw [cell_of_row w1 G i _ T (0, 0) h1]
  exact ⟨h', e 0, e 1⟩
theorem as_below (h : AS w w1 G x y) : Below w.heap.size w w1 := h.2
theorem as_new (hb : Below w.heap.size w w1) (T : TypeId) : AS w (w1.alloc (.cells #[.string x, .string y] T)) w1.heap.size x y := ⟨⟨T, heap_alloc_new w1 _⟩, hb.alloc hb.size _⟩
theorem as_at {a : Option Addr} {n k : Nat} {N V : Nat → ByteArray} (h : AS w w1 G x y) (hr : AtAt w a n N V w.heap.size) (hk : k ≤ n) : AtAt w1 a k N V w1.heap.size := fun h0 => by
  obtain ⟨b, off, e, hb, hc⟩ := atAt_up (atAt_go hr h.2) h.2.size (by omega)
  exact ⟨b, off, e, hb, fun j hj => hc j (by omega)⟩
end
/-- What each operation leaves, where a name stands twice. -/
def valA (G b off n c k : Nat) (x : ByteArray) : Nat → Value
  | 0 => .pointer (some ⟨G, 0, none⟩)
  | 1 => .string x
  | 2 => .bool true
  | 3 => .bool false
  | 4 => .bool false
  | 5 => .slice (some ⟨b, off, none⟩) n c
  | 6 => .int .i64 (k : Int)
  | 7 => .slice (some ⟨b, off, none⟩) k c
  | 8 => .pointer (some ⟨G, 0, none⟩)
  | 9 => .string x
  | 10 => .bool true
  | 11 => .bool true
  | 12 => .bool true
  | 17 => .bool true
  | _ => undef
theorem i_qualF (s : ByteArray) (w : World) (hs : s.size ≤ 1048576) (h : qualB s = false) : Calls Tryz.prog 103 #[.string s] w fun e w' => e = .returned (.bool false) ∧ ∃ q, w' = w.drewN q := by
  have := i_qual s w hs
  rw [h] at this
  exact this
theorem i_qualT (s : ByteArray) (w : World) (hs : s.size ≤ 1048576) (h : qualB s = true) : Calls Tryz.prog 103 #[.string s] w fun e w' => e = .returned (.bool true) ∧ ∃ q, w' = w.drewN q := by
  have := i_qual s w hs
  rw [h] at this
  exact this
set_option maxRecDepth 100000 in
set_option maxHeartbeats 4000000 in
theorem i_attrs (a : Option Addr) (n c : Nat) (N V : Nat → ByteArray) (w : World) (hn : n ≤ 1048576) (hcap : n ≤ c) (hs : ∀ j, j < n → (N j).size ≤ 1048576 ∧ (V j).size ≤ 1048576) (hr : AtAt w a n N V w.heap.size) (hT : Tabs w) :
    Calls Tryz.prog 104 #[.slice a n c] w fun e w' => e = .returned (.bool (attrsB n N V)) ∧ Below w.heap.size w w' := by
  have HS := hide hs
  have HR := hide hr
  have HT := hide hT
  clear hr hs hT
  by_cases h10 : n ≤ 10
  · have h10' : (n : Int) ≤ 10 := by omega
    go_enter Tryz.func104, Tryz.ntmps104
    go_wp2
    go_loopw [10] (fun i wr => ∃ k : Nat, k ≤ n ∧ i = .int .i64 k ∧ Below w.heap.size w wr ∧ Hid (∀ j, j < k → atB N V j = true)) (fun i _ => n - (intOf i).toNat)
    case atStart => exact ⟨0, Nat.zero_le _, rfl, Below.refl _ _, fun j h => by omega⟩
    case round =>
      obtain ⟨k, hk, rfl, hb, HM⟩ := hrel
      by_cases hlt : k < n
      · obtain ⟨b, off, rfl, hbs, hc⟩ := HR.out (by omega)
        have c0 : wr.cell? ⟨b, off + k * 2, none⟩ = some (.string (N k)) := (hb.cell hbs).trans (hc k hlt).1
        have c1 : wr.cell? ⟨b, off + k * 2 + 1, none⟩ = some (.string (V k)) := (hb.cell hbs).trans (hc k hlt).2
        obtain ⟨s0, s1⟩ := HS.out k hlt
        have HS0 := hide s0
        have HS1 := hide s1
        have HA0 := hide (fun T => as_new (x := N k) (y := V k) hb T)
        have hi : (k : Int) < (n : Int) := by omega
        have hkc : (k : Int) ≤ (c : Int) := by omega
        have hk0 : (0 : Int) ≤ (k : Int) := by omega
        clear hc hb s0 s1
        cases hq : qualB (N k)
        · have hv := hide (attrsB_no (N := N) (V := V) hlt (by unfold atB; rw [hq]; rfl))
          go_wp2
          go_big_quiet (first | (go_at_call 103; refine Calls.quiet_of (i_qualF _ _ HS0.out hq)))
          all_goals
            go_wp2
            go_ret
            exact ⟨ret_bool hv.out.symm, as_below (as_go (HA0.out _) (drewN_below _ _))⟩
        · cases ha : anyS k N (N k)
          · cases hp : plainB (V k)
            · have hv := hide (attrsB_no (N := N) (V := V) hlt (by unfold atB; rw [hq, hp]; rfl))
              go_wp2
              go_region_held3 (fun w' => AS w w' wr.heap.size (N k) (V k) ∧ w'.cell? ⟨wr.heap.size, 0, none⟩ = some (.string (N k)) ∧ w'.cell? ⟨wr.heap.size, 1, none⟩ = some (.string (V k))) (first | assumption | exact as_all (as_go (HA0.out _) (drewN_below _ _)) | exact as_all HTB.out | exact as_all HTC.out | exact as_all (as_drew (HA0.out _)) | exact as_all (HA0.out _)) (first | (go_at_call 103; refine (i_qual _ _ HS0.out).mono ?_; rintro e w2 ⟨rfl, q, rfl⟩; rw [hq]) | (go_at_call 140; refine (i_has _ _ _ N V _ _ (by omega) (as_at (And.left (by assumption)) HR.out (by omega))).mono ?_; rintro e w3 ⟨rfl, hb3⟩; rw [ha]; have HTB := hide (as_go (And.left (by assumption)) hb3); clear hb3) | (go_at_call 102; refine (i_plain _ _ HS1.out (tabs_below HT.out (as_below (And.left (by assumption))))).mono ?_; rintro e w4 ⟨rfl, hb4⟩; rw [hp]; have HTC := hide (as_go (And.left (by assumption)) hb4); clear hb4))
              all_goals
                go_wp2
                go_ret
                exact ⟨ret_bool hv.out.symm, as_below (And.left (by assumption))⟩
            · have hv : atB N V k = true := by unfold atB; rw [hq, hp, ha]; rfl
              go_wp2
              go_region_held3 (fun w' => AS w w' wr.heap.size (N k) (V k) ∧ w'.cell? ⟨wr.heap.size, 0, none⟩ = some (.string (N k)) ∧ w'.cell? ⟨wr.heap.size, 1, none⟩ = some (.string (V k))) (first | assumption | exact as_all (as_go (HA0.out _) (drewN_below _ _)) | exact as_all HTB.out | exact as_all HTC.out | exact as_all (as_drew (HA0.out _)) | exact as_all (HA0.out _)) (first | (go_at_call 103; refine (i_qual _ _ HS0.out).mono ?_; rintro e w2 ⟨rfl, q, rfl⟩; rw [hq]) | (go_at_call 140; refine (i_has _ _ _ N V _ _ (by omega) (as_at (And.left (by assumption)) HR.out (by omega))).mono ?_; rintro e w3 ⟨rfl, hb3⟩; rw [ha]; have HTB := hide (as_go (And.left (by assumption)) hb3); clear hb3) | (go_at_call 102; refine (i_plain _ _ HS1.out (tabs_below HT.out (as_below (And.left (by assumption))))).mono ?_; rintro e w4 ⟨rfl, hb4⟩; rw [hp]; have HTC := hide (as_go (And.left (by assumption)) hb4); clear hb4))
              all_goals
                go_wp2
                go_roundw
                case rel =>
                  refine ⟨k + 1, by omega, by go_num, as_below (And.left (by assumption)), fun j hj => ?_⟩
                  by_cases e : j = k
                  · subst e; exact hv
                  · exact HM.out j (by omega)
                case measure => simp [intOf]; omega
          · have hv := hide (attrsB_no (N := N) (V := V) hlt (by unfold atB; rw [hq, ha]; simp))
            go_wp2
            refine wp_region_inv (by kernel_rfl) (by kernel_rfl) (fun u => { tmps := #[.slice (some ⟨b, off, none⟩) n c, undef, u2, .int .i64 (k : Int), .pointer (some ⟨wr.heap.size, 0, none⟩), .slice (some ⟨b, off, none⟩) n c, .int .i64 (n : Int), .bool (decide ((10 : Int) < (n : Int))), .slice (some ⟨b, off, none⟩) n c, .int .i64 (n : Int), .int .i64 (k : Int), .bool true, .int .i64 (k : Int), .pointer (some ⟨b, off + k * 2, none⟩), .agg #[.string (N k), .string (V k)], u 15, u 16, u 17, u 18, u 19, u 20, u 21, u 22, u 23, u 24, u 25, u 26, u 27, u 28, u 29, u 30, u 31, u 32, u33], defers := [] }) (fun i => i + 15) (fun i x _ => x = valA wr.heap.size b off n c k (N k) i) (fun w' => AS w w' wr.heap.size (N k) (V k)) (fun i => #[u15, u16, u17, u18, u19, u20, u21, u22, u23, u24, u25, u26, u27, u28, u29, u30, u31, u32].getD (i - 15) undef) (as_drew (HA0.out _)) ?hput ?hD ?step ?done
            case hput =>
              intro i o ho u v
              have hi := (Array.getElem?_eq_some_iff.1 ho).1
              have hi' : i < 18 := hi
              clear hi
              rcases (show i = 0 ∨ i = 1 ∨ i = 2 ∨ i = 3 ∨ i = 4 ∨ i = 5 ∨ i = 6 ∨ i = 7 ∨ i = 8 ∨ i = 9 ∨ i = 10 ∨ i = 11 ∨ i = 12 ∨ i = 13 ∨ i = 14 ∨ i = 15 ∨ i = 16 ∨ i = 17 by omega) with e | e | e | e | e | e | e | e | e | e | e | e | e | e | e | e | e | e
              all_goals
                subst e
                obtain rfl := Option.some.inj ho
                rfl
            case hD =>
              intro i k hi hk hne
              omega
            case step =>
              intro i o ho u v hj hV K9 hK
              have hi := (Array.getElem?_eq_some_iff.1 ho).1
              have hi' : i < 18 := hi
              clear hi
              rcases (show i = 0 ∨ i = 1 ∨ i = 2 ∨ i = 3 ∨ i = 4 ∨ i = 5 ∨ i = 6 ∨ i = 7 ∨ i = 8 ∨ i = 9 ∨ i = 10 ∨ i = 11 ∨ i = 12 ∨ i = 13 ∨ i = 14 ∨ i = 15 ∨ i = 16 ∨ i = 17 by omega) with e | e | e | e | e | e | e | e | e | e | e | e | e | e | e | e | e | e
              all_goals
                subst e
                obtain rfl := Option.some.inj ho
                clear ho hi'
                try dsimp only at hV hK ⊢
              · have HJ := hide hj
                clear hj
                go_simp
                exact hK _ _ HJ.out rfl (fun _ _ h => h)
              · have HJ := hide hj
                obtain ⟨-, g0, g1⟩ := as_all hj
                have h0 : u 15 = .pointer (some ⟨wr.heap.size, 0, none⟩) := hV ⟨0, .data⟩ (by simp) rfl
                clear hj
                rw [h0] at hK ⊢
                go_simp
                exact hK _ _ HJ.out rfl (fun _ _ h => h)
              · have HJ := hide hj
                have h1 : u 16 = .string (N k) := hV ⟨1, .data⟩ (by simp) rfl
                clear hj
                rw [h1] at hK ⊢
                go_simp
                refine (i_qualT _ _ HS0.out hq).mono ?_
                rintro e v1 ⟨rfl, q, rfl⟩
                exact hK _ _ (as_go HJ.out (drewN_below _ q)) rfl (fun _ _ h => h)
              · have HJ := hide hj
                have h2 : u 17 = .bool true := hV ⟨2, .data⟩ (by simp) rfl
                clear hj
                rw [h2] at hK ⊢
                go_simp
                exact hK _ _ HJ.out rfl (fun _ _ h => h)
              · have HJ := hide hj
                have h3 : u 18 = .bool false := hV ⟨3, .data⟩ (by simp) rfl
                clear hj
                rw [h3] at hK ⊢
                go_simp
                exact hK _ _ HJ.out rfl (fun _ _ h => h)
              · have HJ := hide hj
                have h4 : u 19 = .bool false := hV ⟨4, .guard⟩ (by simp) rfl
                clear hj
                rw [h4] at hK ⊢
                go_simp
                exact hK _ _ HJ.out rfl (fun _ _ h => h)
              · have HJ := hide hj
                have h4 : u 19 = .bool false := hV ⟨4, .guard⟩ (by simp) rfl
                clear hj
                rw [h4] at hK ⊢
                go_simp
                exact hK _ _ HJ.out rfl (fun _ _ h => h)
              · have HJ := hide hj
                have h5 : u 20 = .slice (some ⟨b, off, none⟩) n c := hV ⟨5, .data⟩ (by simp) rfl
                have h6 : u 21 = .int .i64 (k : Int) := hV ⟨6, .data⟩ (by simp) rfl
                have h4 : u 19 = .bool false := hV ⟨4, .guard⟩ (by simp) rfl
                clear hj
                rw [h5, h6, h4] at hK ⊢
                go_simp
                exact hK _ _ HJ.out rfl (fun _ _ h => h)
              · have HJ := hide hj
                have h4 : u 19 = .bool false := hV ⟨4, .guard⟩ (by simp) rfl
                clear hj
                rw [h4] at hK ⊢
                go_simp
                exact hK _ _ HJ.out rfl (fun _ _ h => h)
              · have HJ := hide hj
                obtain ⟨-, g0, g1⟩ := as_all hj
                have h8 : u 23 = .pointer (some ⟨wr.heap.size, 0, none⟩) := hV ⟨8, .data⟩ (by simp) rfl
                have h4 : u 19 = .bool false := hV ⟨4, .guard⟩ (by simp) rfl
                clear hj
                rw [h8, h4] at hK ⊢
                go_simp
                exact hK _ _ HJ.out rfl (fun _ _ h => h)
              · have HJ := hide hj
                have h7 : u 22 = .slice (some ⟨b, off, none⟩) k c := hV ⟨7, .data⟩ (by simp) rfl
                have h9 : u 24 = .string (N k) := hV ⟨9, .data⟩ (by simp) rfl
                have h4 : u 19 = .bool false := hV ⟨4, .guard⟩ (by simp) rfl
                clear hj
                rw [h7, h9, h4] at hK ⊢
                go_simp
                refine (i_has _ _ _ N V _ _ (by omega) (as_at HJ.out HR.out (by omega))).mono ?_
                rintro e v1 ⟨rfl, hb3⟩
                rw [ha]
                exact hK _ _ (as_go HJ.out hb3) rfl (fun _ _ h => h)
              · have HJ := hide hj
                have h4 : u 19 = .bool false := hV ⟨4, .data⟩ (by simp) rfl
                have h10 : u 25 = .bool true := hV ⟨10, .data⟩ (by simp) rfl
                clear hj
                rw [h4, h10] at hK ⊢
                go_simp
                exact hK _ _ HJ.out rfl (fun _ _ h => h)
              · have HJ := hide hj
                have h11 : u 26 = .bool true := hV ⟨11, .data⟩ (by simp) rfl
                clear hj
                rw [h11] at hK ⊢
                go_simp
                exact hK _ _ HJ.out rfl (fun _ _ h => h)
              · have HJ := hide hj
                have h12 : u 27 = .bool true := hV ⟨12, .guard⟩ (by simp) rfl
                clear hj
                rw [h12] at hK ⊢
                go_simp
                exact hK _ _ HJ.out rfl (fun _ _ h => h)
              · have HJ := hide hj
                have h12 : u 27 = .bool true := hV ⟨12, .guard⟩ (by simp) rfl
                clear hj
                rw [h12] at hK ⊢
                go_simp
                exact hK _ _ HJ.out rfl (fun _ _ h => h)
              · have HJ := hide hj
                have h12 : u 27 = .bool true := hV ⟨12, .guard⟩ (by simp) rfl
                clear hj
                rw [h12] at hK ⊢
                go_simp
                exact hK _ _ HJ.out rfl (fun _ _ h => h)
              · have HJ := hide hj
                have h12 : u 27 = .bool true := hV ⟨12, .guard⟩ (by simp) rfl
                clear hj
                rw [h12] at hK ⊢
                go_simp
                exact hK _ _ HJ.out rfl (fun _ _ h => h)
              · have HJ := hide hj
                have h12 : u 27 = .bool true := hV ⟨12, .data⟩ (by simp) rfl
                clear hj
                rw [h12] at hK ⊢
                go_simp
                exact hK _ _ HJ.out rfl (fun _ _ h => h)
            case done =>
              intro u v hj hV
              have h17 : u 32 = .bool true := hV 17 (by decide)
              have HB := hide (as_below hj)
              clear hj hV
              rw [h17]
              go_wp2
              go_ret
              exact ⟨ret_bool hv.out.symm, HB.out⟩
      · have hkn : k = n := by omega
        subst hkn
        go_wp2
        go_ret
        exact ⟨ret_bool (attrsB_yes h10 HM.out).symm, hb⟩
  · have h10' : (10 : Int) < (n : Int) := by omega
    have hv := hide (attrsB_long (N := N) (V := V) (by omega : 10 < n))
    go_enter Tryz.func104, Tryz.ntmps104
    go_wp2
    go_ret
    exact ⟨ret_bool hv.out.symm, Below.refl _ _⟩
end Go.Proofs.YtdepgkpfibmbgaaGreatDoor

/-
  Contract: an item's parts, by the program.
-/
namespace Go.Proofs.YtdepgkpfibmbgaaGreatDoor
open Go.RowKit Go.Joins
set_option linter.unusedVariables false
set_option linter.unusedSimpArgs false
def partB (nm tx : ByteArray) (n : Nat) (N V : Nat → ByteArray) : Bool :=
  if nm.toList.isEmpty = true then !tx.toList.isEmpty && (((n : Int) == 0) && plainB tx) else tx.toList.isEmpty && (qualB nm && attrsB n N V)
set_option maxRecDepth 100000 in
set_option maxHeartbeats 4000000 in
theorem i_parts (up : Int) (nm tx : ByteArray) (a : Option Addr) (n c : Nat) (N V : Nat → ByteArray) (w : World) (hn : n ≤ 1048576) (hcap : n ≤ c) (h1 : nm.size ≤ 1048576) (h2 : tx.size ≤ 1048576) (hs : ∀ j, j < n → (N j).size ≤ 1048576 ∧ (V j).size ≤ 1048576) (hr : AtAt w a n N V w.heap.size) (hT : Tabs w) :
    Calls Tryz.prog 68 #[.agg #[.int .i64 up, .string nm, .string tx, .slice a n c]] w fun e w' => e = .returned (.bool (partB nm tx n N V)) ∧ Below w.heap.size w w' := by
  have HS := hide hs
  have HR := hide hr
  have HT := hide hT
  have H1 := hide h1
  have H2 := hide h2
  have st : ∀ o, Below w.heap.size w (w.alloc o) := fun o => (Below.refl _ _).alloc (Nat.le_refl _) _
  have HST := hide st
  clear hr hs hT h1 h2 st
  cases e1 : nm.toList.isEmpty
  · have hv : partB nm tx n N V = (tx.toList.isEmpty && (qualB nm && attrsB n N V)) := by unfold partB; rw [e1, if_neg (by decide)]
    have HV := hide hv
    clear hv
    cases e2 : tx.toList.isEmpty
    · go_enter Tryz.func68, Tryz.ntmps68
      go_wp2
      go_ret
      exact ⟨ret_bool (by rw [HV.out, e2]; rfl), HST.out _⟩
    · cases e3 : qualB nm
      · go_enter Tryz.func68, Tryz.ntmps68
        go_wp2_with (go_at_call 103; refine (i_qualF _ _ H1.out e3).mono ?_; rintro e w2 ⟨rfl, q, rfl⟩)
        go_ret
        exact ⟨ret_bool (by rw [HV.out, e2, e3]; rfl), (HST.out _).trans ((drewN_below _ _).mono (by simp))⟩
      · obtain ⟨x, hx⟩ : ∃ x, attrsB n N V = x := ⟨_, rfl⟩
        have HX := hide hx
        go_enter Tryz.func68, Tryz.ntmps68
        go_wp2_with (first | (go_at_call 103; refine (i_qualT _ _ H1.out e3).mono ?_; rintro e w2 ⟨rfl, q, rfl⟩) | (go_at_call 104; refine (i_attrs _ _ _ N V _ hn hcap HS.out (atAt_up (atAt_go HR.out ((HST.out _).trans ((drewN_below _ _).mono (by simp)))) (by simp)) (tabs_below HT.out ((HST.out _).trans ((drewN_below _ _).mono (by simp))))).mono ?_; rintro e w3 ⟨rfl, hb3⟩; rw [HX.out]; have HB3 := hide (((HST.out _).trans ((drewN_below _ _).mono (by simp))).trans (hb3.mono (by simp))); clear hb3))
        go_ret
        exact ⟨ret_bool (by rw [HV.out, e2, e3, HX.out]; rfl), HB3.out⟩
  · have hv : partB nm tx n N V = (!tx.toList.isEmpty && (((n : Int) == 0) && plainB tx)) := by unfold partB; rw [e1, if_pos rfl]
    have HV := hide hv
    clear hv
    cases e2 : tx.toList.isEmpty
    · cases e3 : ((n : Int) == 0)
      · go_enter Tryz.func68, Tryz.ntmps68
        go_wp2
        go_ret
        exact ⟨ret_bool (by rw [HV.out, e2, e3]; rfl), HST.out _⟩
      · obtain ⟨x, hx⟩ : ∃ x, plainB tx = x := ⟨_, rfl⟩
        have HX := hide hx
        go_enter Tryz.func68, Tryz.ntmps68
        go_wp2_with (go_at_call 102; refine (i_plain _ _ H2.out (tabs_below HT.out (HST.out _))).mono ?_; rintro e w3 ⟨rfl, hb3⟩; rw [HX.out]; have HB3 := hide ((HST.out _).trans (hb3.mono (by simp))); clear hb3)
        go_ret
        exact ⟨ret_bool (by rw [HV.out, e2, e3, HX.out]; rfl), HB3.out⟩
    · go_enter Tryz.func68, Tryz.ntmps68
      go_wp2
      go_ret
      exact ⟨ret_bool (by rw [HV.out, e2]; rfl), HST.out _⟩
end Go.Proofs.YtdepgkpfibmbgaaGreatDoor
