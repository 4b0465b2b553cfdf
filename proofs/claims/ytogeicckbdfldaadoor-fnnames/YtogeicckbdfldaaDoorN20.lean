/-
  Contract: the drawn document whose elements bind prefixes.
-/
import Derived.Test.YtogeicckbdfldaaDoorN19
import Derived.Test.YtogeicckbdfldaaDoorN8
import Derived.Deep.DeepCutAuto
import Derived.Deep.CutRange
namespace Go.Proofs.YtogeicckbdfldaaDoor
open Go.RowKit Go.Joins
set_option linter.unusedVariables false
set_option linter.unusedSimpArgs false
theorem below_drewQ {w : World} (q : Nat) : Below w.heap.size w (w.drewN q) := ⟨rfl, rfl, rfl, Nat.le_refl _, fun _ _ => rfl⟩
theorem gsB_cells {G : Nat} {a : Option Addr} {n cap : Nat} {zs : List Int} {w0 w : World} {g m c i : Nat} {D : Dc} (h : GSB G a n cap zs w0 w (some ⟨g, 0, none⟩) m c D) (hi : i < m) : ∃ ad cp, (w.cell? ⟨g, i * 4, none⟩ = some (.int .i64 (D.U i)) ∧ w.cell? ⟨g, i * 4 + 1, none⟩ = some (.string (D.NM i)) ∧ w.cell? ⟨g, i * 4 + 2, none⟩ = some (.string (D.TX i)) ∧ w.cell? ⟨g, i * 4 + 3, none⟩ = some (.slice ad (D.AC i) cp)) ∧ AtD w ad (D.AC i) (D.AN i) (D.AV i) ∧ D.AC i ≤ cp ∧ SmallB D i := by
  obtain ⟨-, ⟨xs, h1, -, h2⟩, -⟩ := h
  obtain ⟨ad, cp, ⟨c0, c1, c2, c3⟩, ha, hc, hs⟩ := h2 i hi
  refine ⟨ad, cp, ⟨?_, ?_, ?_, ?_⟩, ha, hc, hs⟩
  · rw [h1.cellAt (i * 4) (by omega)]; exact c0
  · rw [h1.cellAt (i * 4 + 1) (by omega)]; exact c1
  · rw [h1.cellAt (i * 4 + 2) (by omega)]; exact c2
  · rw [h1.cellAt (i * 4 + 3) (by omega)]; exact c3
theorem gsB_n {G : Nat} {a : Option Addr} {n cap : Nat} {zs : List Int} {w0 w : World} {ad : Option Addr} {m c : Nat} {D : Dc} (h : GSB G a n cap zs w0 w ad m c D) : D.n = m := by
  obtain ⟨-, ⟨xs, h1, hn, h2⟩, -⟩ := h
  exact hn
/-- Three short texts in one block. -/
def StrAt (G : Nat) (w : World) (b : Nat) : Prop := G < b ∧ ∃ s0 s1 s2 : ByteArray, (s0.size ≤ 8 ∧ s1.size ≤ 8 ∧ s2.size ≤ 8) ∧ w.heap[b]? = some (.cells #[.string s0, .string s1, .string s2] 9 (0, 0))
/-- Three short pairs in one block. -/
def MoreAt (G : Nat) (w : World) (b : Nat) (N V : Nat → ByteArray) : Prop := G < b ∧ (∀ j, j < 3 → (N j).size ≤ 8 ∧ (V j).size ≤ 8) ∧ w.heap[b]? = some (.cells #[.string (N 0), .string (V 0), .string (N 1), .string (V 1), .string (N 2), .string (V 2)] AT (0, 0))
def three (a b c : ByteArray) : Nat → ByteArray
  | 0 => a
  | 1 => b
  | _ => c
def spV (G : Nat) : Nat → Value → World → Prop
  | 0, v, w => ∃ b, v = .slice (some ⟨b, 0, none⟩) 3 3 ∧ StrAt G w b
  | 1, v, w => v = .pointer (some ⟨G, 0, none⟩)
  | 2, v, w => ∃ x : Nat, x < 3 ∧ v = .int .i64 x
  | 3, v, w => ∃ b x : Nat, x < 3 ∧ v = .pointer (some ⟨b, x, none⟩) ∧ StrAt G w b
  | 4, v, w => ∃ s : ByteArray, s.size ≤ 8 ∧ v = .string s
  | 5, v, w => ∃ s t : ByteArray, (s.size ≤ 8 ∧ t.size ≤ 8) ∧ v = .agg #[.string s, .string t]
  | 6, v, w => ∃ b, v = .slice (some ⟨b, 0, none⟩) 3 3 ∧ StrAt G w b
  | 7, v, w => v = .pointer (some ⟨G, 0, none⟩)
  | 8, v, w => ∃ x : Nat, x < 3 ∧ v = .int .i64 x
  | 9, v, w => ∃ b x : Nat, x < 3 ∧ v = .pointer (some ⟨b, x, none⟩) ∧ StrAt G w b
  | 10, v, w => ∃ s : ByteArray, s.size ≤ 8 ∧ v = .string s
  | 11, v, w => ∃ s t : ByteArray, (s.size ≤ 8 ∧ t.size ≤ 8) ∧ v = .agg #[.string s, .string t]
  | 12, v, w => ∃ s t : ByteArray, (s.size ≤ 8 ∧ t.size ≤ 8) ∧ v = .agg #[.string s, .string t]
  | 13, v, w => ∃ b N V, v = .slice (some ⟨b, 0, none⟩) 3 3 ∧ MoreAt G w b N V
  | 14, v, w => ∃ b N V, v = .slice (some ⟨b, 0, none⟩) 3 3 ∧ MoreAt G w b N V
  | _, v, w => True
theorem lt_some {w : World} {b : Nat} {o : Obj} (h : w.heap[b]? = some o) : b < w.heap.size := by
  rcases Nat.lt_or_ge b w.heap.size with h' | h'
  · exact h'
  · rw [Array.getElem?_eq_none h'] at h; cases h
theorem strAt_go {G : Nat} {w w' : World} {b : Nat} (h : StrAt G w b) (k : ∀ b, G < b → b < w.heap.size → w'.heap[b]? = w.heap[b]?) : StrAt G w' b := by
  obtain ⟨h1, s0, s1, s2, h2, h3⟩ := h
  exact ⟨h1, s0, s1, s2, h2, (k b h1 (lt_some h3)).trans h3⟩
theorem moreAt_go {G : Nat} {w w' : World} {b : Nat} {N V : Nat → ByteArray} (h : MoreAt G w b N V) (k : ∀ b, G < b → b < w.heap.size → w'.heap[b]? = w.heap[b]?) : MoreAt G w' b N V := by
  obtain ⟨h1, h2, h3⟩ := h
  exact ⟨h1, h2, (k b h1 (lt_some h3)).trans h3⟩
theorem spV_go {G : Nat} {w w' : World} (k : ∀ b, G < b → b < w.heap.size → w'.heap[b]? = w.heap[b]?) : ∀ (i : Nat) (v : Value), spV G i v w → spV G i v w'
  | 0, v, h => by obtain ⟨b, e, h⟩ := h; exact ⟨b, e, strAt_go h k⟩
  | 1, v, h => h
  | 2, v, h => h
  | 3, v, h => by obtain ⟨b, x, hx, e, h⟩ := h; exact ⟨b, x, hx, e, strAt_go h k⟩
  | 4, v, h => h
  | 5, v, h => h
  | 6, v, h => by obtain ⟨b, e, h⟩ := h; exact ⟨b, e, strAt_go h k⟩
  | 7, v, h => h
  | 8, v, h => h
  | 9, v, h => by obtain ⟨b, x, hx, e, h⟩ := h; exact ⟨b, x, hx, e, strAt_go h k⟩
  | 10, v, h => h
  | 11, v, h => h
  | 12, v, h => h
  | 13, v, h => by obtain ⟨b, N, V, e, h⟩ := h; exact ⟨b, N, V, e, moreAt_go h k⟩
  | 14, v, h => by obtain ⟨b, N, V, e, h⟩ := h; exact ⟨b, N, V, e, moreAt_go h k⟩
  | i + 15, v, h => trivial
theorem alloc_keeps (G : Nat) (w : World) (o : Obj) : ∀ b, G < b → b < w.heap.size → (w.alloc o).heap[b]? = w.heap[b]? := fun b _ h => ((Below.refl w.heap.size w).alloc (Nat.le_refl _) o).block b h
theorem drew_keeps {G : Nat} {a : Option Addr} {n cap : Nat} {zs : List Int} {w w' : World} (h : Drew G a n cap zs w w') : ∀ b, G < b → b < w.heap.size → w'.heap[b]? = w.heap[b]? := fun b hb hl => h.2.block b hl (fun e => by cases e; exact absurd hb (Nat.lt_irrefl _))
theorem strAt_new {G : Nat} {w : World} (h : G < w.heap.size) (s0 s1 s2 : ByteArray) (h0 : s0.size ≤ 8) (h1 : s1.size ≤ 8) (h2 : s2.size ≤ 8) : StrAt G (w.alloc (.cells #[.string s0, .string s1, .string s2] 9)) w.heap.size := ⟨h, s0, s1, s2, ⟨h0, h1, h2⟩, heap_alloc_new w _⟩
theorem strAt_cell {G : Nat} {w : World} {b x : Nat} (h : StrAt G w b) (hx : x < 3) : ∃ s : ByteArray, s.size ≤ 8 ∧ w.cell? ⟨b, x, none⟩ = some (.string s) := by
  obtain ⟨h1, s0, s1, s2, ⟨z0, z1, z2⟩, h3⟩ := h
  have hc := cellsAt_cell (w := w) (G := b) (cs := #[.string s0, .string s1, .string s2]) ⟨_, h3⟩
  rcases (show x = 0 ∨ x = 1 ∨ x = 2 by omega) with e | e | e
  · subst e; exact ⟨s0, z0, hc 0⟩
  · subst e; exact ⟨s1, z1, hc 1⟩
  · subst e; exact ⟨s2, z2, hc 2⟩
theorem moreAt_new {G : Nat} {w : World} (h : G < w.heap.size) (s0 t0 s1 t1 s2 t2 : ByteArray) (h0 : s0.size ≤ 8 ∧ t0.size ≤ 8) (h1 : s1.size ≤ 8 ∧ t1.size ≤ 8) (h2 : s2.size ≤ 8 ∧ t2.size ≤ 8) : MoreAt G (w.alloc (.cells #[.string s0, .string t0, .string s1, .string t1, .string s2, .string t2] AT)) w.heap.size (three s0 s1 s2) (three t0 t1 t2) := by
  refine ⟨h, fun j hj => ?_, heap_alloc_new w _⟩
  rcases (show j = 0 ∨ j = 1 ∨ j = 2 by omega) with e | e | e
  · subst e; exact h0
  · subst e; exact h1
  · subst e; exact h2
/-- What each operation of the statement that puts the attributes anew leaves. -/
def spW (X g m c i k b5 : Nat) (ad9 : Option Addr) (AC cp9 : Nat) (N5 V5 AN AV : Nat → ByteArray) : Nat → Value → World → Prop
  | 0, v, w => v = .slice (some ⟨g, 0, none⟩) m c
  | 1, v, w => v = .int .i64 i
  | 2, v, w => ∃ a' c', v = .slice a' 0 c' ∧ w.ownsRow X AT 2 v 0 []
  | 3, v, w => v = .slice (some ⟨b5, 0, none⟩) 3 3
  | 4, v, w => v = .int .i64 k
  | 5, v, w => v = .slice (some ⟨b5, 0, none⟩) k 3
  | 6, v, w => ∃ a' c', v = .slice a' k c' ∧ RowX X w v k N5 V5
  | 7, v, w => v = .slice (some ⟨g, 0, none⟩) m c
  | 8, v, w => v = .int .i64 i
  | 9, v, w => v = .pointer (some ⟨g, i * 4, none⟩)
  | 10, v, w => v = .pointer (some ⟨g, i * 4 + 3, none⟩)
  | 11, v, w => v = .slice ad9 AC cp9
  | 12, v, w => ∃ a' c', v = .slice a' (k + AC) c' ∧ RowX X w v (k + AC) (joinF k N5 AN) (joinF k V5 AV)
  | 13, v, w => v = .pointer (some ⟨g, i * 4, none⟩)
  | 14, v, w => v = .pointer (some ⟨g, i * 4 + 3, none⟩)
  | _, v, w => True
def spC : Nat → Option Nat
  | 2 => some 6
  | 6 => some 12
  | _ => none
def spN (k i : Nat) : Bool := !((k == 2 || k == 6 || k == 12) && (i == 2 || i == 6 || i == 12))
theorem spW_go {X g m c i k b5 : Nat} {ad9 : Option Addr} {AC cp9 : Nat} {N5 V5 AN AV : Nat → ByteArray} {w w' : World} (j : Nat) (hj : j = 2 ∨ j = 6 ∨ j = 12) : ∀ (q : Nat) (x : Value), spN q j = true → spW X g m c i k b5 ad9 AC cp9 N5 V5 AN AV q x w → spW X g m c i k b5 ad9 AC cp9 N5 V5 AN AV q x w'
  | 0, x, _, h => h
  | 1, x, _, h => h
  | 2, x, hn, h => by exfalso; rcases hj with rfl | rfl | rfl <;> simp [spN] at hn
  | 3, x, _, h => h
  | 4, x, _, h => h
  | 5, x, _, h => h
  | 6, x, hn, h => by exfalso; rcases hj with rfl | rfl | rfl <;> simp [spN] at hn
  | 7, x, _, h => h
  | 8, x, _, h => h
  | 9, x, _, h => h
  | 10, x, _, h => h
  | 11, x, _, h => h
  | 12, x, hn, h => by exfalso; rcases hj with rfl | rfl | rfl <;> simp [spN] at hn
  | 13, x, _, h => h
  | 14, x, _, h => h
  | q + 15, x, _, h => trivial
theorem moreAt_cells {G : Nat} {w : World} {b : Nat} {N V : Nat → ByteArray} (h : MoreAt G w b N V) : ∀ j, j < 3 → w.cell? ⟨b, 0 + j * 2, none⟩ = some (.string (N j)) ∧ w.cell? ⟨b, 0 + j * 2 + 1, none⟩ = some (.string (V j)) := by
  intro j hj
  obtain ⟨h1, h2, h3⟩ := h
  have hc := cellsAt_cell (w := w) (G := b) (cs := #[.string (N 0), .string (V 0), .string (N 1), .string (V 1), .string (N 2), .string (V 2)]) ⟨_, h3⟩
  rcases (show j = 0 ∨ j = 1 ∨ j = 2 by omega) with e | e | e
  · subst e; exact ⟨hc 0, hc 1⟩
  · subst e; exact ⟨hc 2, hc 3⟩
  · subst e; exact ⟨hc 4, hc 5⟩
theorem moreAt_keep {G : Nat} {w w' : World} {b : Nat} {N V : Nat → ByteArray} (h : MoreAt G w b N V) (k : KeepA w w') : MoreAt G w' b N V := ⟨h.1, h.2.1, k.2 b _ _ h.2.2⟩
theorem moreAt_src {G : Nat} {w : World} {b k : Nat} {N V : Nat → ByteArray} (h : MoreAt G w b N V) (hk : k ≤ 3) : 0 < k → ∃ p, (some ⟨b, 0, none⟩ : Option Addr) = some p ∧ ∀ j u, (prs N V k)[j]? = some u → w.cell? (p.add j) = some u := fun _ => ⟨_, rfl, prs_cells (fun j hj => moreAt_cells h j (by omega))⟩
def SpR (G : Nat) (a : Option Addr) (n cap : Nat) (zs : List Int) (w : World) (g m c : Nat) (iv : Value) (wr : World) : Prop := ∃ (i : Nat) (D : Dc), iv = .int .i64 i ∧ i ≤ m ∧ GSB G a n cap zs w wr (some ⟨g, 0, none⟩) m c D ∧ ∀ j, i ≤ j → j < m → D.AC j ≤ 8
set_option maxRecDepth 100000 in
set_option maxHeartbeats 4000000 in
theorem d_spaces (G : Nat) (a : Option Addr) (n cap : Nat) (zs : List Int) (w : World) (hgrow : GrowAt G a n cap zs) (h : RdAt w G a n cap zs) :
    Calls Tryd.prog 36 #[.pointer (some ⟨G, 0, none⟩)] w fun e w' => ∃ ad m c D, e = .returned (.slice ad m c) ∧ GSB G a n cap zs w w' ad m c D ∧ 1 ≤ m ∧ m ≤ 40 := by
  obtain ⟨j0, hj, hy0, hy1, hy2⟩ := info_parts infoAt
  have CD := hide (d_doc G a n cap zs w hgrow h)
  clear hgrow h
  go_enter Tryd.func36, Tryd.ntmps36
  go_wp2_with fail
  refine CD.out.mono ?_
  rintro e w1 ⟨ad, m, c, D0, rfl, hgs0, hm1, hm2⟩
  obtain ⟨hgsb, hac0⟩ := gs_toB hgs0
  have HG0 := hide hgsb
  have HA0 := hide hac0
  clear hgsb hac0 hgs0 CD
  obtain ⟨g, hadg, hgG, -, -⟩ := drIt_cellsB HG0.out.2.1 (by omega)
  subst hadg
  go_wp2
  go_loopw [4] (SpR G a n cap zs w g m c) (fun iv _ => m - (intOf iv).toNat)
  case atStart => exact ⟨0, D0, rfl, Nat.zero_le _, HG0.out, fun j _ hj => HA0.out j hj⟩
  case round =>
    clear HG0 HA0
    obtain ⟨i, D, rfl, him, hgs, hac⟩ := hrel
    have HGS := hide hgs
    have HAC := hide hac
    clear hgs hac
    by_cases hi : i < m
    · have hiI : (i : Int) < (m : Int) := by omega
      have hi0 : (0 : Int) ≤ (i : Int) := by omega
      obtain ⟨ad9, cp9, ⟨-, b1, -, -⟩, -, -, hsm⟩ := gsB_cells HGS.out hi
      obtain ⟨NM, hNM⟩ : ∃ NM, D.NM i = NM := ⟨_, rfl⟩
      rw [hNM] at b1
      have hnm8 : NM.size ≤ 8 := by rw [← hNM]; exact hsm.1
      have HNM := hide hNM
      clear hNM hsm
      cases hE : NM.toList.isEmpty
      · go_upto_region 6 with fail
        go_cut [30] (fun v wx => ∃ b : Bool, v = .bool b ∧ GSB G a n cap zs w wx (some ⟨g, 0, none⟩) m c D)
        case first =>
          go_wp2_with fail
          refine (d_once G a n cap zs 3 _ (by omega) (by omega) HGS.out.1).mono ?_
          rintro e w2 ⟨o3, rfl, hd⟩
          have HG2 := hide (gs_drewB HGS.out hd)
          have d1 : w2.cell? ⟨g, i * 4 + 1, none⟩ = some (.string NM) := by
            obtain ⟨ad8, cp8, ⟨-, d1, -, -⟩, -, -, -⟩ := gsB_cells HG2.out hi
            rw [HNM.out] at d1
            exact d1
          clear hd
          cases o3
          · go_wp2
            go_meet
            exact ⟨false, rfl, HG2.out⟩
          · go_wp2_with fail
            refine (s_qual NM _ (by omega)).mono ?_
            rintro e w3 ⟨rfl, q, rfl⟩
            have HG3 := hide (gs_belowB HG2.out (below_drewQ q))
            go_wp2
            go_meet
            exact ⟨_, rfl, HG3.out⟩
        case rest =>
          clear HGS
          obtain ⟨b30, rfl, hgs⟩ := hcut
          have HGS := hide hgs
          clear hgs
          go_upto_if 30 with fail
          go_cut [4] (fun v wx => v = .int .i64 i ∧ ∃ D', GSB G a n cap zs w wx (some ⟨g, 0, none⟩) m c D' ∧ ∀ j, i ≤ j → j < m → D'.AC j ≤ 8)
          case first =>
            cases b30
            · go_wp2
              go_meet
              exact ⟨rfl, D, HGS.out, HAC.out⟩
            · go_wp2_with fail
              have HG1 := hide (gs_allocB HGS.out (.cells #[.string ⟨#[112, 58, 97]⟩, .string ⟨#[113, 58, 98]⟩, .string ⟨#[97]⟩, .string ⟨#[120, 109, 108, 58, 99]⟩] 9))
              refine (d_below G a n cap zs 4 _ (by omega) (by omega) HG1.out.1).mono ?_
              rintro e w3 ⟨x, hx0, hx1, rfl, hd⟩
              have HG3 := hide (gs_drewB HG1.out hd)
              have k9 := cellsAt_cell (w := w3) (G := wc.heap.size) (cs := #[.string ⟨#[112, 58, 97]⟩, .string ⟨#[113, 58, 98]⟩, .string ⟨#[97]⟩, .string ⟨#[120, 109, 108, 58, 99]⟩]) ⟨9, (hd.2.block wc.heap.size (by simp) (fun e => by cases e; exact absurd (gs_sizeB HGS.out) (Nat.lt_irrefl _))).trans (heap_alloc_new wc _)⟩
              obtain ⟨x, rfl⟩ : ∃ y : Nat, x = (y : Int) := ⟨x.toNat, by omega⟩
              have hx4 : x < 4 := by omega
              obtain ⟨s9, hs9, hz9⟩ : ∃ s9 : ByteArray, w3.cell? ⟨wc.heap.size, x, none⟩ = some (.string s9) ∧ s9.size ≤ 8 := by
                have e := k9 x
                rcases (show x = 0 ∨ x = 1 ∨ x = 2 ∨ x = 3 by omega) with h | h | h | h <;> subst h <;> exact ⟨_, e, by decide⟩
              have hgc := gs_cellB HG3.out (i * 4 + 1) (by omega)
              obtain ⟨⟨v9, hv9⟩, hf9⟩ := hgc
              have HST := hide (gs_storeB HG3.out (i * 4 + 1) (.string s9) (fun W xs hl h => its_NB s9 hz9 hi W xs hl h))
              clear k9 hd
              go_wp2
              go_meet
              exact ⟨rfl, _, HST.out, HAC.out⟩
          case rest =>
            obtain ⟨rfl, D', hgs, hac⟩ := hcut
            clear HGS HAC
            have HGS := hide hgs
            have HAC := hide hac
            clear hgs hac b1 hE
            go_upto_region 8 with fail
            go_cut [45] (fun v wx => ∃ b : Bool, v = .bool b ∧ GSB G a n cap zs w wx (some ⟨g, 0, none⟩) m c D')
            case first =>
              by_cases hz : i = 0
              · subst hz
                go_wp2
                go_meet
                exact ⟨_, rfl, HGS.out⟩
              · have hzb : ((i : Int) == 0) = false := by rw [beq_eq_false_iff_ne]; omega
                go_wp2_with fail
                refine (d_once G a n cap zs 4 _ (by omega) (by omega) HGS.out.1).mono ?_
                rintro e w3 ⟨o4, rfl, hd⟩
                have HG3 := hide (gs_drewB HGS.out hd)
                clear hd
                go_wp2
                go_meet
                exact ⟨_, rfl, HG3.out⟩
            case rest =>
              rename_i wc1
              clear HGS
              obtain ⟨b45, rfl, hgs⟩ := hcut
              have HGS := hide hgs
              clear hgs
              cases b45
              · go_wp2
                go_roundw
                case rel => exact ⟨i + 1, D', by go_num, by omega, HGS.out, fun j h1 h2 => HAC.out j (by omega) h2⟩
                case measure => simp [intOf]; omega
              · go_upto_region 9 with fail
                go_cut [5] (fun v wx => ∃ (b5 : Nat) (N5 V5 : Nat → ByteArray), v = .slice (some ⟨b5, 0, none⟩) 3 3 ∧ MoreAt G wx b5 N5 V5 ∧ GSB G a n cap zs w wx (some ⟨g, 0, none⟩) m c D')
                case first =>
                  refine wp_region_inv (by kernel_rfl) (by kernel_rfl) (fun u => { tmps := #[.pointer (some ⟨G, 0, none⟩), undef, .slice none 0 0, .slice (some ⟨g, 0, none⟩) m c, .int .i64 (i : Int), u 5, u6, .pointer (some ⟨G, 0, none⟩), .slice (some ⟨g, 0, none⟩) m c, u9, u10, u11, u12, u13, u14, u15, u16, u17, u18, u19, u20, u21, u22, u23, u24, u25, u26, u27, u28, u29, u30, u31, u32, u33, u34, u35, u36, u37, u38, u39, u40, u41, u42, u43, u44, .bool true, u 46, u 47, u 48, u 49, u 50, u 51, u 52, u 53, u 54, u 55, u 56, u 57, u 58, u 59, u60, u61, u62, u63, u64, u65, u66, u67, u68, u69, u70, u71, u72, u73, u74, u75, u76, u77, u78, u79, u80, u81, u82, u83, u84, u85, u86, u87, u88, u89, u90, u91, undef], defers := [] }) (fun i => if i = 14 then 5 else 46 + i) (spV G) (fun w' => GSB G a n cap zs w w' (some ⟨g, 0, none⟩) m c D') (fun k => #[undef, undef, undef, undef, undef, u5, undef, undef, undef, undef, undef, undef, undef, undef, undef, undef, undef, undef, undef, undef, undef, undef, undef, undef, undef, undef, undef, undef, undef, undef, undef, undef, undef, undef, undef, undef, undef, undef, undef, undef, undef, undef, undef, undef, undef, undef, u46, u47, u48, u49, u50, u51, u52, u53, u54, u55, u56, u57, u58, u59].getD k undef) (gs_belowB HGS.out ⟨rfl, rfl, rfl, Nat.le_refl _, fun _ _ => rfl⟩) ?hput ?hD ?step ?done
                  case hput =>
                    intro i o ho u v
                    have hi := (Array.getElem?_eq_some_iff.1 ho).1
                    have hi' : i < 15 := hi
                    clear hi
                    rcases (show i = 0 ∨ i = 1 ∨ i = 2 ∨ i = 3 ∨ i = 4 ∨ i = 5 ∨ i = 6 ∨ i = 7 ∨ i = 8 ∨ i = 9 ∨ i = 10 ∨ i = 11 ∨ i = 12 ∨ i = 13 ∨ i = 14 by omega) with e | e | e | e | e | e | e | e | e | e | e | e | e | e | e
                    all_goals
                      subst e
                      obtain rfl := Option.some.inj ho
                      rfl
                  case hD =>
                    intro i k hi hk hne
                    have hi' : i < 15 := hi
                    have hk' : k < 15 := hk
                    split <;> split <;> omega
                  case step =>
                    intro i o ho u v hj hV K9 hK
                    have hi := (Array.getElem?_eq_some_iff.1 ho).1
                    have hi' : i < 15 := hi
                    clear hi
                    rcases (show i = 0 ∨ i = 1 ∨ i = 2 ∨ i = 3 ∨ i = 4 ∨ i = 5 ∨ i = 6 ∨ i = 7 ∨ i = 8 ∨ i = 9 ∨ i = 10 ∨ i = 11 ∨ i = 12 ∨ i = 13 ∨ i = 14 by omega) with e | e | e | e | e | e | e | e | e | e | e | e | e | e | e
                    all_goals
                      subst e
                      obtain rfl := Option.some.inj ho
                      clear ho hi'
                      try dsimp only at hV hK ⊢
                    · have HJ := hide hj
                      have hGs := gs_sizeB hj
                      clear hj hV
                      go_simp
                      exact hK _ _ (gs_allocB HJ.out _) ⟨_, rfl, strAt_new hGs _ _ _ (by decide) (by decide) (by decide)⟩ (spV_go (alloc_keeps G v _))
                    · have HJ := hide hj
                      have hGs := gs_sizeB hj
                      clear hj hV
                      go_simp
                      exact hK _ _ HJ.out rfl (fun _ _ h => h)
                    · have HJ := hide hj
                      have hGs := gs_sizeB hj
                      obtain h1 : spV G 1 (u 47) v := hV ⟨1, .data⟩ (by simp) rfl
                      clear hj hV
                      rw [h1] at hK ⊢
                      go_simp
                      refine (d_below G a n cap zs 3 _ (by omega) (by omega) HJ.out.1).mono ?_
                      rintro e v1 ⟨x, hx0, hx1, rfl, hd⟩
                      exact hK _ _ (gs_drewB HJ.out hd) ⟨x.toNat, by omega, by congr 1; omega⟩ (spV_go (drew_keeps hd))
                    · have HJ := hide hj
                      have hGs := gs_sizeB hj
                      obtain ⟨b0, h0, s0⟩ : spV G 0 (u 46) v := hV ⟨0, .data⟩ (by simp) rfl
                      obtain ⟨x2, l2, h2⟩ : spV G 2 (u 48) v := hV ⟨2, .data⟩ (by simp) rfl
                      have hlt3 : (x2 : Int) < 3 := by omega
                      clear hj hV
                      rw [h0, h2] at hK ⊢
                      go_simp
                      exact hK _ _ HJ.out ⟨b0, x2, l2, rfl, s0⟩ (fun _ _ h => h)
                    · have HJ := hide hj
                      have hGs := gs_sizeB hj
                      obtain ⟨b3, x3, l3, h3, s3⟩ : spV G 3 (u 49) v := hV ⟨3, .data⟩ (by simp) rfl
                      obtain ⟨q, hq, hcell⟩ := strAt_cell s3 l3
                      clear hj hV
                      rw [h3] at hK ⊢
                      go_simp
                      exact hK _ _ HJ.out ⟨q, hq, rfl⟩ (fun _ _ h => h)
                    · have HJ := hide hj
                      have hGs := gs_sizeB hj
                      obtain ⟨t4, z4, h4⟩ : spV G 4 (u 50) v := hV ⟨4, .data⟩ (by simp) rfl
                      clear hj hV
                      rw [h4] at hK ⊢
                      go_simp
                      exact hK _ _ HJ.out ⟨_, t4, ⟨by decide, z4⟩, rfl⟩ (fun _ _ h => h)
                    · have HJ := hide hj
                      have hGs := gs_sizeB hj
                      clear hj hV
                      go_simp
                      exact hK _ _ (gs_allocB HJ.out _) ⟨_, rfl, strAt_new hGs _ _ _ (by decide) (by decide) (by decide)⟩ (spV_go (alloc_keeps G v _))
                    · have HJ := hide hj
                      have hGs := gs_sizeB hj
                      clear hj hV
                      go_simp
                      exact hK _ _ HJ.out rfl (fun _ _ h => h)
                    · have HJ := hide hj
                      have hGs := gs_sizeB hj
                      obtain h7 : spV G 7 (u 53) v := hV ⟨7, .data⟩ (by simp) rfl
                      clear hj hV
                      rw [h7] at hK ⊢
                      go_simp
                      refine (d_below G a n cap zs 3 _ (by omega) (by omega) HJ.out.1).mono ?_
                      rintro e v1 ⟨x, hx0, hx1, rfl, hd⟩
                      exact hK _ _ (gs_drewB HJ.out hd) ⟨x.toNat, by omega, by congr 1; omega⟩ (spV_go (drew_keeps hd))
                    · have HJ := hide hj
                      have hGs := gs_sizeB hj
                      obtain ⟨b6, h6, s6⟩ : spV G 6 (u 52) v := hV ⟨6, .data⟩ (by simp) rfl
                      obtain ⟨x8, l8, h8⟩ : spV G 8 (u 54) v := hV ⟨8, .data⟩ (by simp) rfl
                      have hlt3 : (x8 : Int) < 3 := by omega
                      clear hj hV
                      rw [h6, h8] at hK ⊢
                      go_simp
                      exact hK _ _ HJ.out ⟨b6, x8, l8, rfl, s6⟩ (fun _ _ h => h)
                    · have HJ := hide hj
                      have hGs := gs_sizeB hj
                      obtain ⟨b9, x9, l9, h9, s9⟩ : spV G 9 (u 55) v := hV ⟨9, .data⟩ (by simp) rfl
                      obtain ⟨q, hq, hcell⟩ := strAt_cell s9 l9
                      clear hj hV
                      rw [h9] at hK ⊢
                      go_simp
                      exact hK _ _ HJ.out ⟨q, hq, rfl⟩ (fun _ _ h => h)
                    · have HJ := hide hj
                      have hGs := gs_sizeB hj
                      obtain ⟨t10, z10, h10⟩ : spV G 10 (u 56) v := hV ⟨10, .data⟩ (by simp) rfl
                      clear hj hV
                      rw [h10] at hK ⊢
                      go_simp
                      exact hK _ _ HJ.out ⟨_, t10, ⟨by decide, z10⟩, rfl⟩ (fun _ _ h => h)
                    · have HJ := hide hj
                      have hGs := gs_sizeB hj
                      clear hj hV
                      go_simp
                      exact hK _ _ HJ.out ⟨_, _, ⟨by decide, by decide⟩, rfl⟩ (fun _ _ h => h)
                    · have HJ := hide hj
                      have hGs := gs_sizeB hj
                      obtain ⟨s5, t5, z5, h5⟩ : spV G 5 (u 51) v := hV ⟨5, .data⟩ (by simp) rfl
                      obtain ⟨s11, t11, z11, h11⟩ : spV G 11 (u 57) v := hV ⟨11, .data⟩ (by simp) rfl
                      obtain ⟨s12, t12, z12, h12⟩ : spV G 12 (u 58) v := hV ⟨12, .data⟩ (by simp) rfl
                      clear hj hV
                      rw [h5, h11, h12] at hK ⊢
                      go_simp
                      exact hK _ _ (gs_allocB HJ.out _) ⟨_, _, _, rfl, moreAt_new hGs s5 t5 s11 t11 s12 t12 z5 z11 z12⟩ (spV_go (alloc_keeps G v _))
                    · have HJ := hide hj
                      have hGs := gs_sizeB hj
                      obtain ⟨b13, N13, V13, h13, s13⟩ : spV G 13 (u 59) v := hV ⟨13, .data⟩ (by simp) rfl
                      clear hj hV
                      rw [h13] at hK ⊢
                      go_simp
                      exact hK _ _ HJ.out ⟨b13, N13, V13, rfl, s13⟩ (fun _ _ h => h)
                  case done =>
                    intro u v hj hV
                    obtain ⟨b14, N14, V14, h14, s14⟩ : spV G 14 (u 5) v := hV 14 (by decide)
                    have HJ := hide hj
                    clear hj hV
                    rw [h14]
                    go_wp2
                    go_meet
                    exact ⟨b14, N14, V14, rfl, s14, HJ.out⟩
                case rest =>
                  clear HGS
                  obtain ⟨b5, N5, V5, rfl, hmo, hgs⟩ := hcut
                  have HGS := hide hgs
                  have HMO := hide hmo
                  clear hgs hmo
                  go_wp2_with fail
                  refine (d_below G a n cap zs 4 _ (by omega) (by omega) HGS.out.1).mono ?_
                  rintro e wX ⟨k, hk0, hk4, rfl, hd⟩
                  replace HMO := hide (moreAt_go HMO.out (drew_keeps hd))
                  replace HGS := hide (gs_drewB HGS.out hd)
                  clear hd
                  obtain ⟨k, rfl⟩ : ∃ y : Nat, k = (y : Int) := ⟨k.toNat, by omega⟩
                  have hk3 : k ≤ 3 := by omega
                  have hk3I : (k : Int) ≤ 3 := by omega
                  obtain ⟨ad9', cp9', hgy, hat, hcp, hsm⟩ := gy_start HGS.out hi
                  clear ad9 cp9
                  obtain ⟨ad9, cp9, rfl, rfl⟩ : ∃ x y, x = ad9' ∧ y = cp9' := ⟨_, _, rfl, rfl⟩
                  have HGY := hide hgy
                  have HAT := hide hat
                  have HSM := hide hsm
                  have hac8 := HAC.out i (Nat.le_refl _) hi
                  clear hgy hat hsm
                  go_upto_region 11 with fail
                  go_cut [4] (fun v wx => v = .int .i64 i ∧ ∃ (a' : Option Addr) (ka c' : Nat) (N V : Nat → ByteArray), GY G a n cap zs wX wx g m c D' i (.slice a' ka c') ∧ RowX wX.heap.size wx (.slice a' ka c') ka N V ∧ ka ≤ 11)
                  case first =>
                    refine wp_region_last (by kernel_rfl) (by kernel_rfl) (fun u => { tmps := #[.pointer (some ⟨G, 0, none⟩), undef, .slice none 0 0, .slice (some ⟨g, 0, none⟩) m c, .int .i64 (i : Int), .slice (some ⟨b5, 0, none⟩) 3 3, .int .i64 (k : Int), .pointer (some ⟨G, 0, none⟩), .slice (some ⟨g, 0, none⟩) m c, u9, u10, u11, u12, u13, u14, u15, u16, u17, u18, u19, u20, u21, u22, u23, u24, u25, u26, u27, u28, u29, u30, u31, u32, u33, u34, u35, u36, u37, u38, u39, u40, u41, u42, u43, u44, u45, u46, u47, u48, u49, u50, u51, u52, u53, u54, u55, u56, u57, u58, u59, .pointer (some ⟨G, 0, none⟩), .int .i64 (k : Int), u 62, u 63, u 64, u 65, u 66, u 67, u 68, u 69, u 70, u 71, u 72, u 73, u 74, u 75, u 76, u77, u78, u79, u80, u81, u82, u83, u84, u85, u86, u87, u88, u89, u90, u91, undef], defers := [] }) (fun i => 62 + i) (spW wX.heap.size g m c i k b5 ad9 (D'.AC i) cp9 N5 V5 (D'.AN i) (D'.AV i)) (fun w' => GY G a n cap zs wX w' g m c D' i (.slice ad9 (D'.AC i) cp9)) (fun w' => ∃ a' c', GY G a n cap zs wX w' g m c D' i (.slice a' (k + D'.AC i) c') ∧ RowX wX.heap.size w' (.slice a' (k + D'.AC i) c') (k + D'.AC i) (joinF k N5 (D'.AN i)) (joinF k V5 (D'.AV i))) (fun k => #[u62, u63, u64, u65, u66, u67, u68, u69, u70, u71, u72, u73, u74, u75, u76].getD (k - 62) undef) spC spN 15 (by decide) (gy_below HGY.out ⟨rfl, rfl, rfl, Nat.le_refl _, fun _ _ => rfl⟩) ?hput ?hD ?hall ?hneed ?step ?last ?done
                    case hput =>
                      intro i o ho u v
                      have hi := (Array.getElem?_eq_some_iff.1 ho).1
                      have hi' : i < 16 := hi
                      clear hi
                      rcases (show i = 0 ∨ i = 1 ∨ i = 2 ∨ i = 3 ∨ i = 4 ∨ i = 5 ∨ i = 6 ∨ i = 7 ∨ i = 8 ∨ i = 9 ∨ i = 10 ∨ i = 11 ∨ i = 12 ∨ i = 13 ∨ i = 14 ∨ i = 15 by omega) with e | e | e | e | e | e | e | e | e | e | e | e | e | e | e | e
                      all_goals
                        subst e
                        obtain rfl := Option.some.inj ho
                        rfl
                    case hD =>
                      intro i k hi hk hne
                      omega
                    case hall =>
                      intro l hc hl k hk
                      have hk' : k < 16 := hk
                      have h0 := hc 15 _ rfl hl ⟨0, .phase⟩ (by simp) rfl
                      have h1 := hc 15 _ rfl hl ⟨1, .phase⟩ (by simp) rfl
                      have h2 := hc 15 _ rfl hl ⟨2, .phase⟩ (by simp) rfl
                      have h3 := hc 15 _ rfl hl ⟨3, .phase⟩ (by simp) rfl
                      have h4 := hc 15 _ rfl hl ⟨4, .phase⟩ (by simp) rfl
                      have h5 := hc 15 _ rfl hl ⟨5, .phase⟩ (by simp) rfl
                      have h6 := hc 15 _ rfl hl ⟨6, .phase⟩ (by simp) rfl
                      have h7 := hc 15 _ rfl hl ⟨7, .phase⟩ (by simp) rfl
                      have h8 := hc 15 _ rfl hl ⟨8, .phase⟩ (by simp) rfl
                      have h9 := hc 15 _ rfl hl ⟨9, .phase⟩ (by simp) rfl
                      have h10 := hc 15 _ rfl hl ⟨10, .phase⟩ (by simp) rfl
                      have h11 := hc 15 _ rfl hl ⟨11, .phase⟩ (by simp) rfl
                      have h12 := hc 15 _ rfl hl ⟨12, .phase⟩ (by simp) rfl
                      have h14 := hc 15 _ rfl hl ⟨14, .data⟩ (by simp) rfl
                      have h13 := hc 14 _ rfl h14 ⟨13, .data⟩ (by simp) rfl
                      rcases (show k = 0 ∨ k = 1 ∨ k = 2 ∨ k = 3 ∨ k = 4 ∨ k = 5 ∨ k = 6 ∨ k = 7 ∨ k = 8 ∨ k = 9 ∨ k = 10 ∨ k = 11 ∨ k = 12 ∨ k = 13 ∨ k = 14 ∨ k = 15 by omega) with e | e | e | e | e | e | e | e | e | e | e | e | e | e | e | e
                      all_goals
                        subst e
                        assumption
                    case hneed =>
                      intro l hc i o ho hdep hlf k hk hn hlk
                      have hki : (k = 2 ∨ k = 6 ∨ k = 12) ∧ (i = 2 ∨ i = 6 ∨ i = 12) := by simp [spN] at hn; omega
                      obtain ⟨hk3, hi3⟩ := hki
                      rcases hi3 with e | e | e <;> subst e <;> rcases hk3 with e | e | e <;> subst e
                      · rw [hlf] at hlk; cases hlk
                      · have := hc 6 _ rfl hlk ⟨2, .data⟩ (by simp) rfl; rw [hlf] at this; cases this
                      · have h6 := hc 12 _ rfl hlk ⟨6, .data⟩ (by simp) rfl; have := hc 6 _ rfl h6 ⟨2, .data⟩ (by simp) rfl; rw [hlf] at this; cases this
                      · exact ⟨6, rfl, .inr rfl⟩
                      · rw [hlf] at hlk; cases hlk
                      · have := hc 12 _ rfl hlk ⟨6, .data⟩ (by simp) rfl; rw [hlf] at this; cases this
                      · obtain rfl := Option.some.inj ho; exact ⟨6, rfl, .inl (hdep ⟨6, .data⟩ (by simp) rfl)⟩
                      · exact ⟨12, rfl, .inr rfl⟩
                      · rw [hlf] at hlk; cases hlk
                    case step =>
                      intro i9 o ho hne u v hj hV K9 hK
                      have hi9 := (Array.getElem?_eq_some_iff.1 ho).1
                      have hi' : i9 < 16 := hi9
                      clear hi9
                      rcases (show i9 = 0 ∨ i9 = 1 ∨ i9 = 2 ∨ i9 = 3 ∨ i9 = 4 ∨ i9 = 5 ∨ i9 = 6 ∨ i9 = 7 ∨ i9 = 8 ∨ i9 = 9 ∨ i9 = 10 ∨ i9 = 11 ∨ i9 = 12 ∨ i9 = 13 ∨ i9 = 14 by omega) with e | e | e | e | e | e | e | e | e | e | e | e | e | e | e
                      all_goals
                        subst e
                        obtain rfl := Option.some.inj ho
                        clear ho hi' hne
                        try dsimp only at hV hK ⊢
                      · have HJ := hide hj
                        clear hj hV
                        go_simp
                        exact hK _ _ HJ.out rfl (fun _ _ _ h => h)
                      · have HJ := hide hj
                        clear hj hV
                        go_simp
                        exact hK _ _ HJ.out rfl (fun _ _ _ h => h)
                      · have HJ := hide hj
                        clear hj hV
                        go_simp
                        exact hK _ _ (gy_alloc HJ.out _) ⟨_, _, rfl, World.ownsRow_made (base := wX.heap.size) (e := AT) (size := 2) v #[] 0 (gy_le HJ.out) (Nat.zero_le _) rfl⟩ (spW_go 2 (by omega))
                      · have HJ := hide hj
                        clear hj hV
                        go_simp
                        exact hK _ _ HJ.out rfl (fun _ _ _ h => h)
                      · have HJ := hide hj
                        clear hj hV
                        go_simp
                        exact hK _ _ HJ.out rfl (fun _ _ _ h => h)
                      · have HJ := hide hj
                        obtain h3 : spW wX.heap.size g m c i k b5 ad9 (D'.AC i) cp9 N5 V5 (D'.AN i) (D'.AV i) 3 (u 65) v := hV ⟨3, .data⟩ (by simp) rfl (by simp [spC])
                        obtain h4 : spW wX.heap.size g m c i k b5 ad9 (D'.AC i) cp9 N5 V5 (D'.AN i) (D'.AV i) 4 (u 66) v := hV ⟨4, .data⟩ (by simp) rfl (by simp [spC])
                        clear hj hV
                        rw [h3, h4] at hK ⊢
                        go_simp
                        exact hK _ _ HJ.out rfl (fun _ _ _ h => h)
                      · have HJ := hide hj
                        obtain ⟨a2, c2, h2, r2⟩ : spW wX.heap.size g m c i k b5 ad9 (D'.AC i) cp9 N5 V5 (D'.AN i) (D'.AV i) 2 (u 64) v := hV ⟨2, .data⟩ (by simp) rfl (by simp [spC])
                        obtain h5 : spW wX.heap.size g m c i k b5 ad9 (D'.AC i) cp9 N5 V5 (D'.AN i) (D'.AV i) 5 (u 67) v := hV ⟨5, .data⟩ (by simp) rfl (by simp [spC])
                        clear hj hV
                        rw [h2] at r2
                        rw [h2, h5] at hK ⊢
                        rw [if_pos (by rfl)]
                        refine wp_append_any (.tmp 64) (.tmp 67) _ (by rfl) wX.heap.size AT j0 _ 2 32 Tryd.underlying32 hj hy0 hy1 hy2 rfl (by omega) (.slice a2 0 c2) 0 [] (by rfl) r2 (some ⟨b5, 0, none⟩) k 3 (prs N5 V5 k) (by rfl) (prs_len _ _ _) (moreAt_src (moreAt_keep HMO.out HJ.out.2.2.2.1) hk3) (prs_one _ _ _) (by unfold maxLen; omega) (by omega) (gy_le HJ.out) ?_
                        intro a' c' w9 hown9 hgr9
                        rw [Nat.zero_add] at hown9 ⊢
                        exact hK _ _ (gy_grown HJ.out hgr9 (fun k hk => (r2.lt k hk).1)) ⟨a', c', rfl, hown9, fun j hj => HMO.out.2.1 j (by omega)⟩ (spW_go 6 (by omega))
                      · have HJ := hide hj
                        clear hj hV
                        go_simp
                        exact hK _ _ HJ.out rfl (fun _ _ _ h => h)
                      · have HJ := hide hj
                        clear hj hV
                        go_simp
                        exact hK _ _ HJ.out rfl (fun _ _ _ h => h)
                      · have HJ := hide hj
                        obtain h7 : spW wX.heap.size g m c i k b5 ad9 (D'.AC i) cp9 N5 V5 (D'.AN i) (D'.AV i) 7 (u 69) v := hV ⟨7, .data⟩ (by simp) rfl (by simp [spC])
                        obtain h8 : spW wX.heap.size g m c i k b5 ad9 (D'.AC i) cp9 N5 V5 (D'.AN i) (D'.AV i) 8 (u 70) v := hV ⟨8, .data⟩ (by simp) rfl (by simp [spC])
                        clear hj hV
                        rw [h7, h8] at hK ⊢
                        go_simp
                        exact hK _ _ HJ.out rfl (fun _ _ _ h => h)
                      · have HJ := hide hj
                        obtain h9 : spW wX.heap.size g m c i k b5 ad9 (D'.AC i) cp9 N5 V5 (D'.AN i) (D'.AV i) 9 (u 71) v := hV ⟨9, .data⟩ (by simp) rfl (by simp [spC])
                        clear hj hV
                        rw [h9] at hK ⊢
                        go_simp
                        exact hK _ _ HJ.out rfl (fun _ _ _ h => h)
                      · have HJ := hide hj
                        obtain h10 : spW wX.heap.size g m c i k b5 ad9 (D'.AC i) cp9 N5 V5 (D'.AN i) (D'.AV i) 10 (u 72) v := hV ⟨10, .data⟩ (by simp) rfl (by simp [spC])
                        obtain ⟨hcell, -⟩ := gy_cell hj hi
                        clear hj hV
                        rw [h10] at hK ⊢
                        go_simp
                        exact hK _ _ HJ.out rfl (fun _ _ _ h => h)
                      · have HJ := hide hj
                        obtain ⟨a6, c6, h6, r6⟩ : spW wX.heap.size g m c i k b5 ad9 (D'.AC i) cp9 N5 V5 (D'.AN i) (D'.AV i) 6 (u 68) v := hV ⟨6, .data⟩ (by simp) rfl (by simp [spC])
                        obtain h11 : spW wX.heap.size g m c i k b5 ad9 (D'.AC i) cp9 N5 V5 (D'.AN i) (D'.AV i) 11 (u 73) v := hV ⟨11, .data⟩ (by simp) rfl (by simp [spC])
                        clear hj hV
                        rw [h6] at r6
                        rw [h6, h11] at hK ⊢
                        rw [if_pos (by rfl)]
                        refine wp_append_any (.tmp 68) (.tmp 73) _ (by rfl) wX.heap.size AT j0 _ 2 32 Tryd.underlying32 hj hy0 hy1 hy2 rfl (by omega) (.slice a6 k c6) k (prs N5 V5 k) (by rfl) r6.1 ad9 (D'.AC i) cp9 (prs (D'.AN i) (D'.AV i) (D'.AC i)) (by rfl) (prs_len _ _ _) (atD_cells (atD_keep HAT.out HJ.out.2.2.2.1)) (prs_one _ _ _) (by unfold maxLen; omega) (by omega) (gy_le HJ.out) ?_
                        intro a' c' w9 hown9 hgr9
                        rw [prs_join] at hown9
                        exact hK _ _ (gy_grown HJ.out hgr9 (fun k hk => (r6.1.lt k hk).1)) ⟨a', c', rfl, hown9, join_small r6.2 HSM.out.2.2.2⟩ (spW_go 12 (by omega))
                      · have HJ := hide hj
                        obtain h0 : spW wX.heap.size g m c i k b5 ad9 (D'.AC i) cp9 N5 V5 (D'.AN i) (D'.AV i) 0 (u 62) v := hV ⟨0, .data⟩ (by simp) rfl (by simp [spC])
                        obtain h1 : spW wX.heap.size g m c i k b5 ad9 (D'.AC i) cp9 N5 V5 (D'.AN i) (D'.AV i) 1 (u 63) v := hV ⟨1, .data⟩ (by simp) rfl (by simp [spC])
                        clear hj hV
                        rw [h0, h1] at hK ⊢
                        go_simp
                        exact hK _ _ HJ.out rfl (fun _ _ _ h => h)
                      · have HJ := hide hj
                        obtain h13 : spW wX.heap.size g m c i k b5 ad9 (D'.AC i) cp9 N5 V5 (D'.AN i) (D'.AV i) 13 (u 75) v := hV ⟨13, .data⟩ (by simp) rfl (by simp [spC])
                        clear hj hV
                        rw [h13] at hK ⊢
                        go_simp
                        exact hK _ _ HJ.out rfl (fun _ _ _ h => h)
                    case last =>
                      intro o ho u v hj hV K9 hK
                      obtain rfl := Option.some.inj ho
                      clear ho
                      try dsimp only at hV hK ⊢
                      obtain ⟨a12, c12, h12, r12⟩ : spW wX.heap.size g m c i k b5 ad9 (D'.AC i) cp9 N5 V5 (D'.AN i) (D'.AV i) 12 (u 74) v := hV 12 (by decide) (by decide) (by simp [spC])
                      have h14 : u 76 = .pointer (some ⟨g, i * 4 + 3, none⟩) := hV 14 (by decide) (by decide) (by simp [spC])
                      have HJ := hide hj
                      obtain ⟨hcell, hfz⟩ := gy_cell hj hi
                      clear hj hV
                      rw [h12] at r12
                      rw [h12, h14] at hK ⊢
                      go_simp
                      exact hK undef _ ⟨a12, c12, gy_store HJ.out _, rowX_store r12 HJ.out.2.2.2.2 _ _⟩
                    case done =>
                      rintro u v ⟨a', c', hgy, hrx⟩
                      have HG := hide hgy
                      have HX := hide hrx
                      clear hgy hrx
                      go_wp2
                      go_meet
                      exact ⟨rfl, a', _, c', _, _, HG.out, HX.out, by omega⟩
                  case rest =>
                    obtain ⟨rfl, sa, ka, ca, N, V, hgy, hrx, hka⟩ := hcut
                    clear HGY HAT HSM HMO
                    have HGY := hide hgy
                    have HRX := hide hrx
                    have hGX := gy_G hgy
                    clear hgy hrx
                    go_wp2_with fail
                    refine (d_once G a n cap zs 4 _ (by omega) (by omega) HGY.out.1).mono ?_
                    rintro e w7 ⟨o4, rfl, hd⟩
                    replace HGY := hide (gy_drew HGY.out hd)
                    replace HRX := hide (rowX_drew HRX.out hGX hd)
                    clear hd
                    cases o4
                    · have HFIN := hide (gy_fin HGS.out HGY.out HRX.out (by omega) hi)
                      go_wp2
                      go_roundw
                      case rel => exact ⟨i + 1, _, by go_num, by omega, HFIN.out, fun j h1 h2 => by show (if j = i then ka else D'.AC j) ≤ 8; rw [if_neg (by omega)]; exact HAC.out j (by omega) h2⟩
                      case measure => simp [intOf]; omega
                    · obtain ⟨hc7, hf7⟩ := gy_cell HGY.out hi
                      have HG8 := hide (gy_alloc HGY.out (.cells #[.string ⟨#[113, 58, 122]⟩, .string ⟨#[49]⟩, .string ⟨#[112, 58, 122]⟩, .string ⟨#[50]⟩] AT))
                      have HR8 := hide (rowX_below HRX.out ((Below.refl w7.heap.size w7).alloc (Nat.le_refl _) (.cells #[.string ⟨#[113, 58, 122]⟩, .string ⟨#[49]⟩, .string ⟨#[112, 58, 122]⟩, .string ⟨#[50]⟩] AT)))
                      have hnew := cellsAt_cell (w := w7.alloc (.cells #[.string ⟨#[113, 58, 122]⟩, .string ⟨#[49]⟩, .string ⟨#[112, 58, 122]⟩, .string ⟨#[50]⟩] AT)) (G := w7.heap.size) (cs := #[.string ⟨#[113, 58, 122]⟩, .string ⟨#[49]⟩, .string ⟨#[112, 58, 122]⟩, .string ⟨#[50]⟩]) ⟨AT, heap_alloc_new w7 _⟩
                      have hnw : ∀ j, j < 2 → (w7.alloc (.cells #[.string ⟨#[113, 58, 122]⟩, .string ⟨#[49]⟩, .string ⟨#[112, 58, 122]⟩, .string ⟨#[50]⟩] AT)).cell? ⟨w7.heap.size, 0 + j * 2, none⟩ = some (.string (three ⟨#[113, 58, 122]⟩ ⟨#[112, 58, 122]⟩ ⟨#[]⟩ j)) ∧ (w7.alloc (.cells #[.string ⟨#[113, 58, 122]⟩, .string ⟨#[49]⟩, .string ⟨#[112, 58, 122]⟩, .string ⟨#[50]⟩] AT)).cell? ⟨w7.heap.size, 0 + j * 2 + 1, none⟩ = some (.string (three ⟨#[49]⟩ ⟨#[50]⟩ ⟨#[]⟩ j)) := fun j hj => by
                        rcases (show j = 0 ∨ j = 1 by omega) with e | e
                        · subst e; exact ⟨hnew 0, hnew 1⟩
                        · subst e; exact ⟨hnew 2, hnew 3⟩
                      have HNW := hide hnw
                      clear hnw hnew
                      go_wp2_with (at_builtin; refine wpList_append_any (by rfl) (.tmp 85) (.tmp 88) _ (by rfl) wX.heap.size AT j0 _ 2 32 Tryd.underlying32 hj hy0 hy1 hy2 rfl (by omega) (.slice sa ka ca) ka (prs N V ka) (by rfl) HR8.out.1 (some ⟨w7.heap.size, 0, none⟩) 2 2 (prs (three ⟨#[113, 58, 122]⟩ ⟨#[112, 58, 122]⟩ ⟨#[]⟩) (three ⟨#[49]⟩ ⟨#[50]⟩ ⟨#[]⟩) 2) (by rfl) (by rfl) (fun _ => ⟨_, rfl, prs_cells HNW.out⟩) (prs_one _ _ _) (by unfold maxLen; omega) (by omega) (gy_le HG8.out) ?_; intro a9 c9 w9 hown9 hgr9; rw [prs_join] at hown9; have HG9 := hide (gy_grown HG8.out hgr9 (fun k hk => (HR8.out.1.lt k hk).1)); have HR9 : Hid (RowX wX.heap.size w9 (.slice a9 (ka + 2) c9) (ka + 2) (joinF ka N (three ⟨#[113, 58, 122]⟩ ⟨#[112, 58, 122]⟩ ⟨#[]⟩)) (joinF ka V (three ⟨#[49]⟩ ⟨#[50]⟩ ⟨#[]⟩))) := hide ⟨hown9, join_small HR8.out.2 (fun j hj => by rcases (show j = 0 ∨ j = 1 by omega) with e | e <;> subst e <;> decide)⟩; have hc9 := (gy_cell HG9.out hi).1; have hf9 := (gy_cell HG9.out hi).2; clear hown9 hgr9)
                      have HFIN := hide (gy_fin HGS.out (gy_store HG9.out (.slice a9 (ka + 2) c9)) (rowX_store HR9.out HG9.out.2.2.2.2 _ _) (by omega) hi)
                      go_roundw
                      case rel => exact ⟨i + 1, _, by go_num, by omega, HFIN.out, fun j h1 h2 => by show (if j = i then ka + 2 else D'.AC j) ≤ 8; rw [if_neg (by omega)]; exact HAC.out j (by omega) h2⟩
                      case measure => simp [intOf]; omega
      · go_wp2
        go_roundw
        case rel => exact ⟨i + 1, D, by go_num, by omega, HGS.out, fun j h1 h2 => HAC.out j (by omega) h2⟩
        case measure => simp [intOf]; omega
    · have him2 : i = m := by omega
      subst him2
      go_wp2
      go_ret
      exact ⟨_, _, _, D, rfl, HGS.out, hm1, hm2⟩
end Go.Proofs.YtogeicckbdfldaaDoor
