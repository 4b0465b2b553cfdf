/-
  Texts put together: BoR, AcS1.
-/
import Derived.Test.YtfohfljdgmlibaaDoorS17
import Derived.Test.YtfohfljdgmlibaaDoorS13
import Derived.Deep.DeepCutAuto
/-
  Plain laws on rows of truth values of the call's own.
-/
namespace Go.Proofs.YtfohfljdgmlibaaDoor
open Go.RowKit Go.Joins
set_option linter.unusedVariables false
set_option linter.unusedSimpArgs false
theorem infoBo : (Tryd.prog.info? 4).map (fun i => (i.zero, i.size, i.bytes)) = some (some (.bool false), 1, 1) := by kernel_rfl
/-- A row of truth values lies somewhere. -/
def BoAt (w : World) (a : Option Addr) (f : List Bool) (B : Nat) : Prop := ∃ b off, a = some ⟨b, off, none⟩ ∧ b < B ∧ ∀ j, j < f.length → w.cell? ⟨b, off + j, none⟩ = some (.bool (f[j]?.getD false))
theorem bo_go {w w' : World} {a : Option Addr} {f : List Bool} {B : Nat} (h : BoAt w a f B) (hb : Below B w w') : BoAt w' a f B := by
  obtain ⟨b, off, e, hl, hc⟩ := h
  exact ⟨b, off, e, hl, fun j hj => (hb.cell (p := ⟨b, off + j, none⟩) hl).trans (hc j hj)⟩
theorem bo_up {w : World} {a : Option Addr} {f : List Bool} {B B' : Nat} (h : BoAt w a f B) (hB : B ≤ B') : BoAt w a f B' := by
  obtain ⟨b, off, e, hl, hc⟩ := h
  exact ⟨b, off, e, Nat.lt_of_lt_of_le hl hB, hc⟩
/-- A row of one's own. -/
def BoX (B : Nat) (w : World) (g c n : Nat) (f : List Bool) : Prop := f.length = n ∧ w.ownsRow B 4 1 (.slice (some ⟨g, 0, none⟩) n c) n (f.map Value.bool)
theorem boX_at {B : Nat} {w : World} {g c n : Nat} {f : List Bool} (h : BoX B w g c n f) : B ≤ g ∧ g < w.heap.size ∧ ∀ j, j < n → w.cell? ⟨g, j, none⟩ = some (.bool (f[j]?.getD false)) := by
  have hl := h.2.lt g rfl
  refine ⟨hl.1, hl.2, fun j hj => ?_⟩
  rw [World.ownsRow.cellAt h.2 j (by omega), List.getElem?_map, List.getElem?_eq_getElem (by rw [h.1]; exact hj)]
  rfl
theorem boX_bo {B : Nat} {w : World} {g c n : Nat} {f : List Bool} (h : BoX B w g c n f) : BoAt w (some ⟨g, 0, none⟩) f w.heap.size := by
  obtain ⟨-, h2, h3⟩ := boX_at h
  exact ⟨g, 0, rfl, h2, fun j hj => by rw [Nat.zero_add]; exact h3 j (by rw [← h.1]; exact hj)⟩
theorem boX_go {B : Nat} {w w2 : World} {g c n : Nat} {f : List Bool} (h : BoX B w g c n f) (hb : Below w.heap.size w w2) : BoX B w2 g c n f := ⟨h.1, gOwn_after h.2 hb⟩
theorem boX_low {B B' : Nat} {w : World} {g c n : Nat} {f : List Bool} (h : BoX B w g c n f) (hB : B' ≤ B) : BoX B' w g c n f := ⟨h.1, gOwn_lower h.2 hB⟩
theorem boX_set {B : Nat} {w : World} {g c n : Nat} {f : List Bool} (h : BoX B w g c n f) (j : Nat) (v : Bool) : BoX B (w.setCell ⟨g, j, none⟩ (.bool v)) g c n (f.set j v) := by
  refine ⟨by rw [List.length_set]; exact h.1, ?_⟩
  have := (h.2.stored j (.bool v)).1
  rw [List.map_set]
  exact this
theorem boX_frozen {B : Nat} {w : World} {g c n : Nat} {f : List Bool} (h : BoX B w g c n f) (j : Nat) : w.frozen? ⟨g, j, none⟩ = false := h.2.frozenAt j
theorem boX_far {B : Nat} {w : World} {g c n : Nat} {f : List Bool} (h : BoX B w g c n f) {p : Addr} (hp : p.block ≠ g) (v : Value) : BoX B (w.setCell p v) g c n f := ⟨h.1, gOwn_set h.2 p v (by simp [Value.ownBlock]; exact fun e => hp e.symm)⟩
theorem boX_alloc {B : Nat} {w : World} {g c n : Nat} {f : List Bool} (h : BoX B w g c n f) (o : Obj) : BoX B (w.alloc o) g c n f := ⟨h.1, World.ownsRow.alloc h.2 o⟩
theorem boX_of {B : Nat} {w : World} {ad : Option Addr} {c n : Nat} {f : List Bool} (hl : f.length = n) (h0 : 0 < n) (h : w.ownsRow B 4 1 (.slice ad n c) n (f.map Value.bool)) : ∃ g, ad = some ⟨g, 0, none⟩ ∧ BoX B w g c n f := by
  rcases h.2 with ⟨-, hz⟩ | ⟨g, cap, cur, hv, -⟩
  · omega
  · simp only [Value.slice.injEq] at hv
    obtain ⟨rfl, -, -⟩ := hv
    exact ⟨g, rfl, hl, h⟩
theorem bo_src {w : World} {b off : Nat} {f : List Bool} (h : ∀ j, j < f.length → w.cell? ⟨b, off + j, none⟩ = some (.bool (f[j]?.getD false))) : ∀ j u, (f.map Value.bool)[j]? = some u → w.cell? ((⟨b, off, none⟩ : Addr).add j) = some u := by
  intro j u hu
  have hadd : (⟨b, off, none⟩ : Addr).add j = ⟨b, off + j, none⟩ := by unfold Addr.add; split <;> simp_all
  have hj : j < f.length := by
    rcases Nat.lt_or_ge j f.length with h' | h'
    · exact h'
    · rw [List.getElem?_eq_none (by rw [List.length_map]; exact h')] at hu; cases hu
  rw [hadd, h j hj]
  rw [List.getElem?_map, List.getElem?_eq_getElem hj] at hu
  rw [List.getElem?_eq_getElem hj]
  exact hu
theorem bools_one (L : List Bool) : ∀ u ∈ L.map Value.bool, u.oneCell' = true := by
  intro u hu
  obtain ⟨z, -, rfl⟩ := List.mem_map.1 hu
  rfl
theorem set_at (f : List Bool) (j : Nat) (v : Bool) (hj : j < f.length) (b : Nat) : (f.set j v)[b]?.getD false = if b = j then v else f[b]?.getD false := by
  by_cases e : b = j
  · subst e; rw [if_pos rfl, List.getElem?_set_self hj]; rfl
  · rw [if_neg e, List.getElem?_set_ne (fun h => e h.symm)]
/-- What is reached from a row's places by R. -/
def Fwd (f g : List Bool) (m : Nat) (R : Nat → Nat → Prop) : Prop := ∀ b, b ≤ m → (g[b]?.getD false = true ↔ ∃ a, a ≤ m ∧ f[a]?.getD false = true ∧ R a b)
theorem fwd_congr {f g : List Bool} {m : Nat} {R R' : Nat → Nat → Prop} (h : Fwd f g m R) (hR : ∀ a b, R a b ↔ R' a b) : Fwd f g m R' := fun b hb => by
  rw [h b hb]
  constructor
  · rintro ⟨a, h1, h2, h3⟩; exact ⟨a, h1, h2, (hR a b).1 h3⟩
  · rintro ⟨a, h1, h2, h3⟩; exact ⟨a, h1, h2, (hR a b).2 h3⟩
end Go.Proofs.YtfohfljdgmlibaaDoor

/-
  Contracts: the places behind a node, by the specification.
-/
namespace Go.Proofs.YtfohfljdgmlibaaDoor
open Go.RowKit Go.Joins
set_option linter.unusedVariables false
set_option linter.unusedSimpArgs false
/-- An answer: the places behind. -/
def OnA (m : Nat) (R : Nat → Nat → Prop) (f : List Bool) (w : World) (r : Ending) (w' : World) : Prop := ∃ g c G, r = .returned (.slice (some ⟨g, 0, none⟩) ((m : Nat) + 1) c) ∧ BoX w.heap.size w' g c (m + 1) G ∧ Fwd f G m R ∧ Below w.heap.size w w'
theorem made_false (n : Nat) : (madeCells (Value.bool false).cells (n * 1)).toList = (List.replicate n false).map Value.bool := by
  rw [show (Value.bool false).cells = #[Value.bool false] from rfl, toList_madeCells_one]
  simp
theorem rep_false (n b : Nat) : (List.replicate n false)[b]?.getD false = false := by
  rcases Nat.lt_or_ge b n with h | h
  · rw [List.getElem?_replicate, if_pos h]; rfl
  · rw [List.getElem?_eq_none (by rw [List.length_replicate]; exact h)]; rfl
theorem nd_far {w : World} {G : Nat} {k : Int} {nm : ByteArray} {a : Option Addr} {n c : Nat} {oc : Int} (h : NdAt w G k nm a n c oc) {p : Addr} (hp : p.block ≠ G) (v : Value) : NdAt (w.setCell p v) G k nm a n c oc := by
  obtain ⟨T, h⟩ := h
  exact ⟨T, (heap_setCell_far w p v G hp).trans h⟩
theorem box_drew {B : Nat} {w : World} {g c n : Nat} {f : List Bool} (h : BoX B w g c n f) (q : Nat) : BoX B (w.drewN q) g c n f := h
theorem nd_drew {w : World} {G : Nat} {k : Int} {nm : ByteArray} {a : Option Addr} {n c : Nat} {oc : Int} (h : NdAt w G k nm a n c oc) (q : Nat) : NdAt (w.drewN q) G k nm a n c oc := h
theorem below_drew9 {b : Nat} {w w1 : World} (h : Below b w w1) (q : Nat) : Below b w (w1.drewN q) := h.trans ⟨rfl, rfl, rfl, Nat.le_refl _, fun _ _ => rfl⟩
theorem box_drew2 {B : Nat} {w : World} {g c n q : Nat} {f : List Bool} {p : Addr} {v : Value} (h : BoX B (w.setCell p v) g c n f) : BoX B ((w.drewN q).setCell p v) g c n f := h
theorem nd_drew2 {w : World} {G : Nat} {k : Int} {nm : ByteArray} {a : Option Addr} {n c q : Nat} {oc : Int} {p : Addr} {v : Value} (h : NdAt (w.setCell p v) G k nm a n c oc) : NdAt ((w.drewN q).setCell p v) G k nm a n c oc := h
theorem below_drew2 {b q : Nat} {w w1 : World} {p : Addr} {v : Value} (h : Below b w (w1.setCell p v)) : Below b w ((w1.drewN q).setCell p v) := ⟨h.os, h.tape, h.output, h.size, h.block⟩
set_option maxRecDepth 100000 in
set_option maxHeartbeats 8000000 in
theorem once_leaf1 (D : Pn) (n b0 off cap : Nat) (W : List ByteArray) (m : Nat) (b : Option Addr) (cq : Nat) (f : List Bool) (fa : Option Addr) (fc i : Nat) (w : World) (hRN : RN D n) (hi : i < n) (hKK : D.K i = 1) (hbs : b0 < w.heap.size) (hr : PnRow w b0 off D w.heap.size) (hW : W.length = m) (hm : m ≤ 200) (hq : TxAt w b W w.heap.size) (hf : f.length = m + 1) (hfa : BoAt w fa f w.heap.size) :
    Calls Tryd.prog 88 #[.slice (some ⟨b0, off, none⟩) n cap, .int .i64 i, .slice b m cq, .slice fa ((m : Nat) + 1) fc] w (OnA m (onc D W (en D W) i) f w) := by
  obtain ⟨i0, hi0, hz0, hz1, hz2⟩ := info_parts infoBo
  have HR := hide hr
  have HRN := hide hRN
  have HW := hide hW
  have HQ := hide hq
  have HF := hide hf
  have HFA := hide hfa
  have HKID := hide (hRN.2.2.2.1 i hi)
  have hll := hRN.2.2.2.2.2 i hi
  obtain ⟨ad, cp, hc, hat, hcp⟩ := hr i (by rw [hRN.1]; exact hi)
  obtain ⟨c0, c1, c2, c3⟩ := hc
  have hin : (i : Int) < (n : Int) := by omega
  have hi00 : (0 : Int) ≤ (i : Int) := by omega
  have HK := hide hKK
  obtain ⟨NM, hNM⟩ : ∃ NM, D.NM i = NM := ⟨_, rfl⟩
  obtain ⟨OC, hOC⟩ : ∃ OC, D.OC i = OC := ⟨_, rfl⟩
  obtain ⟨L, hL⟩ : ∃ L, D.KL i = L := ⟨_, rfl⟩
  have HNM := hide hNM
  have HL := hide hL
  rw [hKK] at c0
  rw [hNM] at c1
  rw [hL] at c2 hat HKID hll
  rw [hOC] at c3
  have HAT := hide hat
  clear hr hRN hW hq hf hfa hat hcp hKK hNM hOC hL
  have HON : Hid (∀ a b, onc D W (en D W) i a b ↔ b = a + 1 ∧ mtN D W i a) := hide (fun a b => by
    unfold onc
    rw [HK.out]
    constructor
    · rintro (⟨h, -⟩ | ⟨h, -⟩ | ⟨-, h⟩)
      · cases h
      · cases h
      · exact h
    · intro h; exact .inr (.inr ⟨by decide, h⟩))
  have HMP : Hid (∀ s, mtP D s i = (NM.toList == s.toList)) := hide (fun s => by
    unfold mtP
    rw [decide_eq_true (by rw [HRN.out.1]; exact hi), HK.out, HNM.out]
    rfl)
  go_enter Tryd.func88, Tryd.ntmps88
  go_wp2_with (first | (at_make; refine wpList_make_full _ rfl _ _ 90 rfl w.heap.size 4 i0 (.bool false) 1 Tryd.underlying90 hi0 hz0 hz1 .i64 .i64 _ _ (m + 1) rfl rfl (by go_num) (by go_num) (by rw [hz2]; omega) (by unfold maxLen; omega) (Nat.le_refl _) ?_; intro w1 hown hgrow; rw [made_false] at hown; have HX1 : Hid (BoX w.heap.size w1 w.heap.size (m + 1) (m + 1) (List.replicate (m + 1) false)) := hide ⟨by rw [List.length_replicate], hown⟩; have HB1 : Hid (Below w.heap.size w w1) := hide ((Below.refl _ _).grown hgrow (Nat.le_refl _) (fun k h => by cases h)); clear hown hgrow; have c0 := (HB1.out.cell (p := ⟨b0, off + i * 4, none⟩) hbs).trans c0; have c1 := (HB1.out.cell (p := ⟨b0, off + i * 4 + 1, none⟩) hbs).trans c1; have c2 := (HB1.out.cell (p := ⟨b0, off + i * 4 + 2, none⟩) hbs).trans c2; have c3 := (HB1.out.cell (p := ⟨b0, off + i * 4 + 3, none⟩) hbs).trans c3; have hb1l : b0 < w1.heap.size := Nat.lt_of_lt_of_le hbs HB1.out.size))
  obtain ⟨wy, hwy⟩ : ∃ wy, w1.alloc (.cells #[.int .i64 1, .string NM, .slice ad L.length cp, .int .i64 OC] 34) = wy := ⟨_, rfl⟩
  have HX2 := hide (boX_alloc HX1.out (.cells #[.int .i64 1, .string NM, .slice ad L.length cp, .int .i64 OC] 34))
  have HN2 := hide (ndAt_new w1 1 NM ad L.length cp OC 34)
  have HB2 := hide (HB1.out.alloc HB1.out.size (.cells #[.int .i64 1, .string NM, .slice ad L.length cp, .int .i64 OC] 34))
  rw [hwy] at HX2 HN2 HB2 ⊢
  obtain ⟨NB, hNB⟩ : ∃ NB, w1.heap.size = NB := ⟨_, rfl⟩
  have hNBg : w.heap.size < NB := by rw [← hNB]; exact (boX_at HX1.out).2.1
  rw [hNB] at HN2 ⊢
  clear hwy hNB c0 c1 c2 c3 HX1 HB1 hb1l
  go_loopw [11] (fun mv wr => ∃ (j : Nat) (G : List Bool), j ≤ m ∧ mv = .int .i64 j ∧ Hid (BoX w.heap.size wr w.heap.size (m + 1) (m + 1) G) ∧ Hid (NdAt wr NB 1 NM ad L.length cp OC) ∧ Hid (Below w.heap.size w wr) ∧ Hid (∀ b, b ≤ m → (G[b]?.getD false = true ↔ ∃ a, a < j ∧ f[a]?.getD false = true ∧ b = a + 1 ∧ mtN D W i a))) (fun mv _ => m - (intOf mv).toNat)
  case atStart => exact ⟨0, List.replicate (m + 1) false, Nat.zero_le _, rfl, HX2, HN2, HB2, hide (fun b hb => by rw [rep_false]; simp)⟩
  case round =>
    clear HX2 HN2 HB2
    obtain ⟨j, G, hj, rfl, HX, HN, HB, HA⟩ := hrel
    by_cases hlt : j < m
    · have hjW : j < W.length := by rw [HW.out]; exact hlt
      obtain ⟨fb, fo, rfl, hfb, hfc⟩ := bo_go HFA.out HB.out
      have f0 := hfc j (by rw [HF.out]; omega)
      obtain ⟨qb, qo, rfl, hqb, hqc⟩ := tx_cell (tx_go HQ.out HB.out) j hjW
      have q0 := hqc j hjW
      obtain ⟨a0, a1, a2, a3⟩ := ndAt_cells HN.out
      have hji : (j : Int) < (m : Int) := by omega
      have hj0 : (0 : Int) ≤ (j : Int) := by omega
      have hj1 : (j : Int) < ((m : Nat) + 1 : Int) := by omega
      have hj2 : (j : Int) + 1 < ((m : Nat) + 1 : Int) := by omega
      obtain ⟨S, hS⟩ : ∃ S, W[j]?.getD ⟨#[]⟩ = S := ⟨_, rfl⟩
      have HMJ : Hid (mtN D W i j ↔ (NM.toList == S.toList) = true) := hide (by
        unfold mtN
        rw [HMP.out]
        try rw [hS]
        exact ⟨fun h => h.2, fun h => ⟨hjW, h⟩⟩)
      rw [hS] at q0
      obtain ⟨hgl1, hgl2, hgl3⟩ := boX_at HX.out
      have g1 := hgl3 (j + 1) (by omega)
      have gz := boX_frozen HX.out (j + 1)
      have HNO : Hid (¬ (f[j]?.getD false = true ∧ mtN D W i j) → ∀ b, b ≤ m → (G[b]?.getD false = true ↔ ∃ a, a < j + 1 ∧ f[a]?.getD false = true ∧ b = a + 1 ∧ mtN D W i a)) := hide (fun hn b hb => by
        rw [HA.out b hb]
        constructor
        · rintro ⟨a, h1, h2⟩; exact ⟨a, by omega, h2⟩
        · rintro ⟨a, h1, h2, h3, h4⟩
          by_cases e : a = j
          · subst e; exact absurd ⟨h2, h4⟩ hn
          · exact ⟨a, by omega, h2, h3, h4⟩)
      have HYE : Hid (f[j]?.getD false = true → mtN D W i j → ∀ b, b ≤ m → ((G.set (j + 1) true)[b]?.getD false = true ↔ ∃ a, a < j + 1 ∧ f[a]?.getD false = true ∧ b = a + 1 ∧ mtN D W i a)) := hide (fun h8 h9 b hb => by
        rw [set_at G (j + 1) true (by rw [HX.out.1]; omega) b]
        by_cases e : b = j + 1
        · rw [if_pos e]
          exact ⟨fun _ => ⟨j, by omega, h8, e, h9⟩, fun _ => rfl⟩
        · rw [if_neg e, HA.out b hb]
          constructor
          · rintro ⟨a, h1, h2⟩; exact ⟨a, by omega, h2⟩
          · rintro ⟨a, h1, h2, h3, h4⟩
            by_cases e2 : a = j
            · subst e2; exact absurd h3 e
            · exact ⟨a, by omega, h2, h3, h4⟩)
      have HXS := hide (boX_set HX.out (j + 1) true)
      have hjt : ((j : Int) + 1).toNat = j + 1 := by omega
      have HNS := hide (show NdAt (wr.setCell ⟨w.heap.size, j + 1, none⟩ (.bool true)) NB 1 NM ad L.length cp OC from nd_far HN.out (by show w.heap.size ≠ NB; omega) _)
      have HBS := hide (HB.out.setCell (p := ⟨w.heap.size, j + 1, none⟩) (Nat.le_refl _) (.bool true))
      obtain ⟨fv, hfv⟩ : ∃ fv, f[j]?.getD false = fv := ⟨_, rfl⟩
      rw [hfv] at f0 HNO HYE
      clear hfc hqc hS hfv hgl3 hjW
      cases fv
      · go_wp2
        go_quiet (fail)
        go_wp2
        go_roundw
        case rel => exact ⟨j + 1, G, by omega, by go_num, hide (box_drew HX.out _), hide (nd_drew HN.out _), hide (below_drew9 HB.out _), hide (HNO.out (by rintro ⟨h, -⟩; cases h))⟩
        case measure => simp [intOf]; omega
      · cases hnn : (NM.toList == S.toList)
        · go_wp2
          go_quiet (fail)
          go_wp2
          go_roundw
          case rel => exact ⟨j + 1, G, by omega, by go_num, hide (box_drew HX.out _), hide (nd_drew HN.out _), hide (below_drew9 HB.out _), hide (HNO.out (by rintro ⟨-, h⟩; rw [HMJ.out] at h; rw [hnn] at h; cases h))⟩
          case measure => simp [intOf]; omega
        · go_wp2
          go_quiet (fail)
          go_wp2
          go_roundw
          case rel => exact ⟨j + 1, G.set (j + 1) true, by omega, by go_num, hide (box_drew2 HXS.out), hide (nd_drew2 HNS.out), hide (below_drew2 HBS.out), hide (HYE.out (by first | rfl | trivial) (HMJ.out.2 (by first | exact hnn | trivial)))⟩
          case measure => simp [intOf]; omega
    · have hjm : j = m := by omega
      subst hjm
      have HFW : Hid (Fwd f G j (onc D W (en D W) i)) := hide (fun b hb => by
        rw [HA.out b hb]
        constructor
        · rintro ⟨a, h1, h2, h3⟩; exact ⟨a, by omega, h2, (HON.out a b).2 h3⟩
        · rintro ⟨a, h1, h2, h3⟩
          have h4 := (HON.out a b).1 h3
          exact ⟨a, by omega, h2, h4⟩)
      go_wp2
      go_ret
      exact ⟨w.heap.size, j + 1, G, rfl, HX.out, HFW.out, HB.out⟩
set_option maxRecDepth 100000 in
set_option maxHeartbeats 8000000 in
theorem once_leaf4 (D : Pn) (n b0 off cap : Nat) (W : List ByteArray) (m : Nat) (b : Option Addr) (cq : Nat) (f : List Bool) (fa : Option Addr) (fc i : Nat) (w : World) (hRN : RN D n) (hi : i < n) (hKK : D.K i = 4) (hbs : b0 < w.heap.size) (hr : PnRow w b0 off D w.heap.size) (hW : W.length = m) (hm : m ≤ 200) (hq : TxAt w b W w.heap.size) (hf : f.length = m + 1) (hfa : BoAt w fa f w.heap.size) :
    Calls Tryd.prog 88 #[.slice (some ⟨b0, off, none⟩) n cap, .int .i64 i, .slice b m cq, .slice fa ((m : Nat) + 1) fc] w (OnA m (onc D W (en D W) i) f w) := by
  obtain ⟨i0, hi0, hz0, hz1, hz2⟩ := info_parts infoBo
  have HR := hide hr
  have HRN := hide hRN
  have HW := hide hW
  have HQ := hide hq
  have HF := hide hf
  have HFA := hide hfa
  have HKID := hide (hRN.2.2.2.1 i hi)
  have hll := hRN.2.2.2.2.2 i hi
  obtain ⟨ad, cp, hc, hat, hcp⟩ := hr i (by rw [hRN.1]; exact hi)
  obtain ⟨c0, c1, c2, c3⟩ := hc
  have hin : (i : Int) < (n : Int) := by omega
  have hi00 : (0 : Int) ≤ (i : Int) := by omega
  have HK := hide hKK
  obtain ⟨NM, hNM⟩ : ∃ NM, D.NM i = NM := ⟨_, rfl⟩
  obtain ⟨OC, hOC⟩ : ∃ OC, D.OC i = OC := ⟨_, rfl⟩
  obtain ⟨L, hL⟩ : ∃ L, D.KL i = L := ⟨_, rfl⟩
  have HNM := hide hNM
  have HL := hide hL
  rw [hKK] at c0
  rw [hNM] at c1
  rw [hL] at c2 hat HKID hll
  rw [hOC] at c3
  have HAT := hide hat
  clear hr hRN hW hq hf hfa hat hcp hKK hNM hOC hL
  have HON : Hid (∀ a b, onc D W (en D W) i a b ↔ b = a + 1 ∧ mtN D W i a) := hide (fun a b => by
    unfold onc
    rw [HK.out]
    constructor
    · rintro (⟨h, -⟩ | ⟨h, -⟩ | ⟨-, h⟩)
      · cases h
      · cases h
      · exact h
    · intro h; exact .inr (.inr ⟨by decide, h⟩))
  have HMP : Hid (∀ s, mtP D s i = true) := hide (fun s => by
    unfold mtP
    rw [decide_eq_true (by rw [HRN.out.1]; exact hi), HK.out, HNM.out]
    rfl)
  go_enter Tryd.func88, Tryd.ntmps88
  go_wp2_with (first | (at_make; refine wpList_make_full _ rfl _ _ 90 rfl w.heap.size 4 i0 (.bool false) 1 Tryd.underlying90 hi0 hz0 hz1 .i64 .i64 _ _ (m + 1) rfl rfl (by go_num) (by go_num) (by rw [hz2]; omega) (by unfold maxLen; omega) (Nat.le_refl _) ?_; intro w1 hown hgrow; rw [made_false] at hown; have HX1 : Hid (BoX w.heap.size w1 w.heap.size (m + 1) (m + 1) (List.replicate (m + 1) false)) := hide ⟨by rw [List.length_replicate], hown⟩; have HB1 : Hid (Below w.heap.size w w1) := hide ((Below.refl _ _).grown hgrow (Nat.le_refl _) (fun k h => by cases h)); clear hown hgrow; have c0 := (HB1.out.cell (p := ⟨b0, off + i * 4, none⟩) hbs).trans c0; have c1 := (HB1.out.cell (p := ⟨b0, off + i * 4 + 1, none⟩) hbs).trans c1; have c2 := (HB1.out.cell (p := ⟨b0, off + i * 4 + 2, none⟩) hbs).trans c2; have c3 := (HB1.out.cell (p := ⟨b0, off + i * 4 + 3, none⟩) hbs).trans c3; have hb1l : b0 < w1.heap.size := Nat.lt_of_lt_of_le hbs HB1.out.size))
  obtain ⟨wy, hwy⟩ : ∃ wy, w1.alloc (.cells #[.int .i64 4, .string NM, .slice ad L.length cp, .int .i64 OC] 34) = wy := ⟨_, rfl⟩
  have HX2 := hide (boX_alloc HX1.out (.cells #[.int .i64 4, .string NM, .slice ad L.length cp, .int .i64 OC] 34))
  have HN2 := hide (ndAt_new w1 4 NM ad L.length cp OC 34)
  have HB2 := hide (HB1.out.alloc HB1.out.size (.cells #[.int .i64 4, .string NM, .slice ad L.length cp, .int .i64 OC] 34))
  rw [hwy] at HX2 HN2 HB2 ⊢
  obtain ⟨NB, hNB⟩ : ∃ NB, w1.heap.size = NB := ⟨_, rfl⟩
  have hNBg : w.heap.size < NB := by rw [← hNB]; exact (boX_at HX1.out).2.1
  rw [hNB] at HN2 ⊢
  clear hwy hNB c0 c1 c2 c3 HX1 HB1 hb1l
  go_loopw [11] (fun mv wr => ∃ (j : Nat) (G : List Bool), j ≤ m ∧ mv = .int .i64 j ∧ Hid (BoX w.heap.size wr w.heap.size (m + 1) (m + 1) G) ∧ Hid (NdAt wr NB 4 NM ad L.length cp OC) ∧ Hid (Below w.heap.size w wr) ∧ Hid (∀ b, b ≤ m → (G[b]?.getD false = true ↔ ∃ a, a < j ∧ f[a]?.getD false = true ∧ b = a + 1 ∧ mtN D W i a))) (fun mv _ => m - (intOf mv).toNat)
  case atStart => exact ⟨0, List.replicate (m + 1) false, Nat.zero_le _, rfl, HX2, HN2, HB2, hide (fun b hb => by rw [rep_false]; simp)⟩
  case round =>
    clear HX2 HN2 HB2
    obtain ⟨j, G, hj, rfl, HX, HN, HB, HA⟩ := hrel
    by_cases hlt : j < m
    · have hjW : j < W.length := by rw [HW.out]; exact hlt
      obtain ⟨fb, fo, rfl, hfb, hfc⟩ := bo_go HFA.out HB.out
      have f0 := hfc j (by rw [HF.out]; omega)
      obtain ⟨qb, qo, rfl, hqb, hqc⟩ := tx_cell (tx_go HQ.out HB.out) j hjW
      have q0 := hqc j hjW
      obtain ⟨a0, a1, a2, a3⟩ := ndAt_cells HN.out
      have hji : (j : Int) < (m : Int) := by omega
      have hj0 : (0 : Int) ≤ (j : Int) := by omega
      have hj1 : (j : Int) < ((m : Nat) + 1 : Int) := by omega
      have hj2 : (j : Int) + 1 < ((m : Nat) + 1 : Int) := by omega
      obtain ⟨S, hS⟩ : ∃ S, W[j]?.getD ⟨#[]⟩ = S := ⟨_, rfl⟩
      have HMJ : Hid (mtN D W i j ↔ true = true) := hide (by
        unfold mtN
        rw [HMP.out]
        try rw [hS]
        exact ⟨fun h => h.2, fun h => ⟨hjW, h⟩⟩)
      rw [hS] at q0
      obtain ⟨hgl1, hgl2, hgl3⟩ := boX_at HX.out
      have g1 := hgl3 (j + 1) (by omega)
      have gz := boX_frozen HX.out (j + 1)
      have HNO : Hid (¬ (f[j]?.getD false = true ∧ mtN D W i j) → ∀ b, b ≤ m → (G[b]?.getD false = true ↔ ∃ a, a < j + 1 ∧ f[a]?.getD false = true ∧ b = a + 1 ∧ mtN D W i a)) := hide (fun hn b hb => by
        rw [HA.out b hb]
        constructor
        · rintro ⟨a, h1, h2⟩; exact ⟨a, by omega, h2⟩
        · rintro ⟨a, h1, h2, h3, h4⟩
          by_cases e : a = j
          · subst e; exact absurd ⟨h2, h4⟩ hn
          · exact ⟨a, by omega, h2, h3, h4⟩)
      have HYE : Hid (f[j]?.getD false = true → mtN D W i j → ∀ b, b ≤ m → ((G.set (j + 1) true)[b]?.getD false = true ↔ ∃ a, a < j + 1 ∧ f[a]?.getD false = true ∧ b = a + 1 ∧ mtN D W i a)) := hide (fun h8 h9 b hb => by
        rw [set_at G (j + 1) true (by rw [HX.out.1]; omega) b]
        by_cases e : b = j + 1
        · rw [if_pos e]
          exact ⟨fun _ => ⟨j, by omega, h8, e, h9⟩, fun _ => rfl⟩
        · rw [if_neg e, HA.out b hb]
          constructor
          · rintro ⟨a, h1, h2⟩; exact ⟨a, by omega, h2⟩
          · rintro ⟨a, h1, h2, h3, h4⟩
            by_cases e2 : a = j
            · subst e2; exact absurd h3 e
            · exact ⟨a, by omega, h2, h3, h4⟩)
      have HXS := hide (boX_set HX.out (j + 1) true)
      have hjt : ((j : Int) + 1).toNat = j + 1 := by omega
      have HNS := hide (show NdAt (wr.setCell ⟨w.heap.size, j + 1, none⟩ (.bool true)) NB 4 NM ad L.length cp OC from nd_far HN.out (by show w.heap.size ≠ NB; omega) _)
      have HBS := hide (HB.out.setCell (p := ⟨w.heap.size, j + 1, none⟩) (Nat.le_refl _) (.bool true))
      obtain ⟨fv, hfv⟩ : ∃ fv, f[j]?.getD false = fv := ⟨_, rfl⟩
      rw [hfv] at f0 HNO HYE
      clear hfc hqc hS hfv hgl3 hjW
      cases fv
      · go_wp2
        go_quiet (fail)
        go_wp2
        go_roundw
        case rel => exact ⟨j + 1, G, by omega, by go_num, hide (box_drew HX.out _), hide (nd_drew HN.out _), hide (below_drew9 HB.out _), hide (HNO.out (by rintro ⟨h, -⟩; cases h))⟩
        case measure => simp [intOf]; omega
      · go_wp2
        go_quiet (fail)
        go_wp2
        go_roundw
        case rel => exact ⟨j + 1, G.set (j + 1) true, by omega, by go_num, hide (box_drew2 HXS.out), hide (nd_drew2 HNS.out), hide (below_drew2 HBS.out), hide (HYE.out (by first | rfl | trivial) (HMJ.out.2 (by first | rfl | trivial)))⟩
        case measure => simp [intOf]; omega
    · have hjm : j = m := by omega
      subst hjm
      have HFW : Hid (Fwd f G j (onc D W (en D W) i)) := hide (fun b hb => by
        rw [HA.out b hb]
        constructor
        · rintro ⟨a, h1, h2, h3⟩; exact ⟨a, by omega, h2, (HON.out a b).2 h3⟩
        · rintro ⟨a, h1, h2, h3⟩
          have h4 := (HON.out a b).1 h3
          exact ⟨a, by omega, h2, h4⟩)
      go_wp2
      go_ret
      exact ⟨w.heap.size, j + 1, G, rfl, HX.out, HFW.out, HB.out⟩
end Go.Proofs.YtfohfljdgmlibaaDoor
