/-
  Contracts of the specification: what a node takes, from a row of places to a row of places: nothing, a class.
-/
import Derived.Test.YtbijilnbbbicmaaDoorMsM
import Derived.Test.YtbijilnbbbicmaaDoorMaA
import Derived.Test.YtbijilnbbbicmaaDoorAppAny
import Derived.Test.YtbijilnbbbicmaaDoorRunesLaw0
import Derived.Test.YtbijilnbbbicmaaDoorRxS
import Derived.Deep.RegionHeld3
import Derived.Deep.DeepCutAuto
namespace Go.Proofs.YtbijilnbbbicmaaDoor
open Go.RowKit Go.Joins
set_option linter.unusedVariables false
set_option linter.unusedSimpArgs false
def StA (m : Nat) (R : Nat → Nat → Prop) (f : List Bool) (w : World) (e : Ending) (w' : World) : Prop := ∃ g c G, e = .returned (.slice (some ⟨g, 0, none⟩) ((m : Nat) + 1) c) ∧ BoX w.heap.size w' g c (m + 1) G ∧ Fwd f G m R ∧ Below w.heap.size w w'
/-- What a node takes. -/
def StC (X : Rx) (C : List Int) (len m b off cap : Nat) (sa : Option Addr) (sc n : Nat) : Prop := ∀ (f : List Bool) (fa : Option Addr) (fc : Nat) (w : World), b < w.heap.size → RxRow w b off X w.heap.size → RowAt .i64 w sa C w.heap.size → f.length = m + 1 → BoAt w fa f w.heap.size →
  Calls Tryd.prog 12 #[.slice (some ⟨b, off, none⟩) len cap, .int .i64 n, .slice sa m sc, .slice fa ((m : Nat) + 1) fc] w (StA m (tkX X (clX X C) n) f w)
theorem ms_own {B : Nat} {w : World} (hB : B ≤ w.heap.size) : (w.alloc (.cells #[] 4)).ownsRow B 4 1 (.slice (some ⟨w.heap.size, 0, none⟩) 0 0) 0 [] := World.ownsRow_made (base := B) (e := 4) (size := 1) w #[] 0 hB (Nat.zero_le _) rfl
theorem row_go9 {w w' : World} {a : Option Addr} {xs : List Int} (h : RowAt .i64 w a xs w.heap.size) (k : Below w.heap.size w w') : RowAt .i64 w' a xs w'.heap.size := fun h0 => by
  obtain ⟨b, off, e, hb, hc⟩ := h h0
  exact ⟨b, off, e, Nat.lt_of_lt_of_le hb k.size, fun j hj => (k.cell (p := ⟨b, off + j, none⟩) hb).trans (hc j hj)⟩
theorem bx_go {w w' : World} {G : Nat} {kd : Int} {nt : Bool} {a : Option Addr} {n c : Nat} {A B mn mx : Int} (h : BX w G kd nt a n c A B mn mx) (k : Below w.heap.size w w') : BX w' G kd nt a n c A B mn mx := (k.block G (Array.getElem?_eq_some_iff.1 h).1).trans h
theorem bx_set {w : World} {G : Nat} {kd : Int} {nt : Bool} {a : Option Addr} {n c : Nat} {A B mn mx : Int} (h : BX w G kd nt a n c A B mn mx) {p : Addr} (hp : p.block ≠ G) (v : Value) : BX (w.setCell p v) G kd nt a n c A B mn mx := (heap_setCell_far w p v G hp).trans h
theorem bx_lt {w : World} {G : Nat} {kd : Int} {nt : Bool} {a : Option Addr} {n c : Nat} {A B mn mx : Int} (h : BX w G kd nt a n c A B mn mx) : G < w.heap.size := (Array.getElem?_eq_some_iff.1 h).1
/-- A copy of a row of truth values. -/
theorem ms_copy {ops : Array Oper} {rest : List Oper} {o : Oper} {a : Act} {Q : Exit → Act → World → Prop} (w : World) (hg : o.guard = none) (x y : Operand) (hop : o.op = Op.call { callee := Callee.builtin Builtin.append, args := #[x, y], argTypes := #[37, 37] }) (m : Nat) (hm : m ≤ 300) (W0 : World) (hW : w = W0.alloc (.cells #[] 4)) (hx : a.eval x = .slice (some ⟨W0.heap.size, 0, none⟩) 0 0) (f : List Bool) (hf : f.length = m + 1) (fa : Option Addr) (fc : Nat) (hy : a.eval y = .slice fa ((m : Nat) + 1) fc) (hfa : BoAt W0 fa f W0.heap.size)
    (hK : ∀ g c w9, BoX W0.heap.size w9 g c (m + 1) f → Below W0.heap.size W0 w9 → wpList Tryd.prog ops Q rest (a.put o.dst (.slice (some ⟨g, 0, none⟩) ((m : Nat) + 1) c)) w9) : wpList Tryd.prog ops Q (o :: rest) a w := by
  subst hW
  obtain ⟨fb, fo, rfl, hfb, hfc⟩ := hfa
  obtain ⟨i0, hi0, hz0, hz1, hz2⟩ := info_parts infoBo
  refine wpList_append_src hg x y 37 hop W0.heap.size 4 i0 (.bool false) 1 1 Tryd.underlying37 hi0 hz0 hz1 hz2 rfl (by decide) (.slice (some ⟨W0.heap.size, 0, none⟩) 0 0) 0 [] hx (ms_own (Nat.le_refl _)) (some ⟨fb, fo, none⟩) (m + 1) fc (f.map Value.bool) hy (by rw [List.length_map, Nat.mul_one, hf]) (fun _ => ⟨_, rfl, bo_src (fun j hj => (((Below.refl W0.heap.size W0).alloc (Nat.le_refl _) _).cell (p := ⟨fb, fo + j, none⟩) hfb).trans (hfc j hj))⟩) (bools_one _) (by unfold maxLen; omega) (by omega) (by simp) ?_
  intro a9 c9 w9 hown9 hgr9
  rw [Nat.zero_add, List.nil_append] at hown9
  obtain ⟨g9, rfl, hx9⟩ := boX_of hf (by omega) hown9
  rw [Nat.zero_add]
  exact hK g9 c9 w9 hx9 (((Below.refl W0.heap.size W0).alloc (Nat.le_refl _) _).grown hgr9 (by simp) (fun k hk => by have h9 : W0.heap.size = k := (by simpa [Value.ownBlock] using hk); omega))
set_option maxRecDepth 100000 in
set_option maxHeartbeats 8000000 in
theorem t_empty (X : Rx) (C : List Int) (len m : Nat) (hX : X.len = len) (hlen : len ≤ 120) (hC : C.length = m) (hm : m ≤ 300) (b off cap : Nat) (sa : Option Addr) (sc n : Nat) (hn : n < len) (f : List Bool) (fa : Option Addr) (fc : Nat) (w : World) (hb : b < w.heap.size) (hr : RxRow w b off X w.heap.size) (hsr : RowAt .i64 w sa C w.heap.size) (hf : f.length = m + 1) (hfa : BoAt w fa f w.heap.size) (hk : X.K n = 1) :
    Calls Tryd.prog 12 #[.slice (some ⟨b, off, none⟩) len cap, .int .i64 n, .slice sa m sc, .slice fa ((m : Nat) + 1) fc] w (StA m (tkX X (clX X C) n) f w) := by
  obtain ⟨i0, hi0, hz0, hz1, hz2⟩ := info_parts infoBo
  have HR := hide hr
  have HSR := hide hsr
  have HF := hide hf
  have HFA := hide hfa
  have HCL := hide hC
  obtain ⟨ad, cp, hc, hrg⟩ := hr n (by rw [hX]; exact hn)
  obtain ⟨c0, c1, c2, c3, c4, c5, c6⟩ := hc
  have HRg := hide hrg
  have hin : (n : Int) < (len : Int) := by omega
  have hin0 : (0 : Int) ≤ (n : Int) := by omega
  rw [hk] at c0
  have HT : Hid (tkX X (clX X C) n = fun i j => i = j) := hide (tk_empty hk)
  clear hr hsr hf hfa hC hrg hk
  go_enter Tryd.func12, Tryd.ntmps12
  go_upto_region 5 with (first | (at_make; refine wpList_make_full _ rfl _ _ 37 rfl w.heap.size 4 i0 (.bool false) 1 Tryd.underlying37 hi0 hz0 hz1 .i64 .i64 _ _ (m + 1) rfl rfl (by go_num) (by go_num) (by rw [hz2]; omega) (by unfold maxLen; omega) (Nat.le_refl _) ?_; intro w1 hown hgrow; rw [ms_made] at hown; have HX1 : Hid (BoX w.heap.size w1 w.heap.size (m + 1) (m + 1) (List.replicate (m + 1) false)) := hide ⟨by rw [List.length_replicate], hown⟩; have HB1 : Hid (Below w.heap.size w w1) := hide ((Below.refl _ _).grown hgrow (Nat.le_refl _) (fun k h => by cases h)); clear hown hgrow; have c0 := (HB1.out.cell (p := ⟨b, off + n * 7, none⟩) hb).trans c0; have c1 := (HB1.out.cell (p := ⟨b, off + n * 7 + 1, none⟩) hb).trans c1; have c2 := (HB1.out.cell (p := ⟨b, off + n * 7 + 2, none⟩) hb).trans c2; have c3 := (HB1.out.cell (p := ⟨b, off + n * 7 + 3, none⟩) hb).trans c3; have c4 := (HB1.out.cell (p := ⟨b, off + n * 7 + 4, none⟩) hb).trans c4; have c5 := (HB1.out.cell (p := ⟨b, off + n * 7 + 5, none⟩) hb).trans c5; have c6 := (HB1.out.cell (p := ⟨b, off + n * 7 + 6, none⟩) hb).trans c6; have hb1l : b < w1.heap.size := Nat.lt_of_lt_of_le hb HB1.out.size))
  obtain ⟨wy, hwy⟩ : ∃ wy, w1.alloc (.cells #[.int .i64 1, .bool (X.NT n), .slice ad (X.NR n) cp, .int .i64 (X.A n), .int .i64 (X.B n), .int .i64 (X.MN n), .int .i64 (X.MX n)] 41) = wy := ⟨_, rfl⟩
  have HB2 := hide (HB1.out.alloc HB1.out.size (.cells #[.int .i64 1, .bool (X.NT n), .slice ad (X.NR n) cp, .int .i64 (X.A n), .int .i64 (X.B n), .int .i64 (X.MN n), .int .i64 (X.MX n)] 41))
  rw [hwy] at HB2 ⊢
  clear hwy c0 c1 c2 c3 c4 c5 c6 HX1 HB1 hb1l
  go_wp2_with (at_builtin; refine ms_copy _ (by rfl) _ _ (by rfl) m hm wy rfl (by rfl) f HF.out fa fc (by rfl) (bo_up (bo_go HFA.out HB2.out) HB2.out.size) ?_; intro g9 c9 w9 hx9 hb9; have HX9 := hide hx9; have HB9 := hide (HB2.out.trans (hb9.mono HB2.out.size)); clear hx9 hb9)
  go_ret
  exact ⟨g9, c9, f, rfl, boX_low HX9.out HB2.out.size, by rw [HT.out]; exact fwd_eq f m, HB9.out⟩
set_option maxRecDepth 100000 in
set_option maxHeartbeats 8000000 in
theorem t_class (X : Rx) (C : List Int) (len m : Nat) (hX : X.len = len) (hlen : len ≤ 120) (hC : C.length = m) (hm : m ≤ 300) (b off cap : Nat) (sa : Option Addr) (sc n : Nat) (hn : n < len) (f : List Bool) (fa : Option Addr) (fc : Nat) (w : World) (hb : b < w.heap.size) (hr : RxRow w b off X w.heap.size) (hsr : RowAt .i64 w sa C w.heap.size) (hf : f.length = m + 1) (hfa : BoAt w fa f w.heap.size) (hk : X.K n = 2) (hno : nodeX X n = true) (hnr : X.NR n ≤ maxLen) :
    Calls Tryd.prog 12 #[.slice (some ⟨b, off, none⟩) len cap, .int .i64 n, .slice sa m sc, .slice fa ((m : Nat) + 1) fc] w (StA m (tkX X (clX X C) n) f w) := by
  obtain ⟨i0, hi0, hz0, hz1, hz2⟩ := info_parts infoBo
  have HR := hide hr
  have HSR := hide hsr
  have HF := hide hf
  have HFA := hide hfa
  have HCL := hide hC
  obtain ⟨ad, cp, hc, hrg⟩ := hr n (by rw [hX]; exact hn)
  obtain ⟨c0, c1, c2, c3, c4, c5, c6⟩ := hc
  have HRg := hide hrg
  have hin : (n : Int) < (len : Int) := by omega
  have hin0 : (0 : Int) ≤ (n : Int) := by omega
  have HCV : Hid (∀ r, clsB 2 (X.NT n) (X.NR n) (X.L n) (X.H n) (X.A n) (X.B n) (X.MN n) (X.MX n) r = inC (X.NT n) (X.NR n) (X.L n) (X.H n) r) := hide (fun r => by
    unfold nodeX at hno
    rw [hk] at hno
    unfold clsB inC
    rw [if_pos rfl, hno, Bool.true_and])
  rw [hk] at c0
  have HT : Hid (tkX X (clX X C) n = fun i j => j = i + 1 ∧ clX X C n i = true) := hide (tk_class hk)
  clear hr hsr hf hfa hC hrg hk hno
  go_enter Tryd.func12, Tryd.ntmps12
  go_wp2_with (first | (at_make; refine wpList_make_full _ rfl _ _ 37 rfl w.heap.size 4 i0 (.bool false) 1 Tryd.underlying37 hi0 hz0 hz1 .i64 .i64 _ _ (m + 1) rfl rfl (by go_num) (by go_num) (by rw [hz2]; omega) (by unfold maxLen; omega) (Nat.le_refl _) ?_; intro w1 hown hgrow; rw [ms_made] at hown; have HX1 : Hid (BoX w.heap.size w1 w.heap.size (m + 1) (m + 1) (List.replicate (m + 1) false)) := hide ⟨by rw [List.length_replicate], hown⟩; have HB1 : Hid (Below w.heap.size w w1) := hide ((Below.refl _ _).grown hgrow (Nat.le_refl _) (fun k h => by cases h)); clear hown hgrow; have c0 := (HB1.out.cell (p := ⟨b, off + n * 7, none⟩) hb).trans c0; have c1 := (HB1.out.cell (p := ⟨b, off + n * 7 + 1, none⟩) hb).trans c1; have c2 := (HB1.out.cell (p := ⟨b, off + n * 7 + 2, none⟩) hb).trans c2; have c3 := (HB1.out.cell (p := ⟨b, off + n * 7 + 3, none⟩) hb).trans c3; have c4 := (HB1.out.cell (p := ⟨b, off + n * 7 + 4, none⟩) hb).trans c4; have c5 := (HB1.out.cell (p := ⟨b, off + n * 7 + 5, none⟩) hb).trans c5; have c6 := (HB1.out.cell (p := ⟨b, off + n * 7 + 6, none⟩) hb).trans c6; have hb1l : b < w1.heap.size := Nat.lt_of_lt_of_le hb HB1.out.size))
  obtain ⟨wy, hwy⟩ : ∃ wy, w1.alloc (.cells #[.int .i64 2, .bool (X.NT n), .slice ad (X.NR n) cp, .int .i64 (X.A n), .int .i64 (X.B n), .int .i64 (X.MN n), .int .i64 (X.MX n)] 41) = wy := ⟨_, rfl⟩
  have HX2 := hide (boX_alloc HX1.out (.cells #[.int .i64 2, .bool (X.NT n), .slice ad (X.NR n) cp, .int .i64 (X.A n), .int .i64 (X.B n), .int .i64 (X.MN n), .int .i64 (X.MX n)] 41))
  have HN2 := hide (bx_new w1 2 (X.NT n) ad (X.NR n) cp (X.A n) (X.B n) (X.MN n) (X.MX n))
  have HB2 := hide (HB1.out.alloc HB1.out.size (.cells #[.int .i64 2, .bool (X.NT n), .slice ad (X.NR n) cp, .int .i64 (X.A n), .int .i64 (X.B n), .int .i64 (X.MN n), .int .i64 (X.MX n)] 41))
  rw [hwy] at HX2 HN2 HB2 ⊢
  obtain ⟨NB, hNB⟩ : ∃ NB, w1.heap.size = NB := ⟨_, rfl⟩
  have hNBg : w.heap.size < NB := by rw [← hNB]; exact (boX_at HX1.out).2.1
  rw [hNB] at HN2 ⊢
  clear hwy hNB c0 c1 c2 c3 c4 c5 c6 HX1 HB1 hb1l
  go_loopw [11] (fun mv wr => ∃ (i : Nat) (G : List Bool), i ≤ m ∧ mv = .int .i64 i ∧ Hid (BoX w.heap.size wr w.heap.size (m + 1) (m + 1) G) ∧ Hid (BX wr NB 2 (X.NT n) ad (X.NR n) cp (X.A n) (X.B n) (X.MN n) (X.MX n)) ∧ Hid (Below w.heap.size w wr) ∧ Hid (∀ b, b ≤ m → (G[b]?.getD false = true ↔ ∃ a, a < i ∧ b = a + 1 ∧ f[a]?.getD false = true ∧ clX X C n a = true))) (fun mv _ => m - (intOf mv).toNat)
  case atStart => exact ⟨0, List.replicate (m + 1) false, Nat.zero_le _, rfl, HX2, HN2, HB2, hide (fun b hb => (by rw [ms_rep]; exact ⟨fun e => (by cases e), fun e => (by obtain ⟨a, ha, -⟩ := e; omega)⟩))⟩
  case round =>
    clear HX2 HN2 HB2
    obtain ⟨i, G, hi, rfl, HX, HN, HB, HA⟩ := hrel
    by_cases hlt : i < m
    · obtain ⟨fb, fo, rfl, hfb, hfc⟩ := bo_go HFA.out HB.out
      obtain ⟨sb, so, rfl, hsb, hsc⟩ := HSR.out (by intro e; have := HCL.out; rw [e] at this; simp at this; omega)
      have u0 := hfc i (by rw [HF.out]; omega)
      obtain ⟨ch, hch⟩ : ∃ ch, C[i]?.getD 0 = ch := ⟨_, rfl⟩
      have v0 : wr.cell? ⟨sb, so + i, none⟩ = some (.int .i64 ch) := (HB.out.cell (p := ⟨sb, so + i, none⟩) hsb).trans (by rw [hsc i (by rw [HCL.out]; exact hlt), hch])
      have HCH : Hid (clX X C n i = inC (X.NT n) (X.NR n) (X.L n) (X.H n) ch) := hide (by rw [clX_at (by rw [HCL.out]; exact hlt), hch])
      obtain ⟨a0, a1, a2, a3, a4, a5, a6⟩ := nodeAt_cells (bx_nd HN.out)
      have hii : (i : Int) < (m : Int) := by omega
      have hii1 : (i : Int) < ((m : Nat) + 1 : Int) := by omega
      have hii2 : (i : Int) + 1 < ((m : Nat) + 1 : Int) := by omega
      have hii0 : (0 : Int) ≤ (i : Int) := by omega
      have hfw := HB.out.size
      have hNBw := bx_lt HN.out
      have hst : Hid (BoX w.heap.size (wr.setCell ⟨w.heap.size, i + 1, none⟩ (.bool true)) w.heap.size (m + 1) (m + 1) (G.set (i + 1) true)) := hide (boX_set HX.out (i + 1) true)
      clear hfc hsc hch
      cases hfi : f[i]?.getD false
      · rw [hfi] at u0
        have HFI : Hid (f[i]?.getD false = false) := hide hfi
        clear hfi
        go_wp2
        go_big_quiet (fail)
        go_wp2
        go_roundw
        case rel =>
          refine ⟨i + 1, G, by omega, by go_num, hide (boX_go HX.out (drew_below _ _)), hide (bx_go HN.out (drew_below _ _)), hide (HB.out.trans ((drew_below _ _).mono HB.out.size)), hide (fun b hb => ?_)⟩
          rw [HA.out b hb]
          constructor
          · rintro ⟨a, h1, h2⟩; exact ⟨a, by omega, h2⟩
          · rintro ⟨a, h1, h2, h3, h4⟩
            by_cases e : a = i
            · subst e; rw [HFI.out] at h3; cases h3
            · exact ⟨a, by omega, h2, h3, h4⟩
        case measure => simp [intOf]; omega
      · rw [hfi] at u0
        have HFI : Hid (f[i]?.getD false = true) := hide hfi
        have HKS : Hid (∀ W9, Below wr.heap.size wr W9 → Below wr.heap.size wr W9 ∧ W9.cell? ⟨fb, fo + i, none⟩ = some (.bool true) ∧ W9.cell? ⟨sb, so + i, none⟩ = some (.int .i64 ch) ∧ W9.cell? ⟨NB, 0, none⟩ = some (.int .i64 2) ∧ W9.cell? ⟨NB, 1, none⟩ = some (.bool (X.NT n)) ∧ W9.cell? ⟨NB, 2, none⟩ = some (.slice ad (X.NR n) cp) ∧ W9.cell? ⟨NB, 3, none⟩ = some (.int .i64 (X.A n)) ∧ W9.cell? ⟨NB, 4, none⟩ = some (.int .i64 (X.B n)) ∧ W9.cell? ⟨NB, 5, none⟩ = some (.int .i64 (X.MN n)) ∧ W9.cell? ⟨NB, 6, none⟩ = some (.int .i64 (X.MX n))) := hide (fun W9 h9 => by
          obtain ⟨z0, z1, z2, z3, z4, z5, z6⟩ := nodeAt_cells (bx_nd (bx_go HN.out h9))
          exact ⟨h9, (h9.cell (p := ⟨fb, fo + i, none⟩) (by show fb < _; omega)).trans u0, (h9.cell (p := ⟨sb, so + i, none⟩) (by show sb < _; omega)).trans v0, z0, z1, z2, z3, z4, z5, z6⟩)
        have CI := hide (fun W9 (h9 : Below wr.heap.size wr W9) => s_class 2 (X.NT n) ad (X.NR n) cp (X.A n) (X.B n) (X.MN n) (X.MX n) (X.L n) (X.H n) ch W9 hnr (rngAt_up (rngAt_go (rngAt_up (rngAt_go HRg.out HB.out) HB.out.size) h9) h9.size))
        rw [HCV.out ch, ← HCH.out] at CI
        obtain ⟨dv, hd⟩ : ∃ dv, clX X C n i = dv := ⟨_, rfl⟩
        rw [hd] at CI
        have HD := hide hd
        have XX : Hid (Below wr.heap.size wr wr.drew) := hide ⟨rfl, rfl, rfl, Nat.le_refl _, fun _ _ => rfl⟩
        clear hd hfi
        go_wp2
        go_cut [53] (fun v wx => v = .bool dv ∧ Hid (Below wr.heap.size wr wx))
        case first =>
          go_region_held3 (fun W9 => Below wr.heap.size wr W9 ∧ W9.cell? ⟨fb, fo + i, none⟩ = some (.bool true) ∧ W9.cell? ⟨sb, so + i, none⟩ = some (.int .i64 ch) ∧ W9.cell? ⟨NB, 0, none⟩ = some (.int .i64 2) ∧ W9.cell? ⟨NB, 1, none⟩ = some (.bool (X.NT n)) ∧ W9.cell? ⟨NB, 2, none⟩ = some (.slice ad (X.NR n) cp) ∧ W9.cell? ⟨NB, 3, none⟩ = some (.int .i64 (X.A n)) ∧ W9.cell? ⟨NB, 4, none⟩ = some (.int .i64 (X.B n)) ∧ W9.cell? ⟨NB, 5, none⟩ = some (.int .i64 (X.MN n)) ∧ W9.cell? ⟨NB, 6, none⟩ = some (.int .i64 (X.MX n))) (first | assumption | exact HKS.out _ XX.out) (first | (go_at_call 23; refine (CI.out _ XX.out).mono ?_; rintro e w9 ⟨rfl, hb9⟩; have X2 := hide (XX.out.trans (hb9.mono XX.out.size)); replace XX := X2; clear X2 hb9))
          all_goals
            go_wp2
            go_meet
            exact ⟨rfl, XX⟩
        case rest =>
          obtain ⟨rfl, HB2⟩ := hcut
          rename World => w2
          have HX3 := hide (boX_go HX.out HB2.out)
          have HN3 := hide (bx_go HN.out HB2.out)
          have HB3 := hide (HB.out.trans (HB2.out.mono HB.out.size))
          have hb2s := HB2.out.size
          clear XX u0 v0 a0 a1 a2 a3 a4 a5 a6
          cases dv
          · go_wp2
            go_roundw
            case rel =>
              refine ⟨i + 1, G, by omega, by go_num, HX3, HN3, HB3, hide (fun b hb => ?_)⟩
              rw [HA.out b hb]
              constructor
              · rintro ⟨a, h1, h2⟩; exact ⟨a, by omega, h2⟩
              · rintro ⟨a, h1, h2, h3, h4⟩
                by_cases e : a = i
                · subst e; rw [HD.out] at h4; cases h4
                · exact ⟨a, by omega, h2, h3, h4⟩
            case measure => simp [intOf]; omega
          · have u1 := (boX_at HX3.out).2.2 (i + 1) (by omega)
            have uz := boX_frozen HX3.out (i + 1)
            have HXS := hide (boX_set HX3.out (i + 1) true)
            have HNS := hide (bx_set HN3.out (p := ⟨w.heap.size, i + 1, none⟩) (by show w.heap.size ≠ NB; omega) (.bool true))
            have HBS := hide (HB3.out.setCell (p := ⟨w.heap.size, i + 1, none⟩) (Nat.le_refl _) (.bool true))
            have HGL := hide HX3.out.1
            go_wp2
            go_roundw
            case rel =>
              refine ⟨i + 1, G.set (i + 1) true, by omega, by go_num, HXS, HNS, HBS, hide (fun b hb => ?_)⟩
              rw [set_at _ _ _ (by rw [HGL.out]; omega)]
              by_cases e : b = i + 1
              · subst e
                rw [if_pos rfl]
                exact ⟨fun _ => ⟨i, by omega, rfl, HFI.out, HD.out⟩, fun _ => rfl⟩
              · rw [if_neg e, HA.out b hb]
                constructor
                · rintro ⟨a, h1, h2⟩; exact ⟨a, by omega, h2⟩
                · rintro ⟨a, h1, h2, h3, h4⟩
                  by_cases e2 : a = i
                  · subst e2; exact absurd h2 e
                  · exact ⟨a, by omega, h2, h3, h4⟩
            case measure => simp [intOf]; omega
    · have him : i = m := by omega
      subst him
      go_wp2
      go_ret
      refine ⟨w.heap.size, i + 1, G, rfl, HX.out, fun b hb => ?_, HB.out⟩
      rw [HA.out b hb, HT.out]
      constructor
      · rintro ⟨a, h1, h2, h3, h4⟩; exact ⟨a, by omega, h3, h2, h4⟩
      · rintro ⟨a, h1, h2, h3, h4⟩; exact ⟨a, by omega, h3, h2, h4⟩
end Go.Proofs.YtbijilnbbbicmaaDoor
