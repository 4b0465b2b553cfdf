/-
  Texts put together: RsS, RsT.
-/
import Derived.Test.YtepommmmmfaihaaDoorC42
import Derived.Test.YtepommmmmfaihaaDoorC32
import Derived.Test.YtepommmmmfaihaaDoorC23
import Derived.Deep.RegionWith
import Derived.Deep.RegionHeld3
/-
  Contracts of the specification's reader of expressions: a choice, the whole text.
-/
namespace Go.Proofs.YtepommmmmfaihaaDoor
open Go.RowKit Go.Joins
set_option linter.unusedVariables false
set_option linter.unusedSimpArgs false
/-- What is known between two rows of a choice. -/
def CcE (C : List Int) (k : Nat) (X : List Nd) (n f : Nat) (bd : Bool) (kl : Nat) (Xl : List Nd) (nv : Int) : Prop :=
  (bd = false ∧ Xl.length ≤ 120 ∧ nv = (Xl.length : Int) - 1 ∧ C.length - kl ≤ n ∧ ∃ q, 4 * (C.length - kl) + 3 ≤ q ∧ rdC (f + 1) (C.drop k) X = rdCl q (C.drop kl) Xl) ∨
  (bd = true ∧ ∀ u' X', rdC (f + 1) (C.drop k) X = some (u', X') → Bd X')
set_option maxRecDepth 100000 in
set_option maxHeartbeats 8000000 in
theorem s_choice (n : Nat) (hR : RwS n) : ChS n := by
  intro B R C k X w g hn hg hX h
  obtain ⟨f, rfl⟩ : ∃ f, g = f + 1 := ⟨g - 1, by omega⟩
  have HE : Hid (rdC (f + 1) (C.drop k) X = match rdR f (C.drop k) X with
    | none => none
    | some (u1, X1) => rdCl f u1 X1) := hide (by rw [rdC]; rfl)
  have hC4 := h.1.2.2
  have hk0 := h.1.2.1
  have HQ := hide (hR B R C k X w f hn (by omega) hX h)
  clear h
  go_enter Tryd.func43, Tryd.ntmps43
  go_wp2_with fail
  refine HQ.out.mono ?_
  intro e w1 ha
  obtain ⟨k1, bd1, X1, nv1, rfl, H1, HB1, HC1⟩ : ∃ (k1 : Nat) (bd1 : Bool) (X1 : List Nd) (nv1 : Int), e = .returned (.int .i64 nv1) ∧ Hid (SD (fun j => B ≤ j) B R w1 C k1 bd1 X1) ∧ Hid (Below B w w1) ∧ Hid (CcE C k X n f bd1 k1 X1 nv1) := by
    rcases ha with ⟨k1, X1, ho, hX1, rfl, h1, hb1⟩ | ⟨⟨v, k1, X1, rfl, h1⟩, hno, hb1⟩
    · have hsh := ((rd_sh f).2.2.1 ho).2.1
      simp only [List.length_drop] at hsh
      have hk1 := h1.1.2.1
      exact ⟨k1, false, X1, _, rfl, hide h1, hide hb1, hide (.inl ⟨rfl, hX1, rfl, by omega, f, by omega, by have h9 := HE.out; rw [ho] at h9; exact h9⟩)⟩
    · refine ⟨k1, true, X1, v, rfl, hide h1, hide hb1, hide (.inr ⟨rfl, fun u9 X9 h9 => ?_⟩)⟩
      rw [HE.out] at h9
      cases hq : rdR f (C.drop k) X with
      | none => rw [hq] at h9; cases h9
      | some p =>
        obtain ⟨u1, Y1⟩ := p
        rw [hq] at h9
        exact bd_pre ((rd_sh f).2.1 h9).1 (hno u1 Y1 hq)
  clear ha HQ HE
  go_wp2_with fail
  go_loopw [3] (fun v3 wr => ∃ (kl : Nat) (bd : Bool) (Xl : List Nd) (nv : Int), v3 = .int .i64 nv ∧ Hid (SD (fun j => B ≤ j) B R wr C kl bd Xl) ∧ Hid (Below B w wr) ∧ Hid (CcE C k X n f bd kl Xl nv)) (fun _ wr => msS R C.length wr)
  case atStart => exact ⟨k1, bd1, X1, nv1, rfl, H1, HB1, HC1⟩
  case round =>
    clear H1 HB1 HC1
    obtain ⟨kl, bd, Xl, nv, rfl, HS, HB, HR⟩ := hrel
    cases bd
    case true =>
      have HNO : Hid (∀ u' X', rdC (f + 1) (C.drop k) X = some (u', X') → Bd X') := hide (by rcases HR.out with ⟨h, -⟩ | ⟨-, h⟩; cases h; exact h)
      have HT := hide (s_isB B R C kl 124 Xl wr HS.out)
      clear HR
      go_wp2_with fail
      refine HT.out.mono ?_
      rintro e w2 ⟨rfl, h2, q2⟩
      have H2 := hide h2
      have HB2 := hide (HB.out.trans (sd_kpB HS.out q2))
      clear h2 q2 HT
      go_wp2
      go_ret
      exact .inr ⟨⟨nv, kl, Xl, rfl, H2.out⟩, HNO.out, HB2.out⟩
    case false =>
      obtain ⟨hXl, hnv, hkn, q, hq, heq⟩ : Xl.length ≤ 120 ∧ nv = (Xl.length : Int) - 1 ∧ C.length - kl ≤ n ∧ ∃ q, 4 * (C.length - kl) + 3 ≤ q ∧ rdC (f + 1) (C.drop k) X = rdCl q (C.drop kl) Xl := by
        rcases HR.out with ⟨-, h⟩ | ⟨h, -⟩
        · exact h
        · cases h
      clear HR
      have hms := msS_no HS.out
      have hkl := HS.out.1.2.1
      obtain ⟨q, rfl⟩ : ∃ p, q = p + 1 := ⟨q - 1, by omega⟩
      have HNV := hide hnv
      by_cases e1 : (C.drop kl).head? = some 124
      · have e2 := tail_cons e1
        obtain ⟨-, e3, hlt⟩ := drop_at e2
        have HT := hide (s_isY B R C kl 124 _ Xl wr HS.out e2)
        have HE1 : Hid (rdC (f + 1) (C.drop k) X = match rdR q (C.drop (kl + 1)) Xl with
          | none => none
          | some (u1, X1) => rdCl q u1 (X1 ++ [orN nv ((X1.length : Int) - 1)])) := hide (by rw [heq, rdCl, if_pos e1, e3, hnv]; rfl)
        clear e1 e2 e3 heq hnv
        go_wp2_with fail
        refine HT.out.mono ?_
        rintro e w2 ⟨rfl, h2, q2⟩
        have HB2 := hide (HB.out.trans (sd_kpB HS.out q2))
        have HQ := hide (hR B R C (kl + 1) Xl w2 q (by omega) (by omega) hXl h2)
        clear h2 q2 HT HB
        go_wp2_with fail
        refine HQ.out.mono ?_
        rintro e w3 (⟨k3, X3, ho, hX3, rfl, h3, hb3⟩ | ⟨⟨v, k3, X3, rfl, h3⟩, hno, hb3⟩)
        · have hsh := ((rd_sh q).2.2.1 ho).2.1
          simp only [List.length_drop] at hsh
          have hk3 := h3.1.2.1
          obtain ⟨a2, ha2⟩ : ∃ a2, (X3.length : Int) - 1 = a2 := ⟨_, rfl⟩
          have HE2 : Hid (rdC (f + 1) (C.drop k) X = rdCl q (C.drop k3) (X3 ++ [orN nv a2])) := hide (by have h9 := HE1.out; rw [ho] at h9; rw [← ha2]; exact h9)
          have HB3 := hide (HB2.out.trans hb3)
          obtain ⟨_, _, _, _, ⟨-, -, d2, -⟩, -, -⟩ := sd_cells h3
          have HA := hide (s_addN 4 nv a2 h3 hX3)
          rw [ha2]
          clear h3 hb3 ho HE1 HQ ha2
          go_wp2_with fail
          refine HA.out.mono ?_
          rintro e w4 ⟨rfl, h4, hb4⟩
          have H4 := hide h4
          have HB4 := hide (HB3.out.trans hb4)
          clear h4 hb4 HA d2
          go_wp2
          by_cases hbig : 120 < X3.length + 1
          · have HD := hide (decide_eq_true hbig)
            rw [HD.out] at H4
            go_roundw
            case rel => exact ⟨k3, true, X3 ++ [orN nv a2], (X3.length : Int), rfl, H4, HB4, hide (.inr ⟨rfl, fun u9 X9 h9 => by rw [HE2.out] at h9; exact bd_pre ((rd_sh q).2.1 h9).1 (.inl (by simp; omega))⟩)⟩
            case measure => rw [msS_bad H4.out, hms]; omega
          · have HD := hide (decide_eq_false hbig)
            rw [HD.out] at H4
            go_roundw
            case rel => exact ⟨k3, false, X3 ++ [orN nv a2], (X3.length : Int), rfl, H4, HB4, hide (.inl ⟨rfl, by simp; omega, by simp, by omega, q, by omega, HE2.out⟩)⟩
            case measure => rw [msS_no H4.out, hms]; omega
        · have HNO : Hid (∀ u9 X9, rdC (f + 1) (C.drop k) X = some (u9, X9) → Bd X9) := hide (fun u9 X9 h9 => by
            rw [HE1.out] at h9
            cases hq : rdR q (C.drop (kl + 1)) Xl with
            | none => rw [hq] at h9; cases h9
            | some p =>
              obtain ⟨u1, Y1⟩ := p
              rw [hq] at h9
              exact bd_pre ((rd_sh q).2.1 h9).1 (bd_app _ (hno u1 Y1 hq)))
          have H3 := hide h3
          have HB3 := hide (HB2.out.trans hb3)
          obtain ⟨_, _, _, _, ⟨-, -, d2, -⟩, -, -⟩ := sd_cells h3
          clear h3 hb3 hno HE1 HQ
          go_wp2
          go_roundw
          case rel => exact ⟨k3, true, X3, nv, rfl, H3, HB3, hide (.inr ⟨rfl, HNO.out⟩)⟩
          case measure => rw [msS_bad H3.out, hms]; omega
      · have E : Hid (rdC (f + 1) (C.drop k) X = some (C.drop kl, Xl)) := hide (by rw [heq, rdCl, if_neg e1])
        have HT := hide (s_isN B R C kl 124 Xl wr HS.out e1)
        clear heq e1 hnv
        go_wp2_with fail
        refine HT.out.mono ?_
        rintro e w2 ⟨rfl, h2, q2⟩
        have H2 := hide h2
        have HB2 := hide (HB.out.trans (sd_kpB HS.out q2))
        clear h2 q2 HT
        go_wp2
        go_ret
        exact .inl ⟨kl, Xl, E.out, hXl, by rw [← HNV.out]; rfl, H2.out, HB2.out⟩
/-- Every choice. -/
theorem s_all : ∀ n, ChS n := by
  intro n
  induction n using Nat.strongRecOn with
  | ind n ih => exact s_choice n (s_row n (s_piece n (s_atom n (fun m hm => ih m hm))))
/-- What is bad is no right expression. -/
theorem bd_rx {X : List Nd} (h : Bd X) : rxB (rxOf X) = false := by
  rcases h with h | ⟨nd, h1, h2⟩
  · exact rxB_size (X := rxOf X) (fun h9 => by have : X.length ≤ 120 := h9.2; omega)
  · obtain ⟨j, hj, rfl⟩ := List.mem_iff_getElem.1 h1
    refine rxB_node (X := rxOf X) (k := j) hj ?_
    unfold nodeX
    simp only [rxOf, ndAt_of (List.getElem?_eq_getElem hj)]
    exact h2
end Go.Proofs.YtepommmmmfaihaaDoor

/-
  Contract: what the specification reads as an expression.
-/
namespace Go.Proofs.YtepommmmmfaihaaDoor
open Go.RowKit Go.Joins
set_option linter.unusedVariables false
set_option linter.unusedSimpArgs false
theorem bl_drewY {w w3 : World} (h : Below w.drew.heap.size w.drew w3) : Below w.heap.size w w3 := ⟨h.os, h.tape, h.output, h.size, h.block⟩
theorem bl_drew1 (w : World) : Below w.heap.size w w.drew := ⟨rfl, rfl, rfl, Nat.le_refl _, fun _ _ => rfl⟩
theorem bl_drewX {w w3 : World} {B : Nat} (h : Below w.drew.heap.size w.drew w3) (hB : B ≤ w.heap.size) : Below B w w3 := (bl_drewY h).mono hB
theorem c_drewX {w w3 : World} {R i : Nat} {v : Value} (h : w.cell? ⟨R, i, none⟩ = some v) (hb : Below w.drew.heap.size w.drew w3) : w3.cell? ⟨R, i, none⟩ = some v := by
  have hlt : R < w.heap.size := by
    rcases Nat.lt_or_ge R w.heap.size with h9 | h9
    · exact h9
    · simp [World.cell?, Array.getElem?_eq_none h9] at h
  have h1 := (bl_drewY hb).block R hlt
  simp only [World.cell?] at h ⊢
  rw [h1]
  exact h
/-- The reader as it begins. -/
theorem sd_new {w : World} {ta : Option Addr} {tc : Nat} {C : List Int} {n : Nat} (hn : C.length = n) (h4 : n ≤ 400) (ht : Tx w.heap.size w ta tc C) : SD (fun j => w.heap.size ≤ j) w.heap.size w.heap.size (w.alloc (.cells #[.slice ta n tc, .int .i64 0, .bool false, .slice none 0 0] 90)) C 0 false [] := by
  subst hn
  refine ⟨⟨Nat.le_refl _, Nat.zero_le _, h4⟩, ta, tc, none, 0, heap_alloc_new w _, tx_go ht ((Below.refl w.heap.size w).alloc (Nat.le_refl _) _), xo_nil _ _ _, fun k hk => (by cases hk)⟩
set_option maxRecDepth 100000 in
set_option maxHeartbeats 8000000 in
theorem s_readRegex (s : ByteArray) (C : List Int) (b : Bool) (w : World) (hs : s.size ≤ 1048576) (hC : outL (rns s) = C) (hb : (rns s).isSome = b) :
    Calls Tryd.prog 28 #[.string s] w (LtAns (rgV C b) (rgO C b) w) := by
  have CR := hide (s_runes_lb s C b w hs hC hb)
  have hcl : C.length ≤ 20000 := by rw [← hC]; exact outL_len s
  have HCH : Hid (∀ c ∈ C, chB c = true) := hide (by rw [← hC]; exact outL_ch s)
  clear hC hb
  go_enter Tryd.func28, Tryd.ntmps28
  go_wp2_with fail
  refine CR.out.mono ?_
  rintro e w1 ⟨ta, tc, rfl, ho1, hb1⟩
  have HO1 := hide ho1
  have HB1 := hide hb1
  clear ho1 hb1 CR
  cases b
  · have E : Hid (rgW C false = none) := hide (by unfold rgW; rw [if_neg (by simp)])
    go_wp2
    go_ret2
    exact rg_no E.out HB1.out
  · by_cases h4 : 400 < C.length
    · have h4' : (400 : Int) < (C.length : Int) := by omega
      have E : Hid (rgW C true = none) := hide (by unfold rgW; rw [if_neg (by omega)])
      go_wp2
      go_ret2
      exact rg_no E.out HB1.out
    · have h4' : ¬ (400 : Int) < (C.length : Int) := by omega
      have htc : C.length ≤ tc ∧ tc ≤ maxLen := by
        rcases HO1.out.2 with ⟨hv', hz⟩ | ⟨g', cap', cur', hv', -, -, hcc, hmx, -⟩
        · simp only [Value.slice.injEq] at hv'
          unfold maxLen; omega
        · simp only [Value.slice.injEq] at hv'
          omega
      have HE0 : Hid (rgW C true = match rdW C with
        | none => none
        | some X => if rxB (rxOf X) = true then some X else none) := hide (by unfold rgW; rw [if_pos ⟨rfl, by omega⟩] <;> rfl)
      have HS1 := hide (sd_new (w := w1) rfl (by omega) (tx_own HO1.out hcl HCH.out htc))
      have HQ := hide (s_all C.length w1.heap.size w1.heap.size C 0 [] _ (4 * C.length + 4) (by omega) (by omega) (by simp) HS1.out)
      have hC0 : C.drop 0 = C := rfl
      rw [hC0] at HQ
      have bA := hide ((Below.refl w1.heap.size w1).alloc (Nat.le_refl _) (.cells #[.slice ta C.length tc, .int .i64 0, .bool false, .slice none 0 0] 90))
      clear hC0
      go_wp2_with fail
      refine HQ.out.mono ?_
      rintro e w2 (⟨k2, X2, ho, hX2, rfl, h2, hb2⟩ | ⟨⟨v, k2, X2, rfl, h2⟩, hno, hb2⟩)
      · have HB2 := hide (HB1.out.trans ((bA.out.trans hb2).mono HB1.out.size))
        obtain ⟨R, hR⟩ : ∃ R, w1.heap.size = R := ⟨_, rfl⟩
        rw [hR] at h2
        have hRw : w.heap.size ≤ R := by have := HB1.out.size; omega
        obtain ⟨tz, tcz, adz, cpz, ⟨c0, c1, c2, c3⟩, ff, -⟩ := sd_cells h2
        have hk2 := h2.1.2.1
        have HX2 : Hid (∃ ad c, w2.cell? ⟨R, 3, none⟩ = some (.slice ad X2.length c) ∧ XOZ 500 w.heap.size (fun j => w.heap.size ≤ j) w2 ad c X2) := hide (by
          obtain ⟨h0, t1, tc1, ad, c, hx1, htx1, hxo, hxk⟩ := h2
          exact ⟨ad, c, (sx_cells hx1).2.2.2, xo_imp (xo_lower hxo hRw) (fun k _ hs => Nat.le_trans hRw hs)⟩)
        obtain ⟨ad, cp, c3', hxo⟩ := HX2.out
        have HX := hide hxo
        clear c3 ff HX2 hxo HQ HS1 bA
        by_cases hend : k2 < C.length
        · have hd : decide ((k2 : Int) < (C.length : Int)) = true := decide_eq_true (by omega)
          have hi : (k2 : Int) < (C.length : Int) := by omega
          have hd2 : decide (k2 < C.length) = true := decide_eq_true hend
          have E : Hid (rgW C true = none) := hide (by
            rw [HE0.out]
            have e9 : C.drop k2 = C[k2] :: C.drop (k2 + 1) := List.drop_eq_getElem_cons hend
            rw [e9] at ho
            rw [rdW_more ho])
          clear ho HE0 h2
          go_wp2
          go_quiet (fail)
          revert nq; intro n1
          have HB3 : Hid (Below w.heap.size w (w2.drewN n1)) := hide (HB2.out.trans ((bl_drewN w2 n1).mono HB2.out.size))
          go_wp2
          go_ret2
          exact rg_no E.out HB3.out
        · have hd : decide ((k2 : Int) < (C.length : Int)) = false := decide_eq_false (by omega)
          have hi : ¬ (k2 : Int) < (C.length : Int) := by omega
          have hd2 : decide (k2 < C.length) = false := decide_eq_false hend
          have hdr : C.drop k2 = [] := List.drop_eq_nil_of_le (by omega)
          rw [hdr] at ho
          have HE1 : Hid (rgW C true = if rxB (rxOf X2) = true then some X2 else none) := hide (by rw [HE0.out, rdW_some ho])
          have CG := hide (fun (W : World) (hW : XOZ 500 w.heap.size (fun j => w.heap.size ≤ j) W ad cp X2) => s_regex (rxOf X2) X2.length ad cp W rfl (by unfold maxLen; omega) (fun j hj => by
            have h9 := xo_at5 hW hj
            show (ndAt X2 j).L.length ≤ maxLen
            unfold maxLen
            omega) (xo_rx hW))
          clear ho HE0 h2 hdr
          have hRlt : R < w2.heap.size := by
            rcases Nat.lt_or_ge R w2.heap.size with h9 | h9
            · exact h9
            · simp [World.cell?, Array.getElem?_eq_none h9] at c0
          have HKS : Hid (∀ W9, Below w2.heap.size w2 W9 → Below w2.heap.size w2 W9 ∧ W9.cell? ⟨R, 0, none⟩ = some (.slice tz C.length tcz) ∧ W9.cell? ⟨R, 1, none⟩ = some (.int .i64 (k2 : Int)) ∧ W9.cell? ⟨R, 2, none⟩ = some (.bool false) ∧ W9.cell? ⟨R, 3, none⟩ = some (.slice ad X2.length cp)) := hide (fun W9 h9 => ⟨h9, (h9.cell (p := ⟨R, 0, none⟩) hRlt).trans c0, (h9.cell (p := ⟨R, 1, none⟩) hRlt).trans c1, (h9.cell (p := ⟨R, 2, none⟩) hRlt).trans c2, (h9.cell (p := ⟨R, 3, none⟩) hRlt).trans c3'⟩)
          have XX : Hid (Below w2.heap.size w2 w2) := hide (Below.refl _ _)
          clear c0 c1 c2 c3'
          cases hq : rxB (rxOf X2)
          · have E : Hid (rgW C true = none) := hide (by rw [HE1.out, if_neg (by rw [hq]; decide)])
            rw [hq] at CG
            clear hq HE1
            go_wp2_with fail
            go_region_held3 (fun W9 => Below w2.heap.size w2 W9 ∧ W9.cell? ⟨R, 0, none⟩ = some (.slice tz C.length tcz) ∧ W9.cell? ⟨R, 1, none⟩ = some (.int .i64 (k2 : Int)) ∧ W9.cell? ⟨R, 2, none⟩ = some (.bool false) ∧ W9.cell? ⟨R, 3, none⟩ = some (.slice ad X2.length cp)) (first | assumption | exact HKS.out _ (XX.out.drew) | exact HKS.out _ XX.out) (first | (go_at_call 31; refine (CG.out _ (xo_below HX.out (XX.out.drew))).mono ?_; rintro e w9 ⟨rfl, hb9⟩; have X2 : Hid (Below w2.heap.size w2 w9) := hide (bl_drewY ⟨hb9.os, hb9.tape, hb9.output, hb9.size, hb9.block⟩); replace XX := X2; clear X2 hb9))
            all_goals
              have HB3 := hide (HB2.out.trans (XX.out.mono HB2.out.size))
              go_wp2
              go_ret2
              exact rg_no E.out HB3.out
          · have E : Hid (rgW C true = some X2) := hide (by rw [HE1.out, if_pos hq])
            have HQ := hide hq
            rw [hq] at CG
            clear hq HE1
            go_wp2_with fail
            go_region_held3 (fun W9 => Below w2.heap.size w2 W9 ∧ W9.cell? ⟨R, 0, none⟩ = some (.slice tz C.length tcz) ∧ W9.cell? ⟨R, 1, none⟩ = some (.int .i64 (k2 : Int)) ∧ W9.cell? ⟨R, 2, none⟩ = some (.bool false) ∧ W9.cell? ⟨R, 3, none⟩ = some (.slice ad X2.length cp)) (first | assumption | exact HKS.out _ (XX.out.drew) | exact HKS.out _ XX.out) (first | (go_at_call 31; refine (CG.out _ (xo_below HX.out (XX.out.drew))).mono ?_; rintro e w9 ⟨rfl, hb9⟩; have X2 : Hid (Below w2.heap.size w2 w9) := hide (bl_drewY ⟨hb9.os, hb9.tape, hb9.output, hb9.size, hb9.block⟩); replace XX := X2; clear X2 hb9))
            all_goals
              have HB3 := hide (HB2.out.trans (XX.out.mono HB2.out.size))
              have HX3 := hide (xo_below HX.out XX.out)
              obtain ⟨-, -, -, -, c33⟩ := HKS.out _ XX.out
              go_wp2
              go_ret2
              exact rg_yes E.out HX3.out HQ.out HB3.out
      · have HB2 := hide (HB1.out.trans ((bA.out.trans hb2).mono HB1.out.size))
        obtain ⟨R, hR⟩ : ∃ R, w1.heap.size = R := ⟨_, rfl⟩
        rw [hR] at h2
        obtain ⟨tz, tcz, adz, cpz, ⟨c0, c1, c2, c3⟩, ff, -⟩ := sd_cells h2
        have E : Hid (rgW C true = none) := hide (by
          rw [HE0.out]
          cases hq : rdW C with
          | none => rfl
          | some Y =>
            have h9 : ∃ u, rdC (4 * C.length + 4) C [] = some (u, Y) := by
              unfold rdW at hq
              split at hq
              · rename_i Z e9
                cases hq
                exact ⟨_, e9⟩
              · cases hq
            obtain ⟨u, h9⟩ := h9
            have h10 := bd_rx (hno u Y h9)
            show (if rxB (rxOf Y) = true then some Y else none) = none
            rw [h10]
            rfl)
        clear hno HE0 h2 HQ HS1 bA ff
        go_wp2
        go_quiet (fail)
        revert nq; intro n1
        have HB3 : Hid (Below w.heap.size w (w2.drewN n1)) := hide (HB2.out.trans ((bl_drewN w2 n1).mono HB2.out.size))
        go_wp2
        go_ret2
        exact rg_no E.out HB3.out
end Go.Proofs.YtepommmmmfaihaaDoor
