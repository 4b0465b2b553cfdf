/-
  Texts put together: RrK, RsS.
-/
import Derived.Test.YtepommmmmfaihaaGreatDoorB49
import Derived.Test.YtepommmmmfaihaaGreatDoorB19
import Derived.Test.YtepommmmmfaihaaGreatDoorB17
import Derived.Lib.QuoteLoop
import Derived.Lib.TrimUEq
import Derived.Test.YtepommmmmfaihaaGreatDoorB48
import Derived.Test.YtepommmmmfaihaaGreatDoorB9
/-
  Contract: what the program reads as an expression.
-/
namespace Go.Proofs.YtepommmmmfaihaaGreatDoor
open Go.RowKit Go.Joins
set_option linter.unusedVariables false
set_option linter.unusedSimpArgs false
theorem decL_ch (l : List UInt8) : chB ((Lib.decodeL l).1 : Int) = true := by
  have h := Lib.decodeN_valid l.length (l.getD 0 0).toNat (l.getD 1 0).toNat (l.getD 2 0).toNat (l.getD 3 0).toNat (UInt8.toNat_lt _)
  rw [← Lib.decodeL_N] at h
  unfold chB
  rw [decide_eq_true_iff]
  omega
theorem runesL_ch : ∀ (f : Nat) (l : List UInt8), l.length ≤ f → ∀ x, runesL l = some x → ∀ c ∈ x, chB c = true
  | 0, l, hf, x, hx => by
    have : l = [] := List.length_eq_zero_iff.1 (by omega)
    subst this
    rw [runesL_nil] at hx
    cases hx
    intro c hc; cases hc
  | f + 1, l, hf, x, hx => by
    by_cases h : l = []
    · subst h
      rw [runesL_nil] at hx
      cases hx
      intro c hc; cases hc
    · by_cases hb : Lib.decodeL l = (65533, 1)
      · rw [runesL_bad h hb] at hx; cases hx
      · have hl : 0 < l.length := List.length_pos_iff.2 h
        have hw := Lib.decodeL_width l
        rw [runesL_step h hb] at hx
        cases hy : runesL (l.drop (Lib.decodeL l).2) with
        | none => rw [hy] at hx; cases hx
        | some y =>
          rw [hy] at hx
          simp at hx
          subst hx
          have ih := runesL_ch f (l.drop (Lib.decodeL l).2) (by rw [List.length_drop]; omega) y hy
          intro c hc
          rcases List.mem_cons.1 hc with rfl | hc
          · exact decL_ch l
          · exact ih c hc
theorem outL_ch (s : ByteArray) : ∀ c ∈ outL (rns s), chB c = true := by
  unfold rns
  by_cases h : s.size ≤ 20000
  · rw [if_pos h]
    cases hx : runesL s.data.toList with
    | none => intro c hc; simp [outL] at hc
    | some x => exact runesL_ch _ s.data.toList (Nat.le_refl _) x hx
  · rw [if_neg h]; intro c hc; simp [outL] at hc
/-- How many ranges a right node has. -/
theorem nodeB_nr {kd : Int} {nt : Bool} {n : Nat} {L H : Nat → Int} {a b mn mx : Int} (h : nodeB kd nt n L H a b mn mx = true) : n ≤ 12 := by
  unfold nodeB at h
  split at h
  · simp at h; omega
  · split at h
    · unfold rowB at h; simp at h; omega
    · split at h
      · simp at h; omega
      · split at h
        · simp at h; omega
        · cases h
theorem rx_len {X : List Nd} (h : rxB (rxOf X) = true) : 1 ≤ X.length ∧ X.length ≤ 120 := by
  by_cases h9 : 1 ≤ (rxOf X).len ∧ (rxOf X).len ≤ 120
  · exact h9
  · rw [rxB_size h9] at h; cases h
theorem rx_node {X : List Nd} (h : rxB (rxOf X) = true) {j : Nat} {nd : Nd} (hj : X[j]? = some nd) : nd.L.length ≤ 12 := by
  have hlt : j < X.length := (List.getElem?_eq_some_iff.1 hj).1
  cases hx : nodeX (rxOf X) j with
  | false => rw [rxB_node (X := rxOf X) hlt hx] at h; cases h
  | true =>
    unfold nodeX at hx
    have h9 := nodeB_nr hx
    have e : (rxOf X).NR j = nd.L.length := by simp only [rxOf, ndAt_of hj]
    omega
theorem xo_z {Z Z' B : Nat} {S : Nat → Prop} {w : World} {ad : Option Addr} {c : Nat} {X : List Nd} (h : XOZ Z B S w ad c X) (hz : ∀ (j : Nat) (nd : Nd), X[j]? = some nd → nd.L.length ≤ Z') : XOZ Z' B S w ad c X := by
  obtain ⟨xs, h1, h2, h3⟩ := h
  refine ⟨xs, h1, fun j nd hj => ?_, h3⟩
  obtain ⟨a, cp, b1, b2, b3, b4⟩ := h2 j nd hj
  exact ⟨a, cp, b1, b2, b3, hz j nd hj⟩
theorem xo_at5 {Z B : Nat} {S : Nat → Prop} {w : World} {ad : Option Addr} {c : Nat} {X : List Nd} (h : XOZ Z B S w ad c X) {j : Nat} (hj : j < X.length) : (ndAt X j).L.length ≤ Z := by
  obtain ⟨xs, h1, h2, h3⟩ := h
  obtain ⟨a, cp, b1, b2, b3, b4⟩ := h2 j X[j] (List.getElem?_eq_getElem hj)
  rw [ndAt_of (List.getElem?_eq_getElem hj)]
  exact b4
/-- What is read as an expression. -/
def rgW (C : List Int) (b : Bool) : Option (List Nd) := if b = true ∧ C.length ≤ 400 then (match rdW C with
  | none => none
  | some X => if rxB (rxOf X) = true then some X else none) else none
def LtAns (V : List Nd) (ok : Bool) (w : World) (e : Ending) (w' : World) : Prop := ∃ ad c, e = .returned (.tuple #[.slice ad V.length c, .bool ok]) ∧ XO w.heap.size (fun j => w.heap.size ≤ j) w' ad c V ∧ Below w.heap.size w w'
def rgV (C : List Int) (b : Bool) : List Nd := (rgW C b).getD []
def rgO (C : List Int) (b : Bool) : Bool := (rgW C b).isSome
theorem rg_no {C : List Int} {b : Bool} {w w' : World} (h : rgW C b = none) (hb : Below w.heap.size w w') : LtAns (rgV C b) (rgO C b) w (.returned (.tuple #[.slice none 0 0, .bool false])) w' := by
  unfold rgV rgO
  rw [h]
  exact ⟨none, 0, rfl, xo_nil _ _ _, hb⟩
theorem rg_yes {C : List Int} {b : Bool} {X : List Nd} {w w' : World} {ad : Option Addr} {c : Nat} (h : rgW C b = some X) (hx : XOZ 500 w.heap.size (fun j => w.heap.size ≤ j) w' ad c X) (hr : rxB (rxOf X) = true) (hb : Below w.heap.size w w') : LtAns (rgV C b) (rgO C b) w (.returned (.tuple #[.slice ad X.length c, .bool true])) w' := by
  unfold rgV rgO
  rw [h]
  exact ⟨ad, c, rfl, xo_z hx (fun j nd hj => by have := rx_node hr hj; omega), hb⟩
theorem rgV_len (C : List Int) (b : Bool) : (rgV C b).length ≤ 120 := by
  unfold rgV
  cases h : rgW C b with
  | none => simp
  | some X =>
    unfold rgW at h
    split at h
    · split at h
      · cases h
      · split at h
        · rename_i hr
          cases h
          exact (rx_len hr).2
        · cases h
    · cases h
theorem tx_own {B : Nat} {w : World} {ta : Option Addr} {tc : Nat} {C : List Int} (h : w.ownsRow B 2 1 (.slice ta C.length tc) C.length (C.map (Value.int .i64))) (hc : C.length ≤ 20000) (hch : ∀ c ∈ C, chB c = true) (htc : C.length ≤ tc ∧ tc ≤ maxLen) : Tx w.heap.size w ta tc C := by
  refine ⟨htc.1, htc.2, fun h0 => ?_, hch⟩
  obtain ⟨g, cap, hv, -, hg⟩ := h.form h0
  simp only [Value.slice.injEq] at hv
  obtain ⟨rfl, -, rfl⟩ := hv
  refine ⟨g, 0, rfl, hg, fun j c hj => ?_⟩
  have hlt : j < C.length := (List.getElem?_eq_some_iff.1 hj).1
  rw [Nat.zero_add, h.cellAt j (by omega), List.getElem?_map, hj]
  rfl
set_option maxHeartbeats 4000000 in
theorem i_readRegex (s : ByteArray) (C : List Int) (b : Bool) (w : World) (hs : s.size ≤ 1048576) (hTb : Tabs w) (hC : outL (rns s) = C) (hb : (rns s).isSome = b) :
    Calls Tryz.prog 30 #[.string s] w (LtAns (rgV C b) (rgO C b) w) := by
  have CR := hide (i_runes_lb s C b w hs hTb hC hb)
  have hcl : C.length ≤ 20000 := by rw [← hC]; exact outL_len s
  have HCH : Hid (∀ c ∈ C, chB c = true) := hide (by rw [← hC]; exact outL_ch s)
  clear hC hb hTb
  go_enter Tryz.func30, Tryz.ntmps30
  go_wp2_with fail
  refine CR.out.mono ?_
  rintro e w1 ⟨ta, tc, rfl, ho1, hb1⟩
  have HO1 := hide ho1
  have HB1 := hide hb1
  clear ho1 hb1 CR
  cases b
  · have E : Hid (rgW C false = none) := hide (by unfold rgW; rw [if_neg (by simp)])
    go_wp2
    go_ret2
    exact rg_no E.out HB1.out
  · by_cases h4 : 400 < C.length
    · have h4' : (400 : Int) < (C.length : Int) := by omega
      have E : Hid (rgW C true = none) := hide (by unfold rgW; rw [if_neg (by omega)])
      go_wp2
      go_ret2
      exact rg_no E.out HB1.out
    · have h4' : ¬ (400 : Int) < (C.length : Int) := by omega
      have htc : C.length ≤ tc ∧ tc ≤ maxLen := by
        rcases HO1.out.2 with ⟨hv', hz⟩ | ⟨g', cap', cur', hv', -, -, hcc, hmx, -⟩
        · simp only [Value.slice.injEq] at hv'
          unfold maxLen; omega
        · simp only [Value.slice.injEq] at hv'
          omega
      have HI := hide (i_readRx C C.length ta tc w1 rfl (by omega) (tx_own HO1.out hcl HCH.out htc))
      have HE0 : Hid (rgW C true = match rdW C with
        | none => none
        | some X => if rxB (rxOf X) = true then some X else none) := hide (by unfold rgW; rw [if_pos ⟨rfl, by omega⟩] <;> rfl)
      rcases hr : rdW C with _ | X
      · rw [hr] at HI
        have E : Hid (rgW C true = none) := hide (by rw [HE0.out, hr])
        clear hr HE0
        go_wp2_with fail
        refine HI.out.mono ?_
        rintro e w2 ⟨rfl, hb2⟩
        have HB2 := hide (HB1.out.trans (hb2.mono HB1.out.size))
        clear hb2
        go_wp2
        go_ret2
        exact rg_no E.out HB2.out
      · rw [hr] at HI
        have HE1 : Hid (rgW C true = if rxB (rxOf X) = true then some X else none) := hide (by rw [HE0.out, hr])
        have hXl : X.length ≤ 5000 := by
          have h9 : ∃ u, rdC (4 * C.length + 4) C [] = some (u, X) := by
            unfold rdW at hr
            split at hr
            · rename_i Y e9
              cases hr
              exact ⟨_, e9⟩
            · cases hr
          obtain ⟨u, h9⟩ := h9
          have := ((rd_sh _).1 h9).2.2
          simp at this
          omega
        clear hr HE0
        go_wp2_with fail
        refine HI.out.mono ?_
        rintro e w2 ⟨ad, c, rfl, hx, hb2⟩
        have HB2 := hide (HB1.out.trans (hb2.mono HB1.out.size))
        have HX := hide (xo_imp (T := fun j => w.heap.size ≤ j) (xo_lower (B' := w.heap.size) hx HB1.out.size) (fun k _ hs => Nat.le_trans HB1.out.size hs))
        have HG := hide (i_regex (rxOf X) X.length ad c w2 rfl (by unfold maxLen; omega) (fun j hj => by
          have h9 := xo_at5 hx hj
          show (ndAt X j).L.length ≤ maxLen
          unfold maxLen
          omega) (xo_rx hx))
        clear hx hb2 HI
        cases hq : rxB (rxOf X)
        · have E : Hid (rgW C true = none) := hide (by rw [HE1.out, if_neg (by rw [hq]; decide)])
          rw [hq] at HG
          clear hq HE1
          go_wp2_with (first | (go_at_call 22; refine HG.out.mono ?_; rintro e w3 ⟨rfl, hb3⟩; have HB3 := hide (HB2.out.trans (hb3.mono HB2.out.size)); clear hb3))
          go_ret2
          exact rg_no E.out HB3.out
        · have E : Hid (rgW C true = some X) := hide (by rw [HE1.out, if_pos hq])
          have HQ := hide hq
          rw [hq] at HG
          clear hq HE1
          go_wp2_with (first | (go_at_call 22; refine HG.out.mono ?_; rintro e w3 ⟨rfl, hb3⟩; have HB3 := hide (HB2.out.trans (hb3.mono HB2.out.size)); have HX3 := hide (xo_below HX.out hb3); clear hb3))
          go_ret2
          exact rg_yes E.out HX3.out HQ.out HB3.out
end Go.Proofs.YtepommmmmfaihaaGreatDoor

/-
  Contracts of the specification's reader of expressions: a choice, the whole text.
-/
namespace Go.Proofs.YtepommmmmfaihaaGreatDoor
open Go.RowKit Go.Joins
set_option linter.unusedVariables false
set_option linter.unusedSimpArgs false
/-- What is known between two rows of a choice. -/
def CcE (C : List Int) (k : Nat) (X : List Nd) (n f : Nat) (bd : Bool) (kl : Nat) (Xl : List Nd) (nv : Int) : Prop :=
  (bd = false ∧ Xl.length ≤ 120 ∧ nv = (Xl.length : Int) - 1 ∧ C.length - kl ≤ n ∧ ∃ q, 4 * (C.length - kl) + 3 ≤ q ∧ rdC (f + 1) (C.drop k) X = rdCl q (C.drop kl) Xl) ∨
  (bd = true ∧ ∀ u' X', rdC (f + 1) (C.drop k) X = some (u', X') → Bd X')
set_option maxRecDepth 100000 in
set_option maxHeartbeats 8000000 in
theorem s_choice (n : Nat) (hR : RwS n) : ChS n := by
  intro B R C k X w g hn hg hX h
  obtain ⟨f, rfl⟩ : ∃ f, g = f + 1 := ⟨g - 1, by omega⟩
  have HE : Hid (rdC (f + 1) (C.drop k) X = match rdR f (C.drop k) X with
    | none => none
    | some (u1, X1) => rdCl f u1 X1) := hide (by rw [rdC]; rfl)
  have hC4 := h.1.2.2
  have hk0 := h.1.2.1
  have HQ := hide (hR B R C k X w f hn (by omega) hX h)
  clear h
  go_enter Tryz.func52, Tryz.ntmps52
  go_wp2_with fail
  refine HQ.out.mono ?_
  intro e w1 ha
  obtain ⟨k1, bd1, X1, nv1, rfl, H1, HB1, HC1⟩ : ∃ (k1 : Nat) (bd1 : Bool) (X1 : List Nd) (nv1 : Int), e = .returned (.int .i64 nv1) ∧ Hid (SD (fun j => B ≤ j) B R w1 C k1 bd1 X1) ∧ Hid (Below B w w1) ∧ Hid (CcE C k X n f bd1 k1 X1 nv1) := by
    rcases ha with ⟨k1, X1, ho, hX1, rfl, h1, hb1⟩ | ⟨⟨v, k1, X1, rfl, h1⟩, hno, hb1⟩
    · have hsh := ((rd_sh f).2.2.1 ho).2.1
      simp only [List.length_drop] at hsh
      have hk1 := h1.1.2.1
      exact ⟨k1, false, X1, _, rfl, hide h1, hide hb1, hide (.inl ⟨rfl, hX1, rfl, by omega, f, by omega, by have h9 := HE.out; rw [ho] at h9; exact h9⟩)⟩
    · refine ⟨k1, true, X1, v, rfl, hide h1, hide hb1, hide (.inr ⟨rfl, fun u9 X9 h9 => ?_⟩)⟩
      rw [HE.out] at h9
      cases hq : rdR f (C.drop k) X with
      | none => rw [hq] at h9; cases h9
      | some p =>
        obtain ⟨u1, Y1⟩ := p
        rw [hq] at h9
        exact bd_pre ((rd_sh f).2.1 h9).1 (hno u1 Y1 hq)
  clear ha HQ HE
  go_wp2_with fail
  go_loopw [3] (fun v3 wr => ∃ (kl : Nat) (bd : Bool) (Xl : List Nd) (nv : Int), v3 = .int .i64 nv ∧ Hid (SD (fun j => B ≤ j) B R wr C kl bd Xl) ∧ Hid (Below B w wr) ∧ Hid (CcE C k X n f bd kl Xl nv)) (fun _ wr => msS R C.length wr)
  case atStart => exact ⟨k1, bd1, X1, nv1, rfl, H1, HB1, HC1⟩
  case round =>
    clear H1 HB1 HC1
    obtain ⟨kl, bd, Xl, nv, rfl, HS, HB, HR⟩ := hrel
    cases bd
    case true =>
      have HNO : Hid (∀ u' X', rdC (f + 1) (C.drop k) X = some (u', X') → Bd X') := hide (by rcases HR.out with ⟨h, -⟩ | ⟨-, h⟩; cases h; exact h)
      have HT := hide (s_isB B R C kl 124 Xl wr HS.out)
      clear HR
      go_wp2_with fail
      refine HT.out.mono ?_
      rintro e w2 ⟨rfl, h2, q2⟩
      have H2 := hide h2
      have HB2 := hide (HB.out.trans (sd_kpB HS.out q2))
      clear h2 q2 HT
      go_wp2
      go_ret
      exact .inr ⟨⟨nv, kl, Xl, rfl, H2.out⟩, HNO.out, HB2.out⟩
    case false =>
      obtain ⟨hXl, hnv, hkn, q, hq, heq⟩ : Xl.length ≤ 120 ∧ nv = (Xl.length : Int) - 1 ∧ C.length - kl ≤ n ∧ ∃ q, 4 * (C.length - kl) + 3 ≤ q ∧ rdC (f + 1) (C.drop k) X = rdCl q (C.drop kl) Xl := by
        rcases HR.out with ⟨-, h⟩ | ⟨h, -⟩
        · exact h
        · cases h
      clear HR
      have hms := msS_no HS.out
      have hkl := HS.out.1.2.1
      obtain ⟨q, rfl⟩ : ∃ p, q = p + 1 := ⟨q - 1, by omega⟩
      have HNV := hide hnv
      by_cases e1 : (C.drop kl).head? = some 124
      · have e2 := tail_cons e1
        obtain ⟨-, e3, hlt⟩ := drop_at e2
        have HT := hide (s_isY B R C kl 124 _ Xl wr HS.out e2)
        have HE1 : Hid (rdC (f + 1) (C.drop k) X = match rdR q (C.drop (kl + 1)) Xl with
          | none => none
          | some (u1, X1) => rdCl q u1 (X1 ++ [orN nv ((X1.length : Int) - 1)])) := hide (by rw [heq, rdCl, if_pos e1, e3, hnv]; rfl)
        clear e1 e2 e3 heq hnv
        go_wp2_with fail
        refine HT.out.mono ?_
        rintro e w2 ⟨rfl, h2, q2⟩
        have HB2 := hide (HB.out.trans (sd_kpB HS.out q2))
        have HQ := hide (hR B R C (kl + 1) Xl w2 q (by omega) (by omega) hXl h2)
        clear h2 q2 HT HB
        go_wp2_with fail
        refine HQ.out.mono ?_
        rintro e w3 (⟨k3, X3, ho, hX3, rfl, h3, hb3⟩ | ⟨⟨v, k3, X3, rfl, h3⟩, hno, hb3⟩)
        · have hsh := ((rd_sh q).2.2.1 ho).2.1
          simp only [List.length_drop] at hsh
          have hk3 := h3.1.2.1
          obtain ⟨a2, ha2⟩ : ∃ a2, (X3.length : Int) - 1 = a2 := ⟨_, rfl⟩
          have HE2 : Hid (rdC (f + 1) (C.drop k) X = rdCl q (C.drop k3) (X3 ++ [orN nv a2])) := hide (by have h9 := HE1.out; rw [ho] at h9; rw [← ha2]; exact h9)
          have HB3 := hide (HB2.out.trans hb3)
          obtain ⟨_, _, _, _, ⟨-, -, d2, -⟩, -, -⟩ := sd_cells h3
          have HA := hide (s_addN 4 nv a2 h3 hX3)
          rw [ha2]
          clear h3 hb3 ho HE1 HQ ha2
          go_wp2_with fail
          refine HA.out.mono ?_
          rintro e w4 ⟨rfl, h4, hb4⟩
          have H4 := hide h4
          have HB4 := hide (HB3.out.trans hb4)
          clear h4 hb4 HA d2
          go_wp2
          by_cases hbig : 120 < X3.length + 1
          · have HD := hide (decide_eq_true hbig)
            rw [HD.out] at H4
            go_roundw
            case rel => exact ⟨k3, true, X3 ++ [orN nv a2], (X3.length : Int), rfl, H4, HB4, hide (.inr ⟨rfl, fun u9 X9 h9 => by rw [HE2.out] at h9; exact bd_pre ((rd_sh q).2.1 h9).1 (.inl (by simp; omega))⟩)⟩
            case measure => rw [msS_bad H4.out, hms]; omega
          · have HD := hide (decide_eq_false hbig)
            rw [HD.out] at H4
            go_roundw
            case rel => exact ⟨k3, false, X3 ++ [orN nv a2], (X3.length : Int), rfl, H4, HB4, hide (.inl ⟨rfl, by simp; omega, by simp, by omega, q, by omega, HE2.out⟩)⟩
            case measure => rw [msS_no H4.out, hms]; omega
        · have HNO : Hid (∀ u9 X9, rdC (f + 1) (C.drop k) X = some (u9, X9) → Bd X9) := hide (fun u9 X9 h9 => by
            rw [HE1.out] at h9
            cases hq : rdR q (C.drop (kl + 1)) Xl with
            | none => rw [hq] at h9; cases h9
            | some p =>
              obtain ⟨u1, Y1⟩ := p
              rw [hq] at h9
              exact bd_pre ((rd_sh q).2.1 h9).1 (bd_app _ (hno u1 Y1 hq)))
          have H3 := hide h3
          have HB3 := hide (HB2.out.trans hb3)
          obtain ⟨_, _, _, _, ⟨-, -, d2, -⟩, -, -⟩ := sd_cells h3
          clear h3 hb3 hno HE1 HQ
          go_wp2
          go_roundw
          case rel => exact ⟨k3, true, X3, nv, rfl, H3, HB3, hide (.inr ⟨rfl, HNO.out⟩)⟩
          case measure => rw [msS_bad H3.out, hms]; omega
      · have E : Hid (rdC (f + 1) (C.drop k) X = some (C.drop kl, Xl)) := hide (by rw [heq, rdCl, if_neg e1])
        have HT := hide (s_isN B R C kl 124 Xl wr HS.out e1)
        clear heq e1 hnv
        go_wp2_with fail
        refine HT.out.mono ?_
        rintro e w2 ⟨rfl, h2, q2⟩
        have H2 := hide h2
        have HB2 := hide (HB.out.trans (sd_kpB HS.out q2))
        clear h2 q2 HT
        go_wp2
        go_ret
        exact .inl ⟨kl, Xl, E.out, hXl, by rw [← HNV.out]; rfl, H2.out, HB2.out⟩
/-- Every choice. -/
theorem s_all : ∀ n, ChS n := by
  intro n
  induction n using Nat.strongRecOn with
  | ind n ih => exact s_choice n (s_row n (s_piece n (s_atom n (fun m hm => ih m hm))))
/-- What is bad is no right expression. -/
theorem bd_rx {X : List Nd} (h : Bd X) : rxB (rxOf X) = false := by
  rcases h with h | ⟨nd, h1, h2⟩
  · exact rxB_size (X := rxOf X) (fun h9 => by have : X.length ≤ 120 := h9.2; omega)
  · obtain ⟨j, hj, rfl⟩ := List.mem_iff_getElem.1 h1
    refine rxB_node (X := rxOf X) (k := j) hj ?_
    unfold nodeX
    simp only [rxOf, ndAt_of (List.getElem?_eq_getElem hj)]
    exact h2
end Go.Proofs.YtepommmmmfaihaaGreatDoor
