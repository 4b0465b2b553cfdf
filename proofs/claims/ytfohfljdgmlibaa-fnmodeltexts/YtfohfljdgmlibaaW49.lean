/-
  Texts put together: TnL, RjN.
-/
import Derived.Test.YtfohfljdgmlibaaW32
import Derived.Test.YtfohfljdgmlibaaW48
import Derived.Test.YtfohfljdgmlibaaW18
import Derived.Test.YtfohfljdgmlibaaW45
/-
  The walk of FnExactTurned: at every row of nodes the two answers are the same, and the row is as it was; the answer owns its memory.
-/
namespace Go.Proofs.Ytfohfljdgmlibaa
open Go.RowKit Go.Joins
set_option linter.unusedVariables false
set_option linter.unusedSimpArgs false
theorem sumN_kl9 {D : Pn} (h : pnTot D ≤ 1048576) : sumN (fun j => (D.KL j).length) D.n ≤ 1048576 := by
  unfold pnTot at h
  have h1 : ∀ m, sumN (fun j => (D.KL j).length) m ≤ sumN (pnSz D) m := by
    intro m
    induction m with
    | zero => exact Nat.le_refl _
    | succ m ih =>
      show sumN (fun j => (D.KL j).length) m + (D.KL m).length ≤ sumN (pnSz D) m + pnSz D m
      have : (D.KL m).length ≤ pnSz D m := by unfold pnSz; omega
      omega
  have := h1 D.n
  omega
theorem po_len {B : Nat} {S : Nat → Prop} {w : World} {ad : Option Addr} {m c : Nat} {D : Pn} (h : PO B S w ad m c D) : ∀ j, j < m → (D.KL j).length ≤ 100 := fun j hj => by
  obtain ⟨xs, -, h2, -⟩ := h
  obtain ⟨_, _, -, -, -, -, h5⟩ := h2.2 j hj
  exact h5
theorem chg_kp {lo hi : Nat} {w w' : World} (h : Chg lo hi w w') : Kp (fun j => lo ≤ j ∧ j < hi) w w' := ⟨h.os, h.tape, h.output, h.size, fun j hj hn => h.block j hj (by omega)⟩
theorem spots {w : World} {g n lo hi : Nat} {AC : Nat → Nat} (h : ShI w g n AC lo hi) : ∀ b0 off, (some ⟨g, 0, none⟩ : Option Addr) = some ⟨b0, off, none⟩ → ∀ j, j < n → ∀ ad l cp, w.cell? ⟨b0, off + j * 4 + 2, none⟩ = some (.slice ad l cp) → ∀ x, ad = some x → x.spot = none := by
  intro b0 off e j hj ad l cp hc x hx
  simp only [Option.some.injEq, Addr.mk.injEq] at e
  obtain ⟨rfl, rfl, -⟩ := e
  obtain ⟨G, -, hcell, -⟩ := shI_at h j hj
  rw [Nat.zero_add, hcell] at hc
  simp only [Option.some.injEq, Value.slice.injEq] at hc
  rw [← hc.1] at hx
  simp only [Option.some.injEq] at hx
  rw [← hx]
set_option maxRecDepth 100000 in
set_option maxHeartbeats 8000000 in
theorem tn_walk (D : Pn) (n : Nat) (a : Option Addr) (cap : Nat) (w : World) (hD : D.n = n) (hz : PnSz D) (hr : PnAt w a D w.heap.size) :
    Calls Try.prog 5 #[.slice a n cap] w fun e w' => e = .returned (.bool true) ∧ Below w.heap.size w w' := by
  have HX := hide hD
  have HR := hide hr
  have HS := hide (l_szPs D n a cap w hD hz hr)
  by_cases hbig : (pnTot D : Int) ≤ 1048576
  · have HL := hide (dn_yes hbig)
    have hb9 : pnTot D ≤ 1048576 := by omega
    have hl2 : n ≤ 1048576 := by rw [← hD]; exact (pn_sz hb9).1
    have HNR : Hid (∀ j, j < n → (D.KL j).length ≤ 1048576) := hide (fun j hj => ((pn_sz hb9).2 j (by omega)).2)
    have HAC : Hid (sumN (fun j => (D.KL j).length) n ≤ 1048576) := hide (by rw [← hD]; exact sumN_kl9 hb9)
    have hl9 : (0 : Int) ≤ 1048576 - (pnTot D : Int) := by omega
    have hkl := tuV_n hD hb9
    have CS := hide (fun (a' : Option Addr) (c' : Nat) (w' : World) (h : PnAt w' a' D w'.heap.size) => s_turned D n a' c' w' hD hb9 h)
    have CI := hide (fun (a' : Option Addr) (c' : Nat) (w' : World) (h : PnAt w' a' D w'.heap.size) hzk => i_turned D n a' c' w' hD hb9 h hzk)
    unfold TuA at CS CI
    obtain ⟨V, hV⟩ : ∃ V, tuV D = V := ⟨_, rfl⟩
    obtain ⟨ok, hok⟩ : ∃ ok, pkB D = ok := ⟨_, rfl⟩
    rw [hV, hok] at CS CI
    rw [hV] at hkl
    obtain ⟨vn, hvn⟩ : ∃ vn, V.n = vn := ⟨_, rfl⟩
    have HVN := hide hvn
    rw [hvn] at CS CI hkl
    clear hr hD hz hb9 hV hok hvn
    go_enter Try.func5, Try.ntmps5
    go_wp2_with fail
    refine HS.out.mono ?_
    rintro e w1 ⟨rfl, hb1⟩
    rw [HL.out]
    have HA1 := hide (pnAt_up (pnAt_go HR.out hb1) hb1.size)
    have HB1 := hide hb1
    clear hb1
    go_wp2_with fail
    refine (l_toPs D n a cap _ HX.out hl2 HNR.out HA1.out).mono ?_
    rintro e w2 ⟨g2, rfl, hg2, hr2, hb2⟩
    have HB2 := hide (HB1.out.trans (hb2.mono HB1.out.size))
    have HR2 := hide hr2
    clear hr2 hb2
    go_wp2_with fail
    refine (CS.out _ _ _ HR2.out).mono ?_
    rintro e w3 ⟨adA, cA, rfl, hoA, hb3⟩
    have HB3 := hide (HB2.out.trans (hb3.mono HB2.out.size))
    have OA : Hid (PO w2.heap.size (fun j => j < w3.heap.size) w3 adA vn cA V) := hide (po_imp hoA (fun j hj _ => hj))
    have HVL := hide (po_len hoA)
    have HA3 := hide (pnAt_up (pnAt_go HR.out HB3.out) HB3.out.size)
    clear hoA hb3
    go_wp2_with fail
    refine (l_toPs2 D n a cap _ HX.out hl2 HNR.out HA3.out).mono ?_
    rintro e w4 ⟨g4, rfl, hg4, hr4, hsh4, hb4⟩
    have HB4 := hide (HB3.out.trans (hb4.mono HB3.out.size))
    have HB34 := hide hb4
    have HR4 := hide hr4
    have HSH4 := hide hsh4
    have OA4 := hide (po_below OA.out hb4)
    clear hr4 hsh4 hb4
    go_wp2_with fail
    refine (CI.out _ _ _ HR4.out (spots HSH4.out)).mono ?_
    rintro e w5 ⟨adB, cB, rfl, hoB, hb5⟩
    have OB := hide hoB
    have HB45 := hide hb5
    have HB5 := hide (HB4.out.trans (hb5.mono HB4.out.size))
    have OA5 := hide (po_below OA4.out hb5)
    have CE := hide (fun (W : World) (x y : Option Addr) (cx cy : Nat) (hx : PnAt W x V W.heap.size) (hy : PnAt W y V W.heap.size) => l_eqPs V vn x y cx cy W HVN.out (by omega) (fun j hj => by have := HVL.out j hj; omega) hx hy)
    clear hoB hb5
    go_wp2_with fail
    refine (CE.out _ adB adA cB cA (po_at OB.out).2 (po_at OA5.out).2).mono ?_
    rintro e w6 ⟨rfl, hb6⟩
    have HB6 := hide (HB5.out.trans (hb6.mono HB5.out.size))
    have HB46 := hide (HB45.out.trans (hb6.mono HB45.out.size))
    have HA6 := hide (pnAt_up (pnAt_go HR.out HB6.out) HB6.out.size)
    have OA6 := hide (po_below OA5.out hb6)
    have OB6 := hide (po_below OB.out hb6)
    clear hb6
    cases ok
    all_goals
      go_wp2_with fail
      refine (l_toPs D n a cap w6 HX.out hl2 HNR.out HA6.out).mono ?_
      rintro e w7 ⟨g7, rfl, hg7, hr7, hb7⟩
      have HB7 := hide (HB6.out.trans (hb7.mono HB6.out.size))
      have HB47 := hide (HB46.out.trans (hb7.mono HB46.out.size))
      have HR7 := hide hr7
      have HR47 := hide (pnAt_up (pnAt_go HR4.out HB47.out) HB47.out.size)
      have OA7 := hide (po_below OA6.out hb7)
      have OB7 := hide (po_below OB6.out hb7)
      clear hr7 hb7
      go_wp2_with fail
      refine (l_eqPs D n _ _ _ _ _ HX.out hl2 HNR.out HR47.out HR7.out).mono ?_
      rintro e w8 ⟨rfl, hb8⟩
      have HB8 := hide (HB7.out.trans (hb8.mono HB7.out.size))
      have HB48 := hide (HB47.out.trans (hb8.mono HB47.out.size))
      have OA8 := hide (po_below OA7.out hb8)
      have OB8 := hide (po_below OB7.out hb8)
      have HSH8 := hide (shI_go HSH4.out (chg_below (lo := 0) (hi := 0) HB48.out) (.inr (Nat.zero_le _)))
      clear hb8
      go_wp2_with fail
      refine (l_markPs g4 n n (fun j => (D.KL j).length) w3.heap.size w4.heap.size _ hl2 HAC.out HSH8.out).mono ?_
      rintro e w9 ⟨kk, rfl, hkk, hc9⟩
      have hkk2 : ¬ kk < 0 := by omega
      have HB9 := hide (below_chg HB8.out (Nat.le_refl _) HB3.out.size hc9)
      have OA9 : Hid (PO w2.heap.size (fun j => j < w3.heap.size) w9 adA vn cA V) := hide (po_kp OA8.out (chg_kp hc9) (fun j hj e9 => by
        obtain ⟨xs, hx, -⟩ := OA.out
        have h1 := (hx.lt j hj).2
        have e9' : w3.heap.size ≤ j ∧ j < w4.heap.size := e9
        omega) (fun B' z n' v ys j hv hj hs9 e9 => by have h1 : j < w3.heap.size := hs9; have e9' : w3.heap.size ≤ j ∧ j < w4.heap.size := e9; omega))
      have OB9 : Hid (PO w4.heap.size (fun j => w4.heap.size ≤ j) w9 adB vn cB V) := hide (po_kp OB8.out (chg_kp hc9) (fun j hj e9 => by
        obtain ⟨xs, hx, -⟩ := OB8.out
        have h1 := (hx.lt j hj).1
        have e9' : w3.heap.size ≤ j ∧ j < w4.heap.size := e9
        omega) (fun B' z n' v ys j hv hj hs9 e9 => by have h1 : w4.heap.size ≤ j := hs9; have e9' : w3.heap.size ≤ j ∧ j < w4.heap.size := e9; omega))
      have hs9 : w4.heap.size ≤ w9.heap.size := Nat.le_trans HB48.out.size hc9.size
      clear hc9
      go_wp2_with fail
      refine (CE.out _ adB adA cB cA (po_at OB9.out).2 (po_at OA9.out).2).mono ?_
      rintro e w10 ⟨rfl, hb10⟩
      have HB10 := hide (HB9.out.trans (hb10.mono HB9.out.size))
      have OA10 := hide (po_below OA9.out hb10)
      have OB10 := hide (po_below OB9.out hb10)
      have hs10 : w4.heap.size ≤ w10.heap.size := Nat.le_trans hs9 hb10.size
      clear hb10
      go_wp2_with fail
      refine (l_markPO w4.heap.size adB vn cB V w10 HVN.out hkl hs10 HVL.out OB10.out).mono ?_
      rintro e w11 ⟨rfl, ho11, hb11⟩
      have O11 := hide ho11
      have OA11 : Hid (PO w2.heap.size (fun j => j < w3.heap.size) w11 adA vn cA V) := hide (po_kp (T := fun j => w4.heap.size ≤ j) OA10.out ⟨hb11.os, hb11.tape, hb11.output, hb11.size, fun j hj hn9 => hb11.block j (by omega)⟩ (fun j hj e9 => by
        obtain ⟨xs, hx, -⟩ := OA.out
        have h1 := (hx.lt j hj).2
        have h2 := HB34.out.size
        omega) (fun B' z n' v ys j hv hj hs9 e9 => by have h1 : j < w3.heap.size := hs9; have h2 := HB34.out.size; have e9' : w4.heap.size ≤ j := e9; omega))
      have HB11 := hide (HB10.out.trans (hb11.mono HB4.out.size))
      have hkq := ks_le (D := V) HVL.out vn (Nat.le_refl _)
      have hq0 : ¬ ((ksN V vn : Nat) : Int) < 0 := by omega
      clear ho11 hb11
      go_wp2_with fail
      refine (l_heldPO adB vn cB V _ HVN.out hkl HVL.out (po_at O11.out).2).mono ?_
      rintro e w12 ⟨rfl, hb12⟩
      have HB12 := hide (HB11.out.trans (hb12.mono HB11.out.size))
      have HA12 := hide (pnAt_up (pnAt_go HR.out HB12.out) HB12.out.size)
      have OA12 := hide (po_below OA11.out hb12)
      have O12 := hide (po_below O11.out hb12)
      clear hb12
      go_wp2_with fail
      refine (l_toPs2 D n a cap w12 HX.out hl2 HNR.out HA12.out).mono ?_
      rintro e w13 ⟨g13, rfl, hg13, hr13, hsh13, hb13⟩
      have HB13 := hide (HB12.out.trans (hb13.mono HB12.out.size))
      have HR13 := hide hr13
      have HSH13 := hide hsh13
      have OA13 := hide (po_below OA12.out hb13)
      have O13 := hide (po_below O12.out hb13)
      clear hr13 hb13 hsh13
      go_wp2_with fail
      refine (CI.out _ _ _ HR13.out (spots HSH13.out)).mono ?_
      rintro e w14 ⟨adC, cC, rfl, hoC, hb14⟩
      have OC := hide hoC
      have HB14 := hide (HB13.out.trans (hb14.mono HB13.out.size))
      have OA14 := hide (po_below OA13.out hb14)
      have O14 := hide (po_below O13.out hb14)
      clear hoC hb14
      go_wp2_with fail
      refine (CE.out _ adC adA cC cA (po_at OC.out).2 (po_at OA14.out).2).mono ?_
      rintro e w15 ⟨rfl, hb15⟩
      have HB15 := hide (HB14.out.trans (hb15.mono HB14.out.size))
      have O15 := hide (po_below O14.out hb15)
      clear hb15
      go_wp2_with fail
      refine (l_heldPO adB vn cB V _ HVN.out hkl HVL.out (po_at O15.out).2).mono ?_
      rintro e w16 ⟨rfl, hb16⟩
      have HB16 := hide (HB15.out.trans (hb16.mono HB15.out.size))
      clear hb16
      go_wp2
      go_ret
      exact ⟨rfl, HB16.out⟩
  · have HL := hide (dn_no hbig)
    clear hr hD hz
    go_enter Try.func5, Try.ntmps5
    go_wp2_with fail
    refine HS.out.mono ?_
    rintro e w1 ⟨rfl, hb1⟩
    rw [HL.out]
    have HB1 := hide hb1
    clear hb1
    go_wp2
    go_ret
    exact ⟨rfl, HB1.out⟩
end Go.Proofs.Ytfohfljdgmlibaa

/-
  The walk of the law on reading models: at every text both answer the same rows, and the program's answer owns its memory.
-/
namespace Go.Proofs.Ytfohfljdgmlibaa
open Go.RowKit Go.Joins
set_option linter.unusedVariables false
set_option linter.unusedSimpArgs false
/-- Whatever world it is asked in: one model, or none. -/
def MdU (vn : Nat) (V : Pn) (ok : Bool) (w : World) (e : Ending) (w' : World) : Prop := ∃ ad c, e = .returned (.tuple #[.slice ad vn c, .bool ok]) ∧ PO w.heap.size (fun j => w.heap.size ≤ j) w' ad vn c V ∧ Below w.heap.size w w'
theorem md_uni (s : ByteArray) : ∃ V ok vn, V.n = vn ∧ vn ≤ 40 ∧ (∀ w e w', MdAns s w e w' → MdU vn V ok w e w') ∧ ((ok = true ∧ ∃ t, rdP t s.data.toList [] ∧ pkB (fl t emP) = true ∧ V = fl t emP) ∨ (ok = false ∧ NoR s)) := by
  by_cases h : ∃ t, rdP t s.data.toList [] ∧ pkB (fl t emP) = true
  · obtain ⟨t, ht, hp⟩ := h
    refine ⟨fl t emP, true, (fl t emP).n, rfl, (fl_pk hp).2.1, fun w e w' ha => ?_, .inl ⟨rfl, t, ht, hp, rfl⟩⟩
    rcases ha with ⟨t', ad, m, c, h1, h2, h3, h4, h5, h6⟩ | ⟨h1, -⟩
    · obtain ⟨rfl, -⟩ := rd_one t t' _ _ _ ht h1
      subst h5
      exact ⟨ad, c, h3, h4, h6⟩
    · rw [h1 t ht] at hp; cases hp
  · have hn : NoR s := fun t ht => by
      cases hp : pkB (fl t emP)
      · rfl
      · exact absurd ⟨t, ht, hp⟩ h
    refine ⟨emP, false, 0, rfl, by omega, fun w e w' ha => ?_, .inr ⟨rfl, hn⟩⟩
    rcases ha with ⟨t', ad, m, c, h1, h2, -⟩ | ⟨-, h2, h3⟩
    · exact absurd ⟨t', h1, h2⟩ h
    · exact ⟨none, 0, h2, po_nil _ _ _, h3⟩
set_option maxRecDepth 100000 in
set_option maxHeartbeats 8000000 in
theorem rm_walk (s : ByteArray) (w : World) (hs0 : s.size ≤ maxLen) :
    Calls Try.prog 4 #[.string s] w fun e w' => e = .returned (.bool true) ∧ Below w.heap.size w w' := by
  by_cases hbig : s.size ≤ 1048576
  · have hb1 : ¬ (1048576 : Int) < (s.size : Int) := by omega
    obtain ⟨V, ok, vn, hvn, hkl, hu, -⟩ := md_uni s
    have CS := hide (fun (W : World) => (x_model s W hbig).mono (hu W))
    have CI := hide (fun (W : World) => (i_model s W hbig).mono (hu W))
    unfold MdU at CS CI
    have HVN := hide hvn
    clear hvn hu
    go_enter Try.func4, Try.ntmps4
    go_wp2_with fail
    refine (CS.out _).mono ?_
    rintro e w1 ⟨adA, cA, rfl, hoA, hb1'⟩
    have HB1 := hide hb1'
    have OA := hide (po_imp (T := fun j => j < w1.heap.size) hoA (fun j hj _ => hj))
    have HVL := hide (po_len hoA)
    clear hoA hb1'
    go_wp2_with fail
    refine (CI.out _).mono ?_
    rintro e w2 ⟨adB, cB, rfl, hoB, hb2⟩
    have HB2 := hide (HB1.out.trans (hb2.mono HB1.out.size))
    have hs12 := hb2.size
    have OB := hide hoB
    have OA2 := hide (po_below OA.out hb2)
    have CE := hide (fun (W : World) (x y : Option Addr) (cx cy : Nat) (hx : PnAt W x V W.heap.size) (hy : PnAt W y V W.heap.size) => l_eqPs V vn x y cx cy W HVN.out (by omega) (fun j hj => by have := HVL.out j hj; omega) hx hy)
    clear hoB hb2
    go_wp2_with fail
    refine (CE.out _ adB adA cB cA (po_at OB.out).2 (po_at OA2.out).2).mono ?_
    rintro e w3 ⟨rfl, hb3⟩
    have HB3 := hide (HB2.out.trans (hb3.mono HB2.out.size))
    have OA3 := hide (po_below OA2.out hb3)
    have OB3 := hide (po_below OB.out hb3)
    have hs3 : w1.heap.size ≤ w3.heap.size := Nat.le_trans hs12 hb3.size
    have hs1 := HB1.out.size
    clear hb3
    cases ok
    all_goals
      go_wp2_with fail
      refine (l_markPO w1.heap.size adB vn cB V w3 HVN.out hkl hs3 HVL.out OB3.out).mono ?_
      rintro e w4 ⟨rfl, ho4, hb4⟩
      have O4 := hide ho4
      have OA4 : Hid (PO w.heap.size (fun j => j < w1.heap.size) w4 adA vn cA V) := hide (po_kp (T := fun j => w1.heap.size ≤ j) OA3.out ⟨hb4.os, hb4.tape, hb4.output, hb4.size, fun j hj hn9 => hb4.block j (by omega)⟩ (fun j hj e9 => by
        obtain ⟨xs, hx, -⟩ := OA.out
        have h1 := (hx.lt j hj).2
        omega) (fun B' z n' v ys j hv hj hs9 e9 => by have h1 : j < w1.heap.size := hs9; have e9' : w1.heap.size ≤ j := e9; omega))
      have HB4 := hide (HB3.out.trans (hb4.mono hs1))
      have hkq := ks_le (D := V) HVL.out vn (Nat.le_refl _)
      have hq0 : ¬ ((ksN V vn : Nat) : Int) < 0 := by omega
      clear ho4 hb4
      go_wp2_with fail
      refine (l_heldPO adB vn cB V _ HVN.out hkl HVL.out (po_at O4.out).2).mono ?_
      rintro e w5 ⟨rfl, hb5⟩
      have HB5 := hide (HB4.out.trans (hb5.mono HB4.out.size))
      have OA5 := hide (po_below OA4.out hb5)
      have O5 := hide (po_below O4.out hb5)
      clear hb5
      go_wp2_with fail
      refine (CI.out _).mono ?_
      rintro e w6 ⟨adC, cC, rfl, hoC, hb6⟩
      have OC := hide hoC
      have HB6 := hide (HB5.out.trans (hb6.mono HB5.out.size))
      have OA6 := hide (po_below OA5.out hb6)
      have O6 := hide (po_below O5.out hb6)
      clear hoC hb6
      go_wp2_with fail
      refine (CE.out _ adC adA cC cA (po_at OC.out).2 (po_at OA6.out).2).mono ?_
      rintro e w7 ⟨rfl, hb7⟩
      have HB7 := hide (HB6.out.trans (hb7.mono HB6.out.size))
      have O7 := hide (po_below O6.out hb7)
      clear hb7
      go_wp2_with fail
      refine (l_heldPO adB vn cB V _ HVN.out hkl HVL.out (po_at O7.out).2).mono ?_
      rintro e w8 ⟨rfl, hb8⟩
      have HB8 := hide (HB7.out.trans (hb8.mono HB7.out.size))
      clear hb8
      go_wp2
      go_ret
      exact ⟨rfl, HB8.out⟩
  · have hb1 : (1048576 : Int) < (s.size : Int) := by omega
    go_enter Try.func4, Try.ntmps4
    go_wp2
    go_ret
    exact ⟨rfl, Below.refl _ _⟩
end Go.Proofs.Ytfohfljdgmlibaa
