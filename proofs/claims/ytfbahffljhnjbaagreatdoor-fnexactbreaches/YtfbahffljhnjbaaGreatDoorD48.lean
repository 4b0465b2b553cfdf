/-
  Texts put together: ItEq, BrW.
-/
import Derived.Test.YtfbahffljhnjbaaGreatDoorD2
import Derived.Test.YtfbahffljhnjbaaGreatDoorD39
import Derived.Test.YtfbahffljhnjbaaGreatDoorD43
import Derived.Test.YtfbahffljhnjbaaGreatDoorD47
/-
  Contracts: two rows of items that are alike are told so.
-/
namespace Go.Proofs.YtfbahffljhnjbaaGreatDoor
open Go.RowKit Go.Joins
set_option linter.unusedVariables false
set_option linter.unusedSimpArgs false
theorem two_items {w w2 : World} {up : Int} {nm tx : ByteArray} {a a' : Option Addr} {n c c' : Nat} {T U : TypeId}
    (k : Below ((w.alloc (.cells #[.int .i64 up, .string nm, .string tx, .slice a n c] T)).alloc (.cells #[.int .i64 up, .string nm, .string tx, .slice a' n c'] U)).heap.size ((w.alloc (.cells #[.int .i64 up, .string nm, .string tx, .slice a n c] T)).alloc (.cells #[.int .i64 up, .string nm, .string tx, .slice a' n c'] U)) w2) :
    ItAt w2 w.heap.size up nm tx a n c ∧ ItAt w2 (w.heap.size + 1) up nm tx a' n c' ∧ Below w.heap.size w w2 := by
  have h1 := itAt_new w up nm tx a n c T
  have h2 := itAt_new (w.alloc (.cells #[.int .i64 up, .string nm, .string tx, .slice a n c] T)) up nm tx a' n c' U
  have st : ∀ (x : World) (o : Obj), Below x.heap.size x (x.alloc o) := fun x o => (Below.refl _ _).alloc (Nat.le_refl _) _
  refine ⟨itAt_go (itAt_go h1 (st _ _)) k, ?_, ?_⟩
  · have := itAt_go h2 k
    simpa using this
  · exact (((Below.refl w.heap.size w).alloc (Nat.le_refl _) _).alloc (by simp) _).trans (k.mono (by simp; omega))
set_option maxHeartbeats 4000000 in
theorem l_eqI (up : Int) (nm tx : ByteArray) (a a' : Option Addr) (n c c' : Nat) (N V : Nat → ByteArray) (w : World) (hn : n ≤ 1048576) (hr : AtAt w a n N V w.heap.size) (hr' : AtAt w a' n N V w.heap.size) : Calls Tryz.prog 39 #[.agg #[.int .i64 up, .string nm, .string tx, .slice a n c], .agg #[.int .i64 up, .string nm, .string tx, .slice a' n c']] w fun e w' => e = .returned (.bool true) ∧ Below w.heap.size w w' := by
  have HR := hide hr
  have HR' := hide hr'
  clear hr hr'
  go_enter Tryz.func39, Tryz.ntmps39
  go_wp2_with (go_at_call 74; refine (l_eqAs _ _ _ _ _ N V _ hn (atAt_up (atAt_go HR.out (((Below.refl _ _).alloc (Nat.le_refl _) _).alloc (by simp) _)) (by simp; omega)) (atAt_up (atAt_go HR'.out (((Below.refl _ _).alloc (Nat.le_refl _) _).alloc (by simp) _)) (by simp; omega))).mono ?_; rintro e w2 ⟨rfl, hb2⟩; have HX2 := hide (two_items hb2); obtain ⟨a0, a1, a2, a3⟩ := itAt_cells HX2.out.1; obtain ⟨b0, b1, b2, b3⟩ := itAt_cells HX2.out.2.1; clear hb2)
  go_ret
  exact ⟨rfl, HX2.out.2.2⟩
def EQI (w w' : World) (b o b' o' : Nat) (D : Dc) (k : Nat) (ad : Option Addr) (cp : Nat) (ad' : Option Addr) (cp' : Nat) : Prop := Below w.heap.size w w' ∧ (b < w.heap.size ∧ b' < w.heap.size) ∧
  DcCells w' b o D k ad cp ∧ DcCells w' b' o' D k ad' cp' ∧ AtAt w' ad (D.AC k) (D.AN k) (D.AV k) w.heap.size ∧ AtAt w' ad' (D.AC k) (D.AN k) (D.AV k) w.heap.size
section
variable {w w1 w2 : World} {b o b' o' : Nat} {D : Dc} {k : Nat} {ad : Option Addr} {cp : Nat} {ad' : Option Addr} {cp' : Nat}
theorem eqi_go (x : EQI w w1 b o b' o' D k ad cp ad' cp') (h : Below w1.heap.size w1 w2) : EQI w w2 b o b' o' D k ad cp ad' cp' := by
  obtain ⟨hb, ⟨h1, h2⟩, c1, c2, r1, r2⟩ := x
  have hh := h.mono hb.size
  exact ⟨hb.trans hh, ⟨h1, h2⟩, dcCells_go c1 h1 hh, dcCells_go c2 h2 hh, atAt_go r1 hh, atAt_go r2 hh⟩
theorem eqi_drew (x : EQI w w1 b o b' o' D k ad cp ad' cp') : EQI w w1.drew b o b' o' D k ad cp ad' cp' := eqi_go x ⟨rfl, rfl, rfl, Nat.le_refl _, fun _ _ => rfl⟩
theorem eqi_all (x : EQI w w1 b o b' o' D k ad cp ad' cp') : EQI w w1 b o b' o' D k ad cp ad' cp' ∧ (w1.cell? ⟨b, o, none⟩ = some (.int .i64 (D.U k)) ∧ w1.cell? ⟨b, o + 1, none⟩ = some (.string (D.NM k)) ∧ w1.cell? ⟨b, o + 2, none⟩ = some (.string (D.TX k)) ∧ w1.cell? ⟨b, o + 3, none⟩ = some (.slice ad (D.AC k) cp)) ∧ w1.cell? ⟨b', o', none⟩ = some (.int .i64 (D.U k)) ∧ w1.cell? ⟨b', o' + 1, none⟩ = some (.string (D.NM k)) ∧ w1.cell? ⟨b', o' + 2, none⟩ = some (.string (D.TX k)) ∧ w1.cell? ⟨b', o' + 3, none⟩ = some (.slice ad' (D.AC k) cp') := ⟨x, x.2.2.1, x.2.2.2.1⟩
theorem eqi_r1 (x : EQI w w1 b o b' o' D k ad cp ad' cp') : AtAt w1 ad (D.AC k) (D.AN k) (D.AV k) w1.heap.size := atAt_up x.2.2.2.2.1 x.1.size
theorem eqi_r2 (x : EQI w w1 b o b' o' D k ad cp ad' cp') : AtAt w1 ad' (D.AC k) (D.AN k) (D.AV k) w1.heap.size := atAt_up x.2.2.2.2.2 x.1.size
end
set_option maxRecDepth 100000 in
set_option maxHeartbeats 4000000 in
theorem l_eqIs (D : Dc) (n : Nat) (a1 a2 : Option Addr) (c1 c2 : Nat) (w : World) (hX : D.n = n) (hn : n ≤ 1048576) (hnr : ∀ j, j < n → D.AC j ≤ 1048576) (h1 : DcAt w a1 D w.heap.size) (h2 : DcAt w a2 D w.heap.size) :
    Calls Tryz.prog 10 #[.slice a1 n c1, .slice a2 n c2] w fun e w' => e = .returned (.bool true) ∧ Below w.heap.size w w' := by
  have HX := hide hX
  have HNR := hide hnr
  have H1 := hide h1
  have H2 := hide h2
  clear h1 h2 hnr hX
  go_enter Tryz.func10, Tryz.ntmps10
  go_wp2
  go_loopw [5] (fun i wr => ∃ k : Nat, k ≤ n ∧ i = .int .i64 k ∧ Below w.heap.size w wr) (fun i _ => n - (intOf i).toNat)
  case atStart => exact ⟨0, Nat.zero_le _, rfl, Below.refl _ _⟩
  case round =>
    obtain ⟨k, hk, rfl, hb⟩ := hrel
    by_cases hlt : k < n
    · obtain ⟨b, off, rfl, hbs, hc⟩ := H1.out (by rw [HX.out]; omega)
      obtain ⟨b', off', rfl, hbs', hc'⟩ := H2.out (by rw [HX.out]; omega)
      obtain ⟨ad, cp, hk1, hr1, -⟩ := hc k (by rw [HX.out]; omega)
      obtain ⟨ad', cp', hk2, hr2, -⟩ := hc' k (by rw [HX.out]; omega)
      have hnk := HNR.out k hlt
      have XX : Hid (EQI w wr b (off + k * 4) b' (off' + k * 4) D k ad cp ad' cp') := ⟨hb, ⟨hbs, hbs'⟩, dcCells_go hk1 hbs hb, dcCells_go hk2 hbs' hb, atAt_go hr1 hb, atAt_go hr2 hb⟩
      have hi : (k : Int) < (n : Int) := by omega
      have hi0 : (0 : Int) ≤ (k : Int) := by omega
      clear hc hc' hb hk1 hk2 hr1 hr2
      go_wp2
      go_region_held3 (fun w' => EQI w w' b (off + k * 4) b' (off' + k * 4) D k ad cp ad' cp' ∧ (w'.cell? ⟨b, off + k * 4, none⟩ = some (.int .i64 (D.U k)) ∧ w'.cell? ⟨b, off + k * 4 + 1, none⟩ = some (.string (D.NM k)) ∧ w'.cell? ⟨b, off + k * 4 + 2, none⟩ = some (.string (D.TX k)) ∧ w'.cell? ⟨b, off + k * 4 + 3, none⟩ = some (.slice ad (D.AC k) cp)) ∧ w'.cell? ⟨b', off' + k * 4, none⟩ = some (.int .i64 (D.U k)) ∧ w'.cell? ⟨b', off' + k * 4 + 1, none⟩ = some (.string (D.NM k)) ∧ w'.cell? ⟨b', off' + k * 4 + 2, none⟩ = some (.string (D.TX k)) ∧ w'.cell? ⟨b', off' + k * 4 + 3, none⟩ = some (.slice ad' (D.AC k) cp')) (first | assumption | exact eqi_all (eqi_drew XX.out) | exact eqi_all XX.out) (first | (go_at_call 39; refine (l_eqI _ _ _ _ _ _ _ _ (D.AN k) (D.AV k) _ hnk (eqi_r1 (And.left (by assumption))) (eqi_r2 (And.left (by assumption)))).mono ?_; rintro e w2 ⟨rfl, hb2⟩; have X2 := hide (eqi_go (eqi_drew XX.out) hb2); replace XX := X2; clear X2 hb2))
      all_goals
        go_wp2
        go_roundw
        case rel => exact ⟨k + 1, by omega, by go_num, XX.out.1⟩
        case measure => simp [intOf]; omega
    · go_wp2
      go_ret
      exact ⟨rfl, hb⟩
end Go.Proofs.YtfbahffljhnjbaaGreatDoor

/-
  The walk of FnExactBreaches: at every document and row of keys the two answers are the same places; the arguments are as they were, and the answer owns its memory.
-/
namespace Go.Proofs.YtfbahffljhnjbaaGreatDoor
open Go.RowKit Go.Joins
set_option linter.unusedVariables false
set_option linter.unusedSimpArgs false
theorem ky_fewB {L : List Ky} (h : kyTot L ≤ 1048576) : KyFew L := by
  obtain ⟨h1, h2⟩ := ky_sz h
  refine ⟨h1, fun j hj => ?_⟩
  have h3 := h2 j hj
  unfold kyS txTot at h3
  refine ⟨by omega, by omega, by omega, by omega, by omega, fun i hi => ?_⟩
  have h4 := sumN_at (fun q => ((kyA L j).fl[q]?.getD ⟨#[]⟩).size) hi
  unfold txS at h3
  have h5 : (fun q => ((kyA L j).fl[q]?.getD ⟨#[]⟩).size) i = ((kyA L j).fl[i]?.getD ⟨#[]⟩).size := rfl
  omega
theorem bw_chg {w w' : World} {B lo hi : Nat} {e : TypeId} {v : Value} {n : Nat} {xs : List Value} (h : w.ownsRow B e 1 v n xs) (k : Chg lo hi w w') (hX : ∀ j, v.ownBlock = some j → j < lo ∨ hi ≤ j) : w'.ownsRow B e 1 v n xs := by
  refine ⟨h.1, ?_⟩
  rcases h.2 with hn | ⟨g, cap, cur, hv, hB, hg, rest⟩
  · exact .inl hn
  · refine .inr ⟨g, cap, cur, hv, hB, ?_, rest⟩
    rw [k.block g (Array.getElem?_eq_some_iff.1 hg).1 (hX g (by rw [hv]; rfl))]; exact hg
theorem bw_ac {D : Dc} (h : dcTot D ≤ 1048576) : sumN D.AC D.n ≤ 1048576 := by
  unfold dcTot at h
  have h1 : ∀ m, sumN D.AC m ≤ sumN (itSz D) m := by
    intro m
    induction m with
    | zero => exact Nat.le_refl _
    | succ m ih =>
      show sumN D.AC m + D.AC m ≤ sumN (itSz D) m + itSz D m
      have : D.AC m ≤ itSz D m := by unfold itSz atTot; omega
      omega
  have := h1 D.n
  omega
theorem bw_fc {K : List Ky} (h : kyTot K ≤ 1048576) : sumN (fun j => (kyA K j).fl.length) K.length ≤ 1048576 := by
  unfold kyTot at h
  have h1 : ∀ m, sumN (fun j => (kyA K j).fl.length) m ≤ sumN (fun j => kyS (kyA K j)) m := by
    intro m
    induction m with
    | zero => exact Nat.le_refl _
    | succ m ih =>
      show sumN (fun j => (kyA K j).fl.length) m + (kyA K m).fl.length ≤ sumN (fun j => kyS (kyA K j)) m + kyS (kyA K m)
      have : (kyA K m).fl.length ≤ kyS (kyA K m) := by unfold kyS txTot; omega
      omega
  have := h1 K.length
  omega
theorem bw_drew {b : Nat} {w w1 : World} (h : Below b w w1) (q : Nat) : Below b w (w1.drewN q) := h.trans ⟨rfl, rfl, rfl, Nat.le_refl _, fun _ _ => rfl⟩
set_option maxRecDepth 100000 in
set_option maxHeartbeats 16000000 in
theorem br_walk (D : Dc) (n : Nat) (a : Option Addr) (cap : Nat) (K : List Ky) (kn : Nat) (ka : Option Addr) (kc : Nat) (w : World) (hD : D.n = n) (hz : DcSz D) (hr : DcAt w a D w.heap.size) (hL : K.length = kn) (hk : KySz K) (hkr : KyAt w ka K w.heap.size) (hT : Tabs w) (hM : MaxL w) :
    Calls Tryz.prog 5 #[.slice a n cap, .slice ka kn kc] w fun e w' => e = .returned (.bool true) ∧ Below w.heap.size w w' := by
  have HS := hide (l_szIs D n a cap w hD hz hr)
  by_cases hbig : (dcTot D : Int) ≤ 1048576
  · have HL := hide (dn_yes hbig)
    have hl9 : (0 : Int) ≤ 1048576 - (dcTot D : Int) := by omega
    have HSK := hide (fun (W : World) (hb : Below w.heap.size w W) => l_szKsL (1048576 - (dcTot D : Int)) K kn ka kc W hl9 (by omega) hL hk (kyAt_up (kyAt_go hkr hb) hb.size))
    have hb9 : dcTot D ≤ 1048576 := by omega
    by_cases hbk : (kyTot K : Int) ≤ 1048576 - (dcTot D : Int)
    · have HLK := hide (dn_yes hbk)
      have hlk9 : (0 : Int) ≤ 1048576 - (dcTot D : Int) - (kyTot K : Int) := by omega
      have hk9 : kyTot K ≤ 1048576 := by omega
      obtain ⟨LL, hLL⟩ : ∃ LL, 1048576 - (dcTot D : Int) - (kyTot K : Int) = LL := ⟨_, rfl⟩
      rw [hLL] at HLK hlk9
      have hl2 : n ≤ 1048576 := by rw [← hD]; exact (dc_sz hb9).1
      have hnr : ∀ j, j < n → D.AC j ≤ 1048576 := fun j hj => by have := ((dc_sz hb9).2 j (by omega)).1; omega
      have hkl : kn ≤ 1048576 := by rw [← hL]; exact (ky_sz hk9).1
      have hkr9 : ∀ j, j < kn → (kyA K j).fl.length ≤ 1048576 := fun j hj => ((ky_fewB hk9).2 j (by omega)).2.2.2.2.1
      have HAC : Hid (sumN D.AC n ≤ 1048576) := hide (by rw [← hD]; exact bw_ac hb9)
      have HFC : Hid (sumN (fun j => (kyA K j).fl.length) kn ≤ 1048576) := hide (by rw [← hL]; exact bw_fc hk9)
      have CTI := hide (fun (W : World) (hb : Below w.heap.size w W) => l_toIs2 D n a cap W hD hl2 hnr (dcAt_up (dcAt_go hr hb) hb.size))
      have CTK := hide (fun (W : World) (hb : Below w.heap.size w W) => l_toKs2 K kn ka kc W hL hkl hkr9 (kyAt_up (kyAt_go hkr hb) hb.size))
      have CS := hide (fun (a' : Option Addr) (c' : Nat) (k' : Option Addr) (kc' : Nat) (w' : World) (h : DcAt w' a' D w'.heap.size) (h2 : KyAt w' k' K w'.heap.size) => s_breaches D n a' c' K kn k' kc' w' hD hb9 hL (ky_fewB hk9) h h2)
      have CI := hide (fun (a' : Option Addr) (c' : Nat) (k' : Option Addr) (kc' : Nat) (w' : World) (h : DcAt w' a' D w'.heap.size) (h2 : KyAt w' k' K w'.heap.size) (hb : Below w.heap.size w w') => i_breaches D n a' c' K kn k' kc' w' hD hb9 hL (ky_fewB hk9) h h2 (tabs_below hT hb) (maxL_go hM hb (Nat.le_refl _)))
      have CEI := hide (fun (a1 a2 : Option Addr) (c1 c2 : Nat) (W : World) (h1 : DcAt W a1 D W.heap.size) (h2 : DcAt W a2 D W.heap.size) => l_eqIs D n a1 a2 c1 c2 W hD hl2 hnr h1 h2)
      have CEK := hide (fun (a1 a2 : Option Addr) (c1 c2 : Nat) (W : World) (h1 : KyAt W a1 K W.heap.size) (h2 : KyAt W a2 K W.heap.size) => l_eqKs K kn a1 a2 c1 c2 W hL hkl hkr9 h1 h2)
      have hbl := brV_len D K
      unfold IntR at CS CI
      obtain ⟨L, hLe⟩ : ∃ L, brV D K = L := ⟨_, rfl⟩
      rw [hLe] at CS CI hbl
      have hn : L.length ≤ 1048576 := by omega
      have hc1 : ¬ (1 + (L.length : Int)) < 0 := by omega
      clear hr hD hz hT hM hb9 hL hk hkr hk9 hnr hkr9 hLL hLe hbk hbig
      go_enter Tryz.func5, Tryz.ntmps5
      go_wp2_with fail
      refine HS.out.mono ?_
      rintro e w1 ⟨rfl, hb1⟩
      rw [HL.out]
      have HB1 := hide hb1
      clear hb1
      go_wp2_with fail
      refine (HSK.out _ HB1.out).mono ?_
      rintro e v1 ⟨rfl, hb1⟩
      rw [HLK.out]
      have HV1 := hide (HB1.out.trans (hb1.mono HB1.out.size))
      clear hb1
      go_wp2_with fail
      refine (CTI.out _ HV1.out).mono ?_
      rintro e w2 ⟨g2, rfl, hg2, hr2, -, hb2⟩
      have HB2 := hide (HV1.out.trans (hb2.mono HV1.out.size))
      have HR2 := hide hr2
      clear hr2 hb2
      go_wp2_with fail
      refine (CTK.out _ HB2.out).mono ?_
      rintro e v2 ⟨k2, rfl, hk2, hq2, -, hb2⟩
      have HV2 := hide (HB2.out.trans (hb2.mono HB2.out.size))
      have HR2v := hide (dcAt_up (dcAt_go HR2.out hb2) hb2.size)
      have HQ2 := hide hq2
      clear hq2 hb2
      go_wp2_with fail
      refine (CS.out _ _ _ _ _ HR2v.out HQ2.out).mono ?_
      rintro e w3 ⟨adA, cA, rfl, hoA, hb3⟩
      have OA := hide hoA
      have HB3 := hide (HV2.out.trans (hb3.mono HV2.out.size))
      clear hoA hb3
      go_wp2_with fail
      refine (CTI.out _ HB3.out).mono ?_
      rintro e w4 ⟨g4, rfl, hg4, hr4, hsh4, hb4⟩
      have HB4 := hide (HB3.out.trans (hb4.mono HB3.out.size))
      have HB34 := hide hb4
      have HR4 := hide hr4
      have HSH4 := hide hsh4
      have OA4 := hide (own_below' OA.out hb4)
      clear hr4 hsh4 hb4
      go_wp2_with fail
      refine (CTK.out _ HB4.out).mono ?_
      rintro e v4 ⟨k4, rfl, hk4, hq4, hsk4, hb4⟩
      have HV4 := hide (HB4.out.trans (hb4.mono HB4.out.size))
      have HW4 := hide hb4
      have HR4v := hide (dcAt_up (dcAt_go HR4.out hb4) hb4.size)
      have HQ4 := hide hq4
      have HSK4 := hide hsk4
      have HSH4v := hide (shI_go HSH4.out (chg_below (lo := 0) (hi := 0) hb4) (.inr (Nat.zero_le _)))
      have OA4v := hide (own_below' OA4.out hb4)
      clear hq4 hsk4 hb4
      go_wp2_with fail
      refine (CI.out _ _ _ _ _ HR4v.out HQ4.out HV4.out).mono ?_
      rintro e w5 ⟨adB, cB, rfl, hoB, hb5⟩
      have OB := hide hoB
      have HB45 := hide hb5
      have HB5 := hide (HV4.out.trans (hb5.mono HV4.out.size))
      have OA5 := hide (own_below' OA4v.out hb5)
      clear hoB hb5
      go_wp2_with fail
      refine (eq_same adB adA L.length cB cA L _ rfl hn (own_rowAt' rfl OB.out) (own_rowAt' rfl OA5.out)).mono ?_
      rintro e w6 ⟨rfl, q6, rfl⟩
      have HB6 := hide (bw_drew HB5.out q6)
      go_wp2_with fail
      refine (CTI.out _ HB6.out).mono ?_
      rintro e w7 ⟨g7, rfl, hg7, hr7, -, hb7⟩
      have hb7' : Below w5.heap.size w5 w7 := ⟨hb7.os, hb7.tape, hb7.output, hb7.size, hb7.block⟩
      have HB7 := hide (HB5.out.trans (hb7'.mono HB5.out.size))
      have HB47 := hide (HB45.out.trans (hb7'.mono HB45.out.size))
      have HR7 := hide hr7
      have HR47 := hide (dcAt_up (dcAt_go HR4v.out HB47.out) HB47.out.size)
      have OA7 := hide (own_below' OA5.out hb7')
      have OB7 := hide (own_below' OB.out hb7')
      clear hr7 hb7 hb7'
      go_wp2_with fail
      refine (CEI.out _ _ _ _ _ HR47.out HR7.out).mono ?_
      rintro e w8 ⟨rfl, hb8⟩
      have HB8 := hide (HB7.out.trans (hb8.mono HB7.out.size))
      have HB48 := hide (HB47.out.trans (hb8.mono HB47.out.size))
      have OA8 := hide (own_below' OA7.out hb8)
      have OB8 := hide (own_below' OB7.out hb8)
      clear hb8
      go_wp2_with fail
      refine (CTK.out _ HB8.out).mono ?_
      rintro e v7 ⟨k7, rfl, hk7, hq7, -, hb7⟩
      have HV7 := hide (HB8.out.trans (hb7.mono HB8.out.size))
      have HV47 := hide (HB48.out.trans (hb7.mono HB48.out.size))
      have HQ7 := hide hq7
      have HQ47 := hide (kyAt_up (kyAt_go HQ4.out HV47.out) HV47.out.size)
      have OA7v := hide (own_below' OA8.out hb7)
      have OB7v := hide (own_below' OB8.out hb7)
      clear hq7 hb7
      go_wp2_with fail
      refine (CEK.out _ _ _ _ _ HQ47.out HQ7.out).mono ?_
      rintro e v8 ⟨rfl, hb8⟩
      have HV8 := hide (HV7.out.trans (hb8.mono HV7.out.size))
      have HV48 := hide (HV47.out.trans (hb8.mono HV47.out.size))
      have OA8v := hide (own_below' OA7v.out hb8)
      have OB8v := hide (own_below' OB7v.out hb8)
      have HSH8 := hide (shI_go HSH4v.out (chg_below (lo := 0) (hi := 0) HV48.out) (.inr (Nat.zero_le _)))
      have HSK8 := hide (shK_go HSK4.out (chg_below (lo := 0) (hi := 0) HV48.out) (.inr (Nat.zero_le _)))
      clear hb8
      go_wp2_with fail
      refine (l_markIs9 g4 n n D.AC w3.heap.size w4.heap.size _ hl2 HAC.out HSH8.out).mono ?_
      rintro e w9 ⟨kk, rfl, hkk, hkk2, hc9⟩
      have HB9 := hide (below_chg HV8.out (Nat.le_refl _) HB3.out.size hc9)
      have OA9 := hide (bw_chg OA8v.out hc9 (fun j hj => .inl (OA.out.lt j hj).2))
      have OB9 := hide (bw_chg OB8v.out hc9 (fun j hj => .inr (Nat.le_trans HW4.out.size (OB.out.lt j hj).1)))
      have HSK9 := hide (shK_go HSK8.out hc9 (.inr (shK_in HSK8.out).1))
      clear hc9
      go_wp2_with fail
      refine (l_markKs k4 kn kn (fun j => (kyA K j).fl.length) w4.heap.size v4.heap.size kk _ hkl HFC.out hkk hkk2 HSK9.out).mono ?_
      rintro e v9 ⟨kq, rfl, hkq, hc9⟩
      have hkq2 : ¬ kq < 0 := by omega
      have HV9 := hide (below_chg HB9.out (Nat.le_refl _) HB4.out.size hc9)
      have OA9v := hide (bw_chg OA9.out hc9 (fun j hj => .inl (Nat.lt_of_lt_of_le (OA.out.lt j hj).2 HB34.out.size)))
      have OB9v := hide (bw_chg OB9.out hc9 (fun j hj => .inr (OB.out.lt j hj).1))
      clear hc9
      go_wp2_with fail
      refine (eq_same adB adA L.length cB cA L _ rfl hn (own_rowAt' rfl OB9v.out) (own_rowAt' rfl OA9v.out)).mono ?_
      rintro e w10 ⟨rfl, q10, rfl⟩
      go_wp2_with fail
      refine (mark_any v4.heap.size adB L.length cB L (v9.drewN q10) rfl hn (show (v9.drewN q10).ownsRow v4.heap.size 2 1 (.slice adB L.length cB) L.length (L.map (Value.int .i64)) from OB9v.out)).mono ?_
      rintro e w11 ⟨rfl, ho11, hb11⟩
      have O11 := hide ho11
      have hb11' : Below v4.heap.size v9 w11 := ⟨hb11.os, hb11.tape, hb11.output, hb11.size, hb11.block⟩
      have OA11 := hide (own_stays OA9v.out hb11' (fun j hj => Nat.lt_of_lt_of_le (OA.out.lt j hj).2 (Nat.le_trans HB34.out.size HW4.out.size)))
      have HB11 := hide (HV9.out.trans (hb11'.mono HV4.out.size))
      clear ho11 hb11 hb11'
      go_wp2_with fail
      refine (held_ints adB L.length cB _ hn (own_rowAt' (upFrom_len 1 _) O11.out)).mono ?_
      rintro e w12 ⟨rfl, q12, rfl⟩
      have HB12 := hide (bw_drew HB11.out q12)
      go_wp2_with fail
      refine (CTI.out _ HB12.out).mono ?_
      rintro e w13 ⟨g13, rfl, hg13, hr13, -, hb13⟩
      have hb13' : Below w11.heap.size w11 w13 := ⟨hb13.os, hb13.tape, hb13.output, hb13.size, hb13.block⟩
      have HB13 := hide (HB11.out.trans (hb13'.mono HB11.out.size))
      have HR13 := hide hr13
      have OA13 := hide (own_below' OA11.out hb13')
      have O13 := hide (own_below' O11.out hb13')
      clear hr13 hb13 hb13'
      go_wp2_with fail
      refine (CTK.out _ HB13.out).mono ?_
      rintro e v13 ⟨k13, rfl, hk13, hq13, -, hb13⟩
      have HV13 := hide (HB13.out.trans (hb13.mono HB13.out.size))
      have HQ13 := hide hq13
      have HR13v := hide (dcAt_up (dcAt_go HR13.out hb13) hb13.size)
      have OA13v := hide (own_below' OA13.out hb13)
      have O13v := hide (own_below' O13.out hb13)
      clear hq13 hb13
      go_wp2_with fail
      refine (CI.out _ _ _ _ _ HR13v.out HQ13.out HV13.out).mono ?_
      rintro e w14 ⟨adC, cC, rfl, hoC, hb14⟩
      have OC := hide hoC
      have HB14 := hide (HV13.out.trans (hb14.mono HV13.out.size))
      have OA14 := hide (own_below' OA13v.out hb14)
      have O14 := hide (own_below' O13v.out hb14)
      clear hoC hb14
      go_wp2_with fail
      refine (eq_same adC adA L.length cC cA L _ rfl hn (own_rowAt' rfl OC.out) (own_rowAt' rfl OA14.out)).mono ?_
      rintro e w15 ⟨rfl, q15, rfl⟩
      go_wp2_with fail
      refine (held_ints adB L.length cB _ hn (show RowAt .i64 (w14.drewN q15) adB (upFrom 1 L.length) (w14.drewN q15).heap.size from own_rowAt' (upFrom_len 1 _) O14.out)).mono ?_
      rintro e w16 ⟨rfl, q16, rfl⟩
      go_wp2
      go_ret
      exact ⟨rfl, ⟨HB14.out.os, HB14.out.tape, HB14.out.output, HB14.out.size, HB14.out.block⟩⟩
    · have HLK := hide (dn_no hbk)
      clear hr hD hz hT hM hL hk hkr
      go_enter Tryz.func5, Tryz.ntmps5
      go_wp2_with fail
      refine HS.out.mono ?_
      rintro e w1 ⟨rfl, hb1⟩
      rw [HL.out]
      have HB1 := hide hb1
      clear hb1
      go_wp2_with fail
      refine (HSK.out _ HB1.out).mono ?_
      rintro e v1 ⟨rfl, hb1⟩
      rw [HLK.out]
      have HV1 := hide (HB1.out.trans (hb1.mono HB1.out.size))
      clear hb1
      go_wp2
      go_ret
      exact ⟨rfl, HV1.out⟩
  · have HL := hide (dn_no hbig)
    clear hr hD hz hT hM hL hk hkr
    go_enter Tryz.func5, Tryz.ntmps5
    go_wp2_with fail
    refine HS.out.mono ?_
    rintro e w1 ⟨rfl, hb1⟩
    rw [HL.out]
    have HB1 := hide hb1
    clear hb1
    go_wp2
    go_ret
    exact ⟨rfl, HB1.out⟩
end Go.Proofs.YtfbahffljhnjbaaGreatDoor
