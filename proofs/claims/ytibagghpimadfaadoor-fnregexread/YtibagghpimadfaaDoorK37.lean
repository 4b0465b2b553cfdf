/-
  Texts put together: RsT, RgW, TabOf.
-/
import Derived.Test.YtibagghpimadfaaDoorK36
import Derived.Deep.RegionWith
import Derived.Deep.RegionHeld3
import Derived.Test.YtibagghpimadfaaDoorK28
import Derived.Test.YtibagghpimadfaaDoorK29
import Derived.WalkKit
import Derived.ProofKit
import Derived.Below
import Derived.Lib.SmallJoins
import Derived.Lib.LaidIn
import Derived.Lib.LaidU8T
/-
  Contract: what the specification reads as an expression.
-/
namespace Go.Proofs.YtibagghpimadfaaDoor
open Go.RowKit Go.Joins
set_option linter.unusedVariables false
set_option linter.unusedSimpArgs false
theorem bl_drewY {w w3 : World} (h : Below w.drew.heap.size w.drew w3) : Below w.heap.size w w3 := ⟨h.os, h.tape, h.output, h.size, h.block⟩
theorem bl_drew1 (w : World) : Below w.heap.size w w.drew := ⟨rfl, rfl, rfl, Nat.le_refl _, fun _ _ => rfl⟩
theorem bl_drewX {w w3 : World} {B : Nat} (h : Below w.drew.heap.size w.drew w3) (hB : B ≤ w.heap.size) : Below B w w3 := (bl_drewY h).mono hB
theorem c_drewX {w w3 : World} {R i : Nat} {v : Value} (h : w.cell? ⟨R, i, none⟩ = some v) (hb : Below w.drew.heap.size w.drew w3) : w3.cell? ⟨R, i, none⟩ = some v := by
  have hlt : R < w.heap.size := by
    rcases Nat.lt_or_ge R w.heap.size with h9 | h9
    · exact h9
    · simp [World.cell?, Array.getElem?_eq_none h9] at h
  have h1 := (bl_drewY hb).block R hlt
  simp only [World.cell?] at h ⊢
  rw [h1]
  exact h
/-- The reader as it begins. -/
theorem sd_new {w : World} {ta : Option Addr} {tc : Nat} {C : List Int} {n : Nat} (hn : C.length = n) (h4 : n ≤ 400) (ht : Tx w.heap.size w ta tc C) : SD (fun j => w.heap.size ≤ j) w.heap.size w.heap.size (w.alloc (.cells #[.slice ta n tc, .int .i64 0, .bool false, .slice none 0 0] 49)) C 0 false [] := by
  subst hn
  refine ⟨⟨Nat.le_refl _, Nat.zero_le _, h4⟩, ta, tc, none, 0, heap_alloc_new w _, tx_go ht ((Below.refl w.heap.size w).alloc (Nat.le_refl _) _), xo_nil _ _ _, fun k hk => (by cases hk)⟩
set_option maxRecDepth 100000 in
set_option maxHeartbeats 8000000 in
theorem s_readRegex (s : ByteArray) (C : List Int) (b : Bool) (w : World) (hs : s.size ≤ 1048576) (hC : outL (rns s) = C) (hb : (rns s).isSome = b) :
    Calls Tryd.prog 9 #[.string s] w (LtAns (rgV C b) (rgO C b) w) := by
  have CR := hide (s_runes_lb s C b w hs hC hb)
  have hcl : C.length ≤ 20000 := by rw [← hC]; exact outL_len s
  have HCH : Hid (∀ c ∈ C, chB c = true) := hide (by rw [← hC]; exact outL_ch s)
  clear hC hb
  go_enter Tryd.func9, Tryd.ntmps9
  go_wp2_with fail
  refine CR.out.mono ?_
  rintro e w1 ⟨ta, tc, rfl, ho1, hb1⟩
  have HO1 := hide ho1
  have HB1 := hide hb1
  clear ho1 hb1 CR
  cases b
  · have E : Hid (rgW C false = none) := hide (by unfold rgW; rw [if_neg (by simp)])
    go_wp2
    go_ret2
    exact rg_no E.out HB1.out
  · by_cases h4 : 400 < C.length
    · have h4' : (400 : Int) < (C.length : Int) := by omega
      have E : Hid (rgW C true = none) := hide (by unfold rgW; rw [if_neg (by omega)])
      go_wp2
      go_ret2
      exact rg_no E.out HB1.out
    · have h4' : ¬ (400 : Int) < (C.length : Int) := by omega
      have htc : C.length ≤ tc ∧ tc ≤ maxLen := by
        rcases HO1.out.2 with ⟨hv', hz⟩ | ⟨g', cap', cur', hv', -, -, hcc, hmx, -⟩
        · simp only [Value.slice.injEq] at hv'
          unfold maxLen; omega
        · simp only [Value.slice.injEq] at hv'
          omega
      have HE0 : Hid (rgW C true = match rdW C with
        | none => none
        | some X => if rxB (rxOf X) = true then some X else none) := hide (by unfold rgW; rw [if_pos ⟨rfl, by omega⟩] <;> rfl)
      have HS1 := hide (sd_new (w := w1) rfl (by omega) (tx_own HO1.out hcl HCH.out htc))
      have HQ := hide (s_all C.length w1.heap.size w1.heap.size C 0 [] _ (4 * C.length + 4) (by omega) (by omega) (by simp) HS1.out)
      have hC0 : C.drop 0 = C := rfl
      rw [hC0] at HQ
      have bA := hide ((Below.refl w1.heap.size w1).alloc (Nat.le_refl _) (.cells #[.slice ta C.length tc, .int .i64 0, .bool false, .slice none 0 0] 49))
      clear hC0
      go_wp2_with fail
      refine HQ.out.mono ?_
      rintro e w2 (⟨k2, X2, ho, hX2, rfl, h2, hb2⟩ | ⟨⟨v, k2, X2, rfl, h2⟩, hno, hb2⟩)
      · have HB2 := hide (HB1.out.trans ((bA.out.trans hb2).mono HB1.out.size))
        obtain ⟨R, hR⟩ : ∃ R, w1.heap.size = R := ⟨_, rfl⟩
        rw [hR] at h2
        have hRw : w.heap.size ≤ R := by have := HB1.out.size; omega
        obtain ⟨tz, tcz, adz, cpz, ⟨c0, c1, c2, c3⟩, ff, -⟩ := sd_cells h2
        have hk2 := h2.1.2.1
        have HX2 : Hid (∃ ad c, w2.cell? ⟨R, 3, none⟩ = some (.slice ad X2.length c) ∧ XOZ 500 w.heap.size (fun j => w.heap.size ≤ j) w2 ad c X2) := hide (by
          obtain ⟨h0, t1, tc1, ad, c, hx1, htx1, hxo, hxk⟩ := h2
          exact ⟨ad, c, (sx_cells hx1).2.2.2, xo_imp (xo_lower hxo hRw) (fun k _ hs => Nat.le_trans hRw hs)⟩)
        obtain ⟨ad, cp, c3', hxo⟩ := HX2.out
        have HX := hide hxo
        clear c3 ff HX2 hxo HQ HS1 bA
        by_cases hend : k2 < C.length
        · have hd : decide ((k2 : Int) < (C.length : Int)) = true := decide_eq_true (by omega)
          have hi : (k2 : Int) < (C.length : Int) := by omega
          have hd2 : decide (k2 < C.length) = true := decide_eq_true hend
          have E : Hid (rgW C true = none) := hide (by
            rw [HE0.out]
            have e9 : C.drop k2 = C[k2] :: C.drop (k2 + 1) := List.drop_eq_getElem_cons hend
            rw [e9] at ho
            rw [rdW_more ho])
          clear ho HE0 h2
          go_wp2
          go_quiet (fail)
          revert nq; intro n1
          have HB3 : Hid (Below w.heap.size w (w2.drewN n1)) := hide (HB2.out.trans ((bl_drewN w2 n1).mono HB2.out.size))
          go_wp2
          go_ret2
          exact rg_no E.out HB3.out
        · have hd : decide ((k2 : Int) < (C.length : Int)) = false := decide_eq_false (by omega)
          have hi : ¬ (k2 : Int) < (C.length : Int) := by omega
          have hd2 : decide (k2 < C.length) = false := decide_eq_false hend
          have hdr : C.drop k2 = [] := List.drop_eq_nil_of_le (by omega)
          rw [hdr] at ho
          have HE1 : Hid (rgW C true = if rxB (rxOf X2) = true then some X2 else none) := hide (by rw [HE0.out, rdW_some ho])
          have CG := hide (fun (W : World) (hW : XOZ 500 w.heap.size (fun j => w.heap.size ≤ j) W ad cp X2) => s_regex (rxOf X2) X2.length ad cp W rfl (by unfold maxLen; omega) (fun j hj => by
            have h9 := xo_at5 hW hj
            show (ndAt X2 j).L.length ≤ maxLen
            unfold maxLen
            omega) (xo_rx hW))
          clear ho HE0 h2 hdr
          have hRlt : R < w2.heap.size := by
            rcases Nat.lt_or_ge R w2.heap.size with h9 | h9
            · exact h9
            · simp [World.cell?, Array.getElem?_eq_none h9] at c0
          have HKS : Hid (∀ W9, Below w2.heap.size w2 W9 → Below w2.heap.size w2 W9 ∧ W9.cell? ⟨R, 0, none⟩ = some (.slice tz C.length tcz) ∧ W9.cell? ⟨R, 1, none⟩ = some (.int .i64 (k2 : Int)) ∧ W9.cell? ⟨R, 2, none⟩ = some (.bool false) ∧ W9.cell? ⟨R, 3, none⟩ = some (.slice ad X2.length cp)) := hide (fun W9 h9 => ⟨h9, (h9.cell (p := ⟨R, 0, none⟩) hRlt).trans c0, (h9.cell (p := ⟨R, 1, none⟩) hRlt).trans c1, (h9.cell (p := ⟨R, 2, none⟩) hRlt).trans c2, (h9.cell (p := ⟨R, 3, none⟩) hRlt).trans c3'⟩)
          have XX : Hid (Below w2.heap.size w2 w2) := hide (Below.refl _ _)
          clear c0 c1 c2 c3'
          cases hq : rxB (rxOf X2)
          · have E : Hid (rgW C true = none) := hide (by rw [HE1.out, if_neg (by rw [hq]; decide)])
            rw [hq] at CG
            clear hq HE1
            go_wp2_with fail
            go_region_held3 (fun W9 => Below w2.heap.size w2 W9 ∧ W9.cell? ⟨R, 0, none⟩ = some (.slice tz C.length tcz) ∧ W9.cell? ⟨R, 1, none⟩ = some (.int .i64 (k2 : Int)) ∧ W9.cell? ⟨R, 2, none⟩ = some (.bool false) ∧ W9.cell? ⟨R, 3, none⟩ = some (.slice ad X2.length cp)) (first | assumption | exact HKS.out _ (XX.out.drew) | exact HKS.out _ XX.out) (first | (go_at_call 27; refine (CG.out _ (xo_below HX.out (XX.out.drew))).mono ?_; rintro e w9 ⟨rfl, hb9⟩; have X2 : Hid (Below w2.heap.size w2 w9) := hide (bl_drewY ⟨hb9.os, hb9.tape, hb9.output, hb9.size, hb9.block⟩); replace XX := X2; clear X2 hb9))
            all_goals
              have HB3 := hide (HB2.out.trans (XX.out.mono HB2.out.size))
              go_wp2
              go_ret2
              exact rg_no E.out HB3.out
          · have E : Hid (rgW C true = some X2) := hide (by rw [HE1.out, if_pos hq])
            have HQ := hide hq
            rw [hq] at CG
            clear hq HE1
            go_wp2_with fail
            go_region_held3 (fun W9 => Below w2.heap.size w2 W9 ∧ W9.cell? ⟨R, 0, none⟩ = some (.slice tz C.length tcz) ∧ W9.cell? ⟨R, 1, none⟩ = some (.int .i64 (k2 : Int)) ∧ W9.cell? ⟨R, 2, none⟩ = some (.bool false) ∧ W9.cell? ⟨R, 3, none⟩ = some (.slice ad X2.length cp)) (first | assumption | exact HKS.out _ (XX.out.drew) | exact HKS.out _ XX.out) (first | (go_at_call 27; refine (CG.out _ (xo_below HX.out (XX.out.drew))).mono ?_; rintro e w9 ⟨rfl, hb9⟩; have X2 : Hid (Below w2.heap.size w2 w9) := hide (bl_drewY ⟨hb9.os, hb9.tape, hb9.output, hb9.size, hb9.block⟩); replace XX := X2; clear X2 hb9))
            all_goals
              have HB3 := hide (HB2.out.trans (XX.out.mono HB2.out.size))
              have HX3 := hide (xo_below HX.out XX.out)
              obtain ⟨-, -, -, -, c33⟩ := HKS.out _ XX.out
              go_wp2
              go_ret2
              exact rg_yes E.out HX3.out HQ.out HB3.out
      · have HB2 := hide (HB1.out.trans ((bA.out.trans hb2).mono HB1.out.size))
        obtain ⟨R, hR⟩ : ∃ R, w1.heap.size = R := ⟨_, rfl⟩
        rw [hR] at h2
        obtain ⟨tz, tcz, adz, cpz, ⟨c0, c1, c2, c3⟩, ff, -⟩ := sd_cells h2
        have E : Hid (rgW C true = none) := hide (by
          rw [HE0.out]
          cases hq : rdW C with
          | none => rfl
          | some Y =>
            have h9 : ∃ u, rdC (4 * C.length + 4) C [] = some (u, Y) := by
              unfold rdW at hq
              split at hq
              · rename_i Z e9
                cases hq
                exact ⟨_, e9⟩
              · cases hq
            obtain ⟨u, h9⟩ := h9
            have h10 := bd_rx (hno u Y h9)
            show (if rxB (rxOf Y) = true then some Y else none) = none
            rw [h10]
            rfl)
        clear hno HE0 h2 HQ HS1 bA ff
        go_wp2
        go_quiet (fail)
        revert nq; intro n1
        have HB3 : Hid (Below w.heap.size w (w2.drewN n1)) := hide (HB2.out.trans ((bl_drewN w2 n1).mono HB2.out.size))
        go_wp2
        go_ret2
        exact rg_no E.out HB3.out
end Go.Proofs.YtibagghpimadfaaDoor

/-
  The walk of the law on texts that are read as expressions: what is read is a right expression, whose text is read as it.
-/
namespace Go.Proofs.YtibagghpimadfaaDoor
open Go.RowKit Go.Joins
set_option linter.unusedVariables false
set_option linter.unusedSimpArgs false
theorem l_bigR (a : Option Addr) (n cap : Nat) (w : World) (h : n ≤ 1048576) : Calls Tryd.prog 6 #[.slice a n cap] w fun e w' => e = .returned (.bool false) ∧ w' = w := by
  have h' : ¬ (1048576 : Int) < (n : Int) := by omega
  go_enter Tryd.func6, Tryd.ntmps6
  go_wp2
  go_ret
  exact ⟨rfl, rfl⟩
theorem rxT_size {X : Rx} (h : rxB X = true) : (rxT X).size ≤ 20000 := by
  obtain ⟨h1, hm, ht⟩ := rx_ok h
  have hs := (nt_size X X.len hm X.len (X.len - 1) 0 (by omega) (by omega) ht).1
  unfold rxT txX
  rw [if_pos h, if_pos rfl]
  split
  · show 0 ≤ 20000; omega
  · omega
/-- Two rows of nodes of the call's own that are alike. -/
theorem same_xo {B1 B2 Z1 Z2 : Nat} {S1 S2 : Nat → Prop} {w : World} {a1 a2 : Option Addr} {c1 c2 : Nat} {V : List Nd} {n : Nat} (hn : V.length = n) (h120 : n ≤ 120) (hz1 : Z1 ≤ 1000) (h1 : XOZ Z1 B1 S1 w a1 c1 V) (h2 : XOZ Z2 B2 S2 w a2 c2 V) :
    Calls Tryd.prog 10 #[.slice a1 n c1, .slice a2 n c2] w fun e w' => e = .returned (.bool true) ∧ Below w.heap.size w w' :=
  l_sameNs (rxOf V) n a1 a2 c1 c2 w hn (by omega) (fun j hj => by
    have h9 := xo_at5 h1 (show j < V.length by omega)
    show (ndAt V j).L.length ≤ 1048576
    omega) (xo_rx h1) (xo_rx h2)
set_option maxRecDepth 100000 in
set_option maxHeartbeats 8000000 in
theorem rr_walk (a : Option Addr) (n cap : Nat) (zs : List Int) (w : World) (hl : zs.length = n) (hz : ∀ x ∈ zs, 0 ≤ x ∧ x ≤ 255) (hn : n ≤ 1048576) (hs : SrcAt w a zs w.heap.size) (hT : Tabs w) (hp : PwT w) :
    Calls Tryd.prog 3 #[.slice a n cap] w fun e w' => e = .returned (.bool true) ∧ Below w.heap.size w w' := by
  have HD := hide (d_readRegex a n cap zs w hl hz hn hs)
  have HT := hide hT
  have HP := hide hp
  clear hl hz hs hT hp
  go_enter Tryd.func3, Tryd.ntmps3
  go_wp2_with (first | (go_at_call 6; refine (l_bigR _ _ _ _ hn).mono ?_; rintro e w9 ⟨rfl, h9⟩; rw [h9]; clear h9 w9))
  refine HD.out.mono ?_
  rintro e w1 ⟨s, hs1, rfl, hb1⟩
  have HB1 := hide hb1
  have HT1 := hide (tabs_below HT.out hb1)
  have HP1 := hide (pw_go HP.out hb1)
  clear hb1 HD
  obtain ⟨o, ho⟩ : ∃ o, rgW (outL (rns s)) (rns s).isSome = o := ⟨_, rfl⟩
  have CI := hide (fun (W : World) (hW : Tabs W) => i_readRegex s _ _ W (by omega) hW rfl rfl)
  have CS := hide (fun (W : World) => s_readRegex s _ _ W (by omega) rfl rfl)
  have hV : rgV (outL (rns s)) (rns s).isSome = o.getD [] := by unfold rgV; rw [ho]
  have hO : rgO (outL (rns s)) (rns s).isSome = o.isSome := by unfold rgO; rw [ho]
  rw [hV, hO] at CI CS
  have hrx : ∀ X, o = some X → rxB (rxOf X) = true := fun X hX => by
    rw [hX] at ho
    unfold rgW at ho
    split at ho
    · split at ho
      · cases ho
      · split at ho
        · rename_i hr
          cases ho
          exact hr
        · cases ho
    · cases ho
  clear hV hO ho
  unfold LtAns at CI CS
  go_wp2_with fail
  refine (CI.out _ HT1.out).mono ?_
  rintro e w2 ⟨adI, cI, rfl, hoI, hb2⟩
  have OI := hide hoI
  have HB2 := hide (HB1.out.trans (hb2.mono HB1.out.size))
  have HP2 := hide (pw_go HP1.out hb2)
  have HT2 := hide (tabs_below HT1.out hb2)
  clear hoI hb2 HP1
  go_wp2_with fail
  refine (CS.out _).mono ?_
  rintro e w3 ⟨adS, cS, rfl, hoS, hb3⟩
  have OS := hide hoS
  have OI3 := hide (xo_below OI.out hb3)
  have HB3 := hide (HB2.out.trans (hb3.mono HB2.out.size))
  have HP3 := hide (pw_go HP2.out hb3)
  have HT3 := hide (tabs_below HT2.out hb3)
  clear hoS hb3 HP2 HT2 OI
  cases o with
  | none =>
    have hne : (false != false) = false := by decide
    go_wp2_with fail
    refine (same_xo (V := []) (n := 0) rfl (by omega) (by omega) OI3.out OS.out).mono ?_
    rintro e w4 ⟨rfl, hb4⟩
    have HB4 := hide (HB3.out.trans (hb4.mono HB3.out.size))
    have OI4 := hide (xo_below OI3.out hb4)
    have OS4 := hide (xo_below OS.out hb4)
    clear hb4
    go_wp2_with fail
    refine (same_xo (V := []) (n := 0) rfl (by omega) (by omega) OI4.out OS4.out).mono ?_
    rintro e w5 ⟨rfl, hb5⟩
    have HB5 := hide (HB4.out.trans (hb5.mono HB4.out.size))
    clear hb5
    go_wp2
    go_ret
    exact ⟨rfl, HB5.out⟩
  | some X =>
    have hX := hrx X rfl
    have HX := hide hX
    have hX2 := (rx_len hX).2
    obtain ⟨vn, hvn⟩ : ∃ vn, X.length = vn := ⟨_, rfl⟩
    have HVN := hide hvn
    have E1 : (some X).getD [] = X := rfl
    have E2 : (some X).isSome = true := rfl
    simp only [E1, E2] at OI3 OS CI ⊢
    clear CS hrx hX E1 E2
    have hv : vn ≤ 120 := by omega
    rw [hvn]
    clear hvn
    go_wp2_with fail
    refine (same_xo HVN.out hv (by omega) OI3.out OS.out).mono ?_
    rintro e w4 ⟨rfl, hb4⟩
    have HB4 := hide (HB3.out.trans (hb4.mono HB3.out.size))
    have OI4 := hide (xo_below OI3.out hb4)
    have HP4 := hide (pw_go HP3.out hb4)
    have HT4 := hide (tabs_below HT3.out hb4)
    clear hb4 OS OI3 HP3 HT3
    have hnr : ∀ (W : World), XOZ 100 w1.heap.size (fun j => w1.heap.size ≤ j) W adI cI X → ∀ j, j < vn → (rxOf X).NR j ≤ maxLen := fun W hW j hj => by
      have h9 := xo_at5 hW (show j < X.length by rw [HVN.out]; exact hj)
      show (ndAt X j).L.length ≤ maxLen
      unfold maxLen
      omega
    have HNR := hide hnr
    have CT := hide (i_regexT (rxOf X) vn adI cI w4 HVN.out (by unfold maxLen; omega) (hnr _ OI4.out) (xo_rx OI4.out) HP4.out)
    have htz := rxT_size HX.out
    have HRD := hide (fun C hC hl => tx_read HX.out (C := C) hC hl)
    obtain ⟨t, ht⟩ : ∃ t, rxT (rxOf X) = t := ⟨_, rfl⟩
    rw [ht] at CT htz HRD
    clear ht hnr
    go_wp2_with fail
    refine CT.out.mono ?_
    rintro e w5 ⟨rfl, hb5⟩
    have HB5 := hide (HB4.out.trans (hb5.mono HB4.out.size))
    have OI5 := hide (xo_below OI4.out hb5)
    have HT5 := hide (tabs_below HT4.out hb5)
    clear hb5 OI4 CT HT4
    obtain ⟨o2, ho2⟩ : ∃ o2, rns t = o2 := ⟨_, rfl⟩
    have CR := hide (i_runes_lb t (outL o2) o2.isSome w5 (by omega) HT5.out (by rw [ho2]) (by rw [ho2]))
    have CJ := hide (fun (W : World) (hW : Tabs W) => i_readRegex t (outL o2) o2.isSome W (by omega) hW (by rw [ho2]) (by rw [ho2]))
    have HRD2 : Hid (∀ C, o2 = some C → C.length ≤ 400 → rgW C true = some X) := hide (fun C hC hl => HRD.out C (by rw [ho2, hC]) hl)
    clear ho2 HRD
    go_wp2_with fail
    refine CR.out.mono ?_
    rintro e w6 ⟨ta, tc, rfl, hr6, hb6⟩
    have HB6 := hide (HB5.out.trans (hb6.mono HB5.out.size))
    have OI6 := hide (xo_below OI5.out hb6)
    have HT6 := hide (tabs_below HT5.out hb6)
    clear hb6 OI5 CR HT5 hr6
    cases o2 with
    | none =>
      go_wp2
      go_ret
      exact ⟨rfl, HB6.out⟩
    | some C =>
      have E1 : outL (some C) = C := rfl
      have E2 : (some C).isSome = true := rfl
      simp only [E1, E2] at CJ ⊢
      by_cases h4 : 400 < C.length
      · have h4' : (400 : Int) < (C.length : Int) := by omega
        go_wp2
        go_ret
        exact ⟨rfl, HB6.out⟩
      · have h4' : ¬ (400 : Int) < (C.length : Int) := by omega
        have hrg := HRD2.out C rfl (by omega)
        have hV : rgV C true = X := by unfold rgV; rw [hrg]; rfl
        have hO : rgO C true = true := by unfold rgO; rw [hrg]; rfl
        rw [hV, hO] at CJ
        unfold LtAns at CJ
        rw [HVN.out] at CJ
        clear hrg hV hO HRD2 E1 E2
        go_wp2_with fail
        refine (CJ.out _ HT6.out).mono ?_
        rintro e w7 ⟨adJ, cJ, rfl, hoJ, hb7⟩
        have OJ := hide hoJ
        have OI7 := hide (xo_below OI6.out hb7)
        have HB7 := hide (HB6.out.trans (hb7.mono HB6.out.size))
        clear hoJ hb7 OI6
        have CG := hide (i_regex (rxOf X) vn adI cI w7 HVN.out (by unfold maxLen; omega) (HNR.out _ OI7.out) (xo_rx OI7.out))
        rw [HX.out] at CG
        go_wp2_with fail
        refine CG.out.mono ?_
        rintro e w8 ⟨rfl, hb8⟩
        have OI8 := hide (xo_below OI7.out hb8)
        have OJ8 := hide (xo_below OJ.out hb8)
        have HB8 := hide (HB7.out.trans (hb8.mono HB7.out.size))
        clear hb8 OI7 OJ CG
        go_wp2_with fail
        refine (same_xo HVN.out hv (by omega) OJ8.out OI8.out).mono ?_
        rintro e w9 ⟨rfl, hb9⟩
        have HB9 := hide (HB8.out.trans (hb9.mono HB8.out.size))
        clear hb9
        go_wp2
        go_ret
        exact ⟨rfl, HB9.out⟩
end Go.Proofs.YtibagghpimadfaaDoor

/-
  A table of numbers that lies as its initialiser laid it, as a list: of no program.
-/
namespace Go.Proofs.YtibagghpimadfaaDoor
open Go.RowKit Go.Joins
theorem tabis_of {P : Program} {W : World} {name : String} {k : IntKind} {zs : List Int} {g : Nat} {t e : TypeId} {n : Nat} (hg : P.globalNamed name = some g) (hty : (P.globals[g]?).map (·.type) = some t) (ht : P.underlying t = some (.array n e)) (he : P.underlying e = some (.int k)) (hce : P.cellsOf e = 1) (hct : P.cellsOf t = n)
    (h : Lib.VarReads P W name (Lib.tabData k zs)) : Lib.TabIs P W name k zs := by
  obtain ⟨g', t', cs, fuel, p, hg', ht', hvar, hd⟩ := h
  obtain rfl := Option.some.inj (hg.symm.trans hg')
  obtain rfl := Option.some.inj (hty.symm.trans ht')
  have e := Lib.cells_of_tab ht he hce hct hd
  unfold Lib.TabIs
  rw [hvar]; congr 1; cases cs; simp at e; rw [e]
end Go.Proofs.YtibagghpimadfaaDoor
