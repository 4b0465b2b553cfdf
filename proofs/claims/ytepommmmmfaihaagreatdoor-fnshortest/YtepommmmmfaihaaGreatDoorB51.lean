/-
  Texts put together: RsT, DmA, SwW.
-/
import Derived.Test.YtepommmmmfaihaaGreatDoorB50
import Derived.Deep.RegionWith
import Derived.Deep.RegionHeld3
import Derived.Test.YtepommmmmfaihaaGreatDoorB31
import Derived.Test.YtepommmmmfaihaaGreatDoorB20
import Derived.Test.YtepommmmmfaihaaGreatDoorB29
/-
  Contract: what the specification reads as an expression.
-/
namespace Go.Proofs.YtepommmmmfaihaaGreatDoor
open Go.RowKit Go.Joins
set_option linter.unusedVariables false
set_option linter.unusedSimpArgs false
theorem bl_drewY {w w3 : World} (h : Below w.drew.heap.size w.drew w3) : Below w.heap.size w w3 := ⟨h.os, h.tape, h.output, h.size, h.block⟩
theorem bl_drew1 (w : World) : Below w.heap.size w w.drew := ⟨rfl, rfl, rfl, Nat.le_refl _, fun _ _ => rfl⟩
theorem bl_drewX {w w3 : World} {B : Nat} (h : Below w.drew.heap.size w.drew w3) (hB : B ≤ w.heap.size) : Below B w w3 := (bl_drewY h).mono hB
theorem c_drewX {w w3 : World} {R i : Nat} {v : Value} (h : w.cell? ⟨R, i, none⟩ = some v) (hb : Below w.drew.heap.size w.drew w3) : w3.cell? ⟨R, i, none⟩ = some v := by
  have hlt : R < w.heap.size := by
    rcases Nat.lt_or_ge R w.heap.size with h9 | h9
    · exact h9
    · simp [World.cell?, Array.getElem?_eq_none h9] at h
  have h1 := (bl_drewY hb).block R hlt
  simp only [World.cell?] at h ⊢
  rw [h1]
  exact h
/-- The reader as it begins. -/
theorem sd_new {w : World} {ta : Option Addr} {tc : Nat} {C : List Int} {n : Nat} (hn : C.length = n) (h4 : n ≤ 400) (ht : Tx w.heap.size w ta tc C) : SD (fun j => w.heap.size ≤ j) w.heap.size w.heap.size (w.alloc (.cells #[.slice ta n tc, .int .i64 0, .bool false, .slice none 0 0] 88)) C 0 false [] := by
  subst hn
  refine ⟨⟨Nat.le_refl _, Nat.zero_le _, h4⟩, ta, tc, none, 0, heap_alloc_new w _, tx_go ht ((Below.refl w.heap.size w).alloc (Nat.le_refl _) _), xo_nil _ _ _, fun k hk => (by cases hk)⟩
set_option maxRecDepth 100000 in
set_option maxHeartbeats 8000000 in
theorem s_readRegex (s : ByteArray) (C : List Int) (b : Bool) (w : World) (hs : s.size ≤ 1048576) (hC : outL (rns s) = C) (hb : (rns s).isSome = b) :
    Calls Tryz.prog 29 #[.string s] w (LtAns (rgV C b) (rgO C b) w) := by
  have CR := hide (s_runes_lb s C b w hs hC hb)
  have hcl : C.length ≤ 20000 := by rw [← hC]; exact outL_len s
  have HCH : Hid (∀ c ∈ C, chB c = true) := hide (by rw [← hC]; exact outL_ch s)
  clear hC hb
  go_enter Tryz.func29, Tryz.ntmps29
  go_wp2_with fail
  refine CR.out.mono ?_
  rintro e w1 ⟨ta, tc, rfl, ho1, hb1⟩
  have HO1 := hide ho1
  have HB1 := hide hb1
  clear ho1 hb1 CR
  cases b
  · have E : Hid (rgW C false = none) := hide (by unfold rgW; rw [if_neg (by simp)])
    go_wp2
    go_ret2
    exact rg_no E.out HB1.out
  · by_cases h4 : 400 < C.length
    · have h4' : (400 : Int) < (C.length : Int) := by omega
      have E : Hid (rgW C true = none) := hide (by unfold rgW; rw [if_neg (by omega)])
      go_wp2
      go_ret2
      exact rg_no E.out HB1.out
    · have h4' : ¬ (400 : Int) < (C.length : Int) := by omega
      have htc : C.length ≤ tc ∧ tc ≤ maxLen := by
        rcases HO1.out.2 with ⟨hv', hz⟩ | ⟨g', cap', cur', hv', -, -, hcc, hmx, -⟩
        · simp only [Value.slice.injEq] at hv'
          unfold maxLen; omega
        · simp only [Value.slice.injEq] at hv'
          omega
      have HE0 : Hid (rgW C true = match rdW C with
        | none => none
        | some X => if rxB (rxOf X) = true then some X else none) := hide (by unfold rgW; rw [if_pos ⟨rfl, by omega⟩] <;> rfl)
      have HS1 := hide (sd_new (w := w1) rfl (by omega) (tx_own HO1.out hcl HCH.out htc))
      have HQ := hide (s_all C.length w1.heap.size w1.heap.size C 0 [] _ (4 * C.length + 4) (by omega) (by omega) (by simp) HS1.out)
      have hC0 : C.drop 0 = C := rfl
      rw [hC0] at HQ
      have bA := hide ((Below.refl w1.heap.size w1).alloc (Nat.le_refl _) (.cells #[.slice ta C.length tc, .int .i64 0, .bool false, .slice none 0 0] 88))
      clear hC0
      go_wp2_with fail
      refine HQ.out.mono ?_
      rintro e w2 (⟨k2, X2, ho, hX2, rfl, h2, hb2⟩ | ⟨⟨v, k2, X2, rfl, h2⟩, hno, hb2⟩)
      · have HB2 := hide (HB1.out.trans ((bA.out.trans hb2).mono HB1.out.size))
        obtain ⟨R, hR⟩ : ∃ R, w1.heap.size = R := ⟨_, rfl⟩
        rw [hR] at h2
        have hRw : w.heap.size ≤ R := by have := HB1.out.size; omega
        obtain ⟨tz, tcz, adz, cpz, ⟨c0, c1, c2, c3⟩, ff, -⟩ := sd_cells h2
        have hk2 := h2.1.2.1
        have HX2 : Hid (∃ ad c, w2.cell? ⟨R, 3, none⟩ = some (.slice ad X2.length c) ∧ XOZ 500 w.heap.size (fun j => w.heap.size ≤ j) w2 ad c X2) := hide (by
          obtain ⟨h0, t1, tc1, ad, c, hx1, htx1, hxo, hxk⟩ := h2
          exact ⟨ad, c, (sx_cells hx1).2.2.2, xo_imp (xo_lower hxo hRw) (fun k _ hs => Nat.le_trans hRw hs)⟩)
        obtain ⟨ad, cp, c3', hxo⟩ := HX2.out
        have HX := hide hxo
        clear c3 ff HX2 hxo HQ HS1 bA
        by_cases hend : k2 < C.length
        · have hd : decide ((k2 : Int) < (C.length : Int)) = true := decide_eq_true (by omega)
          have hi : (k2 : Int) < (C.length : Int) := by omega
          have hd2 : decide (k2 < C.length) = true := decide_eq_true hend
          have E : Hid (rgW C true = none) := hide (by
            rw [HE0.out]
            have e9 : C.drop k2 = C[k2] :: C.drop (k2 + 1) := List.drop_eq_getElem_cons hend
            rw [e9] at ho
            rw [rdW_more ho])
          clear ho HE0 h2
          go_wp2
          go_quiet (fail)
          revert nq; intro n1
          have HB3 : Hid (Below w.heap.size w (w2.drewN n1)) := hide (HB2.out.trans ((bl_drewN w2 n1).mono HB2.out.size))
          go_wp2
          go_ret2
          exact rg_no E.out HB3.out
        · have hd : decide ((k2 : Int) < (C.length : Int)) = false := decide_eq_false (by omega)
          have hi : ¬ (k2 : Int) < (C.length : Int) := by omega
          have hd2 : decide (k2 < C.length) = false := decide_eq_false hend
          have hdr : C.drop k2 = [] := List.drop_eq_nil_of_le (by omega)
          rw [hdr] at ho
          have HE1 : Hid (rgW C true = if rxB (rxOf X2) = true then some X2 else none) := hide (by rw [HE0.out, rdW_some ho])
          have CG := hide (fun (W : World) (hW : XOZ 500 w.heap.size (fun j => w.heap.size ≤ j) W ad cp X2) => s_regex (rxOf X2) X2.length ad cp W rfl (by unfold maxLen; omega) (fun j hj => by
            have h9 := xo_at5 hW hj
            show (ndAt X2 j).L.length ≤ maxLen
            unfold maxLen
            omega) (xo_rx hW))
          clear ho HE0 h2 hdr
          have hRlt : R < w2.heap.size := by
            rcases Nat.lt_or_ge R w2.heap.size with h9 | h9
            · exact h9
            · simp [World.cell?, Array.getElem?_eq_none h9] at c0
          have HKS : Hid (∀ W9, Below w2.heap.size w2 W9 → Below w2.heap.size w2 W9 ∧ W9.cell? ⟨R, 0, none⟩ = some (.slice tz C.length tcz) ∧ W9.cell? ⟨R, 1, none⟩ = some (.int .i64 (k2 : Int)) ∧ W9.cell? ⟨R, 2, none⟩ = some (.bool false) ∧ W9.cell? ⟨R, 3, none⟩ = some (.slice ad X2.length cp)) := hide (fun W9 h9 => ⟨h9, (h9.cell (p := ⟨R, 0, none⟩) hRlt).trans c0, (h9.cell (p := ⟨R, 1, none⟩) hRlt).trans c1, (h9.cell (p := ⟨R, 2, none⟩) hRlt).trans c2, (h9.cell (p := ⟨R, 3, none⟩) hRlt).trans c3'⟩)
          have XX : Hid (Below w2.heap.size w2 w2) := hide (Below.refl _ _)
          clear c0 c1 c2 c3'
          cases hq : rxB (rxOf X2)
          · have E : Hid (rgW C true = none) := hide (by rw [HE1.out, if_neg (by rw [hq]; decide)])
            rw [hq] at CG
            clear hq HE1
            go_wp2_with fail
            go_region_held3 (fun W9 => Below w2.heap.size w2 W9 ∧ W9.cell? ⟨R, 0, none⟩ = some (.slice tz C.length tcz) ∧ W9.cell? ⟨R, 1, none⟩ = some (.int .i64 (k2 : Int)) ∧ W9.cell? ⟨R, 2, none⟩ = some (.bool false) ∧ W9.cell? ⟨R, 3, none⟩ = some (.slice ad X2.length cp)) (first | assumption | exact HKS.out _ (XX.out.drew) | exact HKS.out _ XX.out) (first | (go_at_call 25; refine (CG.out _ (xo_below HX.out (XX.out.drew))).mono ?_; rintro e w9 ⟨rfl, hb9⟩; have X2 : Hid (Below w2.heap.size w2 w9) := hide (bl_drewY ⟨hb9.os, hb9.tape, hb9.output, hb9.size, hb9.block⟩); replace XX := X2; clear X2 hb9))
            all_goals
              have HB3 := hide (HB2.out.trans (XX.out.mono HB2.out.size))
              go_wp2
              go_ret2
              exact rg_no E.out HB3.out
          · have E : Hid (rgW C true = some X2) := hide (by rw [HE1.out, if_pos hq])
            have HQ := hide hq
            rw [hq] at CG
            clear hq HE1
            go_wp2_with fail
            go_region_held3 (fun W9 => Below w2.heap.size w2 W9 ∧ W9.cell? ⟨R, 0, none⟩ = some (.slice tz C.length tcz) ∧ W9.cell? ⟨R, 1, none⟩ = some (.int .i64 (k2 : Int)) ∧ W9.cell? ⟨R, 2, none⟩ = some (.bool false) ∧ W9.cell? ⟨R, 3, none⟩ = some (.slice ad X2.length cp)) (first | assumption | exact HKS.out _ (XX.out.drew) | exact HKS.out _ XX.out) (first | (go_at_call 25; refine (CG.out _ (xo_below HX.out (XX.out.drew))).mono ?_; rintro e w9 ⟨rfl, hb9⟩; have X2 : Hid (Below w2.heap.size w2 w9) := hide (bl_drewY ⟨hb9.os, hb9.tape, hb9.output, hb9.size, hb9.block⟩); replace XX := X2; clear X2 hb9))
            all_goals
              have HB3 := hide (HB2.out.trans (XX.out.mono HB2.out.size))
              have HX3 := hide (xo_below HX.out XX.out)
              obtain ⟨-, -, -, -, c33⟩ := HKS.out _ XX.out
              go_wp2
              go_ret2
              exact rg_yes E.out HX3.out HQ.out HB3.out
      · have HB2 := hide (HB1.out.trans ((bA.out.trans hb2).mono HB1.out.size))
        obtain ⟨R, hR⟩ : ∃ R, w1.heap.size = R := ⟨_, rfl⟩
        rw [hR] at h2
        obtain ⟨tz, tcz, adz, cpz, ⟨c0, c1, c2, c3⟩, ff, -⟩ := sd_cells h2
        have E : Hid (rgW C true = none) := hide (by
          rw [HE0.out]
          cases hq : rdW C with
          | none => rfl
          | some Y =>
            have h9 : ∃ u, rdC (4 * C.length + 4) C [] = some (u, Y) := by
              unfold rdW at hq
              split at hq
              · rename_i Z e9
                cases hq
                exact ⟨_, e9⟩
              · cases hq
            obtain ⟨u, h9⟩ := h9
            have h10 := bd_rx (hno u Y h9)
            show (if rxB (rxOf Y) = true then some Y else none) = none
            rw [h10]
            rfl)
        clear hno HE0 h2 HQ HS1 bA ff
        go_wp2
        go_quiet (fail)
        revert nq; intro n1
        have HB3 : Hid (Below w.heap.size w (w2.drewN n1)) := hide (HB2.out.trans ((bl_drewN w2 n1).mono HB2.out.size))
        go_wp2
        go_ret2
        exact rg_no E.out HB3.out
end Go.Proofs.YtepommmmmfaihaaGreatDoor

/-
  Contracts of the draws: an expression; an expression and a text.
-/
namespace Go.Proofs.YtepommmmmfaihaaGreatDoor
open Go.RowKit Go.Joins
set_option linter.unusedVariables false
set_option linter.unusedSimpArgs false
theorem rg_sM : RgS := fun s w hs => by
  refine (s_readRegex s _ _ w (by omega) rfl rfl).mono ?_
  unfold LtAns
  rintro e w' ⟨ad, c, rfl, hx, hb⟩
  exact ⟨_, _, ad, c, rgV_len _ _, rfl, hx, hb⟩
theorem resT_le (p : List Int) : (resT (goR [] p)).size ≤ 20000 := by
  cases h : goR [] p with
  | none => exact Nat.zero_le _
  | some bs =>
    have h2 := (goR_enc p [] bs h).2.2 (Nat.zero_le _)
    show (strOfNums bs).size ≤ 20000
    have e : (strOfNums bs).size = bs.length := by simp [strOfNums, ByteArray.size]
    omega
theorem shT_le (X : Rx) : (shT X).size ≤ 20000 := by
  unfold shT
  split
  · split
    · exact resT_le _
    · exact Nat.zero_le _
  · exact Nat.zero_le _
theorem xo_nrM {B : Nat} {W : World} {ad : Option Addr} {c : Nat} {V : List Nd} {vn : Nat} (hvn : V.length = vn) (h : XO B (fun j => B ≤ j) W ad c V) : ∀ j, j < vn → (rxOf V).NR j ≤ maxLen := fun j hj => by
  have h9 := xo_at5 h (show j < V.length by rw [hvn]; exact hj)
  show (ndAt V j).L.length ≤ maxLen
  unfold maxLen
  omega
set_option maxRecDepth 100000 in
set_option maxHeartbeats 4000000 in
theorem d_drawShortest (a : Option Addr) (n cap : Nat) (zs : List Int) (w : World) (hl : zs.length = n) (hz : ∀ x ∈ zs, 0 ≤ x ∧ x ≤ 255) (hn : n ≤ 1048576) (hs : SrcAt w a zs w.heap.size) :
    Calls Tryz.prog 15 #[.slice a n cap] w fun e w' => ∃ (V : List Nd) (B : Nat) (ad : Option Addr) (c : Nat), V.length ≤ 120 ∧ e = .returned (.slice ad V.length c) ∧ XO B (fun j => B ≤ j) w' ad c V ∧ Below w.heap.size w w' := by
  obtain ⟨G, hG⟩ : ∃ G, w.heap.size = G := ⟨_, rfl⟩
  have HS1 := hide hs
  have HL := hide hl
  have HZ := hide hz
  have HG := hide hG
  clear hs hl hz hG
  go_enter Tryz.func15, Tryz.ntmps15
  go_wp2_with fail
  refine (d_open a n cap zs _ HL.out HZ.out hn HS1.out).mono ?_
  rintro e w1 ⟨rfl, hr1, hb1⟩
  rw [HG.out] at hr1 hb1 ⊢
  have R1 := hide hr1
  have B1 := hide hb1
  clear hr1 hb1
  go_wp2_with fail
  refine (d_regex G a n cap zs _ rg_sM R1.out).mono ?_
  rintro e w2 ⟨V, B, ad, c, hv, hgb, rfl, hx, hd⟩
  have B2 := hide (below_drewG B1.out hd (Nat.le_of_lt (rd_lt R1.out)))
  have X2 := hide hx
  clear hx hd
  go_wp2
  go_ret
  exact ⟨V, B, ad, c, hv, rfl, X2.out, by rw [HG.out]; exact B2.out⟩
theorem src_goM {w w' : World} {a : Option Addr} {zs : List Int} (h : SrcAt w a zs w.heap.size) (hb : Below w.heap.size w w') : SrcAt w' a zs w'.heap.size := by
  have h2 := src_grown (row := none) h (Nat.le_refl _) ⟨hb.os, hb.tape, hb.output, hb.size, fun k hk _ => hb.block k hk⟩ (fun k e => by cases e)
  intro hne
  obtain ⟨b, off, e, hb2, hc⟩ := h2 hne
  exact ⟨b, off, e, Nat.lt_of_lt_of_le hb2 hb.size, hc⟩
theorem l_bigM (a : Option Addr) (n cap : Nat) (w : World) (h : n ≤ 1048576) : Calls Tryz.prog 7 #[.slice a n cap] w fun e w' => e = .returned (.bool false) ∧ w' = w := by
  have h' : ¬ (1048576 : Int) < (n : Int) := by omega
  go_enter Tryz.func7, Tryz.ntmps7
  go_wp2
  go_ret
  exact ⟨rfl, rfl⟩
set_option maxRecDepth 100000 in
set_option maxHeartbeats 8000000 in
theorem d_drawMatches (a : Option Addr) (n cap : Nat) (zs : List Int) (w : World) (hl : zs.length = n) (hz : ∀ x ∈ zs, 0 ≤ x ∧ x ≤ 255) (hn : n ≤ 1048576) (hs : SrcAt w a zs w.heap.size) :
    Calls Tryz.prog 8 #[.slice a n cap] w fun e w' => ∃ (V : List Nd) (B : Nat) (ad : Option Addr) (c : Nat) (t : ByteArray), V.length ≤ 120 ∧ t.size ≤ 20000 ∧ e = .returned (.tuple #[.slice ad V.length c, .string t]) ∧ XO B (fun j => B ≤ j) w' ad c V ∧ Below w.heap.size w w' := by
  obtain ⟨G, hG⟩ : ∃ G, w.heap.size = G := ⟨_, rfl⟩
  have HS1 := hide hs
  have HL := hide hl
  have HZ := hide hz
  have HG := hide hG
  clear hs hl hz hG
  go_enter Tryz.func8, Tryz.ntmps8
  go_wp2_with fail
  refine (d_open a n cap zs _ HL.out HZ.out hn HS1.out).mono ?_
  rintro e w1 ⟨rfl, hr1, hb1⟩
  rw [HG.out] at hr1 hb1 ⊢
  have R1 := hide hr1
  have B1 := hide hb1
  clear hr1 hb1
  go_wp2_with fail
  refine (d_regex G a n cap zs _ rg_sM R1.out).mono ?_
  rintro e w2 ⟨V, B, ad, c, hv, hgb, rfl, hx, hd⟩
  have B2 := hide (below_drewG B1.out hd (Nat.le_of_lt (rd_lt R1.out)))
  have R2 := hide hd.1
  have X2 := hide hx
  obtain ⟨vn, hvn⟩ : ∃ vn, V.length = vn := ⟨_, rfl⟩
  have HVN := hide hvn
  rw [hvn] at hv ⊢
  clear hx hd hvn
  have hgw : G < w2.heap.size := rd_lt R2.out
  go_wp2_with fail
  refine (d_once G a n cap zs 2 _ (by omega) (by omega) R2.out).mono ?_
  rintro e w3 ⟨ob, rfl, hd⟩
  have X3 := hide (xo_drew X2.out hd hgb (fun j hj => Nat.lt_of_lt_of_le hgb hj))
  have B3 := hide (below_drewG B2.out hd (Nat.le_of_lt hgw))
  have R3 := hide hd.1
  clear hd X2 B2 R2
  cases ob
  · have hgw3 : G < w3.heap.size := rd_lt R3.out
    go_wp2_with fail
    refine (d_below G a n cap zs 7 _ (by omega) (by omega) R3.out).mono ?_
    rintro e w4 ⟨k0, hk0, hk1, rfl, hd⟩
    have X4 := hide (xo_drew X3.out hd hgb (fun j hj => Nat.lt_of_lt_of_le hgb hj))
    have B4 := hide (below_drewG B3.out hd (Nat.le_of_lt hgw3))
    have R4 := hide hd.1
    clear hd X3 B3 R3
    obtain ⟨kk, rfl⟩ : ∃ kk : Nat, k0 = (kk : Int) := ⟨k0.toNat, by omega⟩
    go_wp2
    go_loopw [8, 9] (fun tv kv wr => ∃ (k : Nat) (t : ByteArray), k ≤ 6 ∧ kv = .int .i64 k ∧ tv = .string t ∧ t.size + 2 * k ≤ 14 ∧ Hid (XO B (fun j => B ≤ j) wr ad c V) ∧ Hid (Below G w wr) ∧ Hid (RdAt wr G a n cap zs)) (fun _ kv _ => (intOf kv).toNat)
    case atStart => exact ⟨kk, ⟨#[]⟩, by omega, rfl, rfl, by show 0 + 2 * kk ≤ 14; omega, X4, B4, R4⟩
    case round =>
      clear X4 B4 R4
      obtain ⟨k, t, hk6, rfl, rfl, hts, X, Bl, R⟩ := hrel
      by_cases h0 : 0 < k
      · have h0' : (0 : Int) < (k : Int) := by omega
        have hgwr : G < wr.heap.size := rd_lt R.out
        have hk1 : IntKind.i64.wrap ((k : Int) - 1) = (k : Int) - 1 := by rw [IntKind.wrap_i64]; omega
        go_wp2_with fail
        refine (d_below G a n cap zs 6 _ (by omega) (by omega) (rd_alloc R.out _)).mono ?_
        rintro e w5 ⟨x, hx0, hx1, rfl, hd⟩
        obtain ⟨u, hu, hus⟩ := str_cellG 2 hd.2 hx0 hx1 rfl hgwr (fun q hq => by
          have hq' : q < 6 := hq
          rcases (show q = 0 ∨ q = 1 ∨ q = 2 ∨ q = 3 ∨ q = 4 ∨ q = 5 by omega) with e | e | e | e | e | e <;> subst e <;> exact ⟨_, rfl, by decide⟩)
        have X5 := hide (xo_drew X.out (drew_alloc _ hd) hgb (fun j hj => Nat.lt_of_lt_of_le hgb hj))
        have B5 := hide (below_drewG Bl.out (drew_alloc _ hd) (Nat.le_of_lt hgwr))
        have R5 := hide hd.1
        have hx6 : x < 6 := hx1
        clear hd
        go_wp2
        go_roundw
        case rel => exact ⟨k - 1, t ++ u, by omega, by go_num, rfl, by rw [te_size]; omega, X5, B5, R5⟩
        case measure => simp [intOf]; omega
      · have hkz : k = 0 := by omega
        subst hkz
        go_wp2
        go_ret2
        exact ⟨V, B, ad, c, t, by rw [HVN.out]; exact hv, by omega, by rw [HVN.out] <;> rfl, X.out, by rw [HG.out]; exact Bl.out⟩
  · have hgw3 : G < w3.heap.size := rd_lt R3.out
    have CS := hide (s_shortest (rxOf V) vn ad c w3 HVN.out (by unfold maxLen; omega) (xo_nrM HVN.out X3.out) (xo_rx X3.out))
    have hsz := shT_le (rxOf V)
    obtain ⟨t, ht⟩ : ∃ t, shT (rxOf V) = t := ⟨_, rfl⟩
    rw [ht] at CS hsz
    clear ht
    go_wp2_with (go_at_call 17; refine CS.out.mono ?_; rintro e w4 ⟨rfl, hb4⟩; have X4 := hide (xo_below X3.out hb4); have B4 := hide (B3.out.trans (hb4.mono (Nat.le_of_lt hgw3))); clear hb4)
    go_ret2
    exact ⟨V, B, ad, c, t, by rw [HVN.out]; exact hv, hsz, by rw [HVN.out] <;> rfl, X4.out, by rw [HG.out]; exact B4.out⟩
end Go.Proofs.YtepommmmmfaihaaGreatDoor

/-
  The walk of FnShortest.
-/
namespace Go.Proofs.YtepommmmmfaihaaGreatDoor
open Go.RowKit Go.Joins
set_option linter.unusedVariables false
set_option linter.unusedSimpArgs false
set_option maxRecDepth 100000 in
set_option maxHeartbeats 8000000 in
theorem sw_walk (a : Option Addr) (n cap : Nat) (zs : List Int) (w : World) (hl : zs.length = n) (hz : ∀ x ∈ zs, 0 ≤ x ∧ x ≤ 255) (hn : n ≤ 1048576) (hs : SrcAt w a zs w.heap.size) (hT : Tabs w) :
    Calls Tryz.prog 6 #[.slice a n cap] w fun e w' => e = .returned (.bool true) ∧ Below w.heap.size w w' := by
  have HD := hide (d_drawShortest a n cap zs w hl hz hn hs)
  have HDM := hide (fun (W : World) (hW : SrcAt W a zs W.heap.size) => d_drawMatches a n cap zs W hl hz hn hW)
  have HSr := hide hs
  have HT := hide hT
  clear hl hz hs hT
  go_enter Tryz.func6, Tryz.ntmps6
  go_wp2_with (first | (go_at_call 7; refine (l_bigM _ _ _ _ hn).mono ?_; rintro e w9 ⟨rfl, h9⟩; rw [h9]; clear h9 w9))
  refine HD.out.mono ?_
  rintro e w1 ⟨V, B, ad, c, hv, rfl, hx1, hb1⟩
  have HB1 := hide hb1
  have O1 := hide hx1
  obtain ⟨vn, hvn⟩ : ∃ vn, V.length = vn := ⟨_, rfl⟩
  have HVN := hide hvn
  rw [hvn] at hv ⊢
  clear hb1 HD hx1 hvn
  have CI := hide (fun (W : World) (hW : XO B (fun j => B ≤ j) W ad c V) => i_shortest (rxOf V) vn ad c W HVN.out (by unfold maxLen; omega) (xo_nrM HVN.out hW) (xo_rx hW))
  have CS := hide (fun (W : World) (hW : XO B (fun j => B ≤ j) W ad c V) => s_shortest (rxOf V) vn ad c W HVN.out (by unfold maxLen; omega) (xo_nrM HVN.out hW) (xo_rx hW))
  have CM := hide (fun (W : World) (hW : XO B (fun j => B ≤ j) W ad c V) (hTW : Tabs W) s C bb hsz hC hbb => i_matches (rxOf V) vn ad c s C bb W HVN.out (by unfold maxLen; omega) (xo_nrM HVN.out hW) (xo_rx hW) hsz hTW hC hbb)
  have htz := shT_le (rxOf V)
  have HF := hide (fun h => sw_facts (X := rxOf V) h)
  obtain ⟨t, ht⟩ : ∃ t, shT (rxOf V) = t := ⟨_, rfl⟩
  obtain ⟨tb, htb⟩ : ∃ tb, shB (rxOf V) = tb := ⟨_, rfl⟩
  rw [ht, htb] at CI CS HF
  rw [ht] at htz
  clear ht htb
  go_wp2_with fail
  refine (CI.out _ O1.out).mono ?_
  rintro e w2 ⟨rfl, hb2⟩
  have HB2 := hide (HB1.out.trans (hb2.mono HB1.out.size))
  have O2 := hide (xo_below O1.out hb2)
  clear hb2 O1 CI
  go_wp2_with fail
  refine (CS.out _ O2.out).mono ?_
  rintro e w3 ⟨rfl, hb3⟩
  have HB3 := hide (HB2.out.trans (hb3.mono HB2.out.size))
  have O3 := hide (xo_below O2.out hb3)
  clear hb3 O2 CS HB2 HB1
  cases tb
  · go_wp2
    go_ret
    exact ⟨rfl, HB3.out⟩
  · obtain ⟨p, hp1, hp2, hp3⟩ := HF.out rfl
    have CR := hide (s_runes_lb t p true w3 (by omega) (by rw [hp1]; rfl) (by rw [hp1]; rfl))
    have CM1 := hide (fun W hW hTW => CM.out W hW hTW t p true (by omega) (by rw [hp1]; rfl) (by rw [hp1]; rfl))
    have HP2 := hide hp2
    have HP3 := hide hp3
    obtain ⟨pn, hpn⟩ : ∃ pn, p.length = pn := ⟨_, rfl⟩
    have HPN := hide hpn
    rw [hpn] at CR
    have hpn2 : pn ≤ 20000 := by rw [← hpn]; have := outL_len t; rw [hp1] at this; exact this
    clear hp1 hp2 hp3 HF hpn
    go_wp2_with fail
    refine CR.out.mono ?_
    rintro e w4 ⟨ad4, c4, rfl, -, hb4⟩
    have HB4 := hide (HB3.out.trans (hb4.mono HB3.out.size))
    have O4 := hide (xo_below O3.out hb4)
    have HT4 := hide (tabs_below HT.out HB4.out)
    clear hb4 O3 CR HB3
    by_cases h3 : (300 : Int) < (pn : Int)
    · go_wp2
      go_ret
      exact ⟨rfl, HB4.out⟩
    · have HYes := hide (HP2.out (by rw [HPN.out]; omega))
      go_wp2_with (go_at_call 9; refine (CM1.out _ O4.out HT4.out).mono ?_; rintro e w5 ⟨z, rfl, hzz, hb5⟩; have hz1 : z = true := hzz.2 HYes.out; subst hz1; have HB5 := hide (HB4.out.trans (hb5.mono HB4.out.size)); have O5 := hide (xo_below O4.out hb5); clear hb5 hzz)
      clear O4
      have hsr5 : SrcAt w5 a zs w5.heap.size := src_goM HSr.out HB5.out
      have HDM5 := hide (HDM.out w5 hsr5)
      clear hsr5
      go_wp2_with fail
      refine HDM5.out.mono ?_
      rintro e w6 ⟨V6, B6, ad6, c6, t6, hv6, ht6, rfl, -, hb6⟩
      have HB6 := hide (HB5.out.trans (hb6.mono HB5.out.size))
      have O6 := hide (xo_below O5.out hb6)
      clear hb6 O5
      obtain ⟨C6, hC6⟩ : ∃ C6, outL (rns t6) = C6 := ⟨_, rfl⟩
      obtain ⟨b6, hb6⟩ : ∃ b6, (rns t6).isSome = b6 := ⟨_, rfl⟩
      have CR6 := hide (s_runes_lb t6 C6 b6 w6 (by omega) hC6 hb6)
      have CM6 := hide (fun W hW hTW => CM.out W hW hTW t6 C6 b6 (by omega) hC6 hb6)
      have hc6 : C6.length ≤ 20000 := by rw [← hC6]; exact outL_len t6
      obtain ⟨n6, hn6⟩ : ∃ n6, C6.length = n6 := ⟨_, rfl⟩
      have HN6 := hide hn6
      rw [hn6] at CR6 hc6
      clear hC6 hb6 hn6
      go_wp2_with fail
      refine CR6.out.mono ?_
      rintro e w7 ⟨ad7, c7, rfl, -, hb7⟩
      have HB7 := hide (HB6.out.trans (hb7.mono HB6.out.size))
      have O7 := hide (xo_below O6.out hb7)
      have HT7 := hide (tabs_below HT.out HB7.out)
      clear hb7 O6
      cases b6
      · go_wp2
        go_ret
        exact ⟨rfl, HB7.out⟩
      · by_cases hge : (pn : Int) ≤ (n6 : Int)
        · go_wp2
          go_ret
          exact ⟨rfl, HB7.out⟩
        · have HNo : Hid (¬ MtP (rxOf V) C6 true) := hide (fun h => by have := HP3.out C6 true h; rw [HPN.out, HN6.out] at this; omega)
          go_wp2_with (go_at_call 9; refine (CM6.out _ O7.out HT7.out).mono ?_; rintro e w8 ⟨z, rfl, hzz, hb8⟩; have hz8 : z = false := mt_no hzz HNo.out; subst hz8; have HB8 := hide (HB7.out.trans (hb8.mono HB7.out.size)); clear hb8 hzz)
          go_ret
          exact ⟨rfl, HB8.out⟩
end Go.Proofs.YtepommmmmfaihaaGreatDoor
