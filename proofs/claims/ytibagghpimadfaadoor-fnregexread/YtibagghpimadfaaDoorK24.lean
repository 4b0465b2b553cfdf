/-
  Texts put together: RxI, TeW, RuneMath.
-/
import Derived.Test.YtibagghpimadfaaDoorK23
import Derived.Test.YtibagghpimadfaaDoorK19
import Derived.Test.YtibagghpimadfaaDoorK22
import Derived.Test.YtibagghpimadfaaDoorK4
import Derived.Lib.TrimUEq
import Derived.Lib.ValidLaws
import Derived.Lib.DecodeN
import Derived.Lib.MapLaws
/-
  Contract: which lists of nodes the program calls a right expression: those that the specification calls so.
-/
namespace Go.Proofs.YtibagghpimadfaaDoor
open Go.RowKit Go.Joins
set_option linter.unusedVariables false
set_option linter.unusedSimpArgs false
theorem rxB_none {X : Rx} {k : Nat} (hk : k < X.len) (h : trX X k = none) : rxB X = false := by
  by_cases ht : trX X (X.len - 1) = some 0
  · have := tr_all (twoK X.K) (cntK X.K) X.A X.B X.len (X.len - 1) 0 (by omega) ht k (Nat.zero_le _) (by omega)
    unfold trX at h
    rw [h] at this
    cases this
  · unfold rxB
    rw [decide_eq_false ht]
    simp
theorem infoSp : (Tryd.prog.info? 60).map (fun i => (i.zero, i.size, i.bytes)) = some (some (.agg #[.int .i64 0, .int .i64 0]), 2, 16) := by kernel_rfl
/-- Behind k nodes: the spans so far, and that all was right. -/
def RxRel (w wr : World) (X : Rx) (k : Nat) (ad : Option Addr) (c : Nat) : Prop :=
  (∃ xs, wr.ownsRow w.heap.size 60 2 (.slice ad k c) k xs ∧ Pairs xs k (tI X) (wtX X)) ∧ Below w.heap.size w wr ∧ (∀ j, j < k → nodeX X j = true) ∧ (∀ j, j < k → (trX X j).isSome = true)
theorem rel_go {w wr w2 : World} {X : Rx} {k : Nat} {ad : Option Addr} {c : Nat} (h : RxRel w wr X k ad c) (hb : Below wr.heap.size wr w2) : RxRel w w2 X k ad c := by
  obtain ⟨⟨xs, ho, hp⟩, h2, h3, h4⟩ := h
  exact ⟨⟨xs, own_after ho hb, hp⟩, h2.trans (hb.mono h2.size), h3, h4⟩
theorem rel_rng {w wr : World} {X : Rx} {k : Nat} {ad : Option Addr} {c : Nat} (h : RxRel w wr X k ad c) : RngAt wr ad k (tI X) (wtX X) wr.heap.size := by
  obtain ⟨⟨xs, ho, hp⟩, h2, h3, h4⟩ := h
  exact own_rng2 ho hp
theorem rel_put {w wr w2 : World} {X : Rx} {k f : Nat} {ad ad2 : Option Addr} {c c2 : Nat} {xs : List Value} (ho : w2.ownsRow w.heap.size 60 2 (.slice ad2 (k + 1) c2) (k + 1) (xs ++ [.int .i64 (f : Int), .int .i64 (wtX X k)])) (hl : xs.length = k * 2) (hp : Pairs xs k (tI X) (wtX X)) (hb : Below w.heap.size w w2) (h : RxRel w wr X k ad c) (hn : nodeX X k = true) (ht : trX X k = some f) : RxRel w w2 X (k + 1) ad2 c2 := by
  refine ⟨⟨_, ho, pairs_snoc hp hl (tI_some ht) rfl⟩, hb, fun j hj => ?_, fun j hj => ?_⟩
  · by_cases e : j = k
    · subst e; exact hn
    · exact h.2.2.1 j (by omega)
  · by_cases e : j = k
    · subst e; rw [ht]; rfl
    · exact h.2.2.2 j (by omega)
theorem below_own2 {w w1 w2 : World} {e : TypeId} {ad : Option Addr} {k c : Nat} {xs : List Value} {o1 o2 : Obj} (hb : Below w.heap.size w w1) (ho : w1.ownsRow w.heap.size e 2 (.slice ad k c) k xs) (hg : ((w1.alloc o1).alloc o2).grownBy w2 (Value.slice ad k c).ownBlock) : Below w.heap.size w w2 := by
  have h1 : Below w.heap.size w ((w1.alloc o1).alloc o2) := (hb.alloc hb.size _).alloc (by have := hb.size; simp; omega) _
  refine h1.grown hg h1.size fun j hj => ?_
  rcases ho.2 with ⟨hv, h0⟩ | ⟨g, cap, cur, hv, hB, rest⟩
  · rw [hv] at hj
    simp [Value.ownBlock] at hj
  · rw [hv] at hj
    simp [Value.ownBlock] at hj
    omega
theorem two_new2 (w : World) (o : Obj) (x y : Int) (T : TypeId) (j : Nat) (u : Value) (hj : [Value.int .i64 x, Value.int .i64 y][j]? = some u) : ((w.alloc o).alloc (.cells #[.int .i64 x, .int .i64 y] T)).cell? ((⟨w.heap.size + 1, 0, none⟩ : Addr).add j) = some u := by
  have h := two_new (w.alloc o) x y T j u hj
  have e : (w.alloc o).heap.size = w.heap.size + 1 := by simp
  rw [e] at h
  exact h
set_option maxRecDepth 100000 in
set_option maxHeartbeats 4000000 in
theorem i_regex (X : Rx) (len : Nat) (a : Option Addr) (cap : Nat) (w : World) (hX : X.len = len) (hlen : len ≤ maxLen) (hnr : ∀ j, j < len → X.NR j ≤ maxLen) (hr : RxAt w a X w.heap.size) :
    Calls Tryd.prog 13 #[.slice a len cap] w fun e w' => e = .returned (.bool (rxB X)) ∧ Below w.heap.size w w' := by
  unfold maxLen at hlen
  have HX := hide hX
  have HNR := hide hnr
  have HR := hide hr
  clear hr hnr hX
  by_cases hs : 1 ≤ len ∧ len ≤ 120
  · obtain ⟨g1, g2⟩ := hs
    have g3 : (1 : Int) ≤ len := by omega
    have g4 : (len : Int) ≤ 120 := by omega
    obtain ⟨b, off, rfl, hbs, hrow⟩ := HR.out (by rw [HX.out]; omega)
    have HRW := hide hrow
    clear hrow
    obtain ⟨i0, hi, hz0, hz1, hz2⟩ := info_parts infoSp
    go_enter Tryd.func13, Tryd.ntmps13
    go_wp2
    go_loopw [3, 19] (fun v i wr => ∃ (k : Nat) (ad : Option Addr) (c : Nat), k ≤ len ∧ i = .int .i64 k ∧ v = .slice ad k c ∧ RxRel w wr X k ad c) (fun _ i _ => len - (intOf i).toNat)
    case atStart => exact ⟨0, none, 0, Nat.zero_le _, rfl, rfl, ⟨[], ⟨rfl, .inl ⟨rfl, rfl⟩⟩, fun j h => by omega⟩, Below.refl _ _, fun j h => by omega, fun j h => by omega⟩
    case round =>
      obtain ⟨k, ad, c, hk, rfl, rfl, hrel⟩ := hrel
      have hb := hrel.2.1
      by_cases hlt : k < len
      · obtain ⟨ar, cp, hc, hrg⟩ := HRW.out k (by rw [HX.out]; omega)
        obtain ⟨c0, c1, c2, c3, c4, c5, c6⟩ := rxCells_go hc hbs hb
        have hbw : b < wr.heap.size := Nat.lt_of_lt_of_le hbs hb.size
        have HG := hide (rngAt_up (rngAt_go hrg hb) hb.size)
        have HRL := hide hrel
        have hi9 : (k : Int) < (len : Int) := by omega
        clear hc hrg hb hrel
        go_wp2_with fail
        refine (i_fields _ _ _ _ _ _ _ _ _ (X.L k) (X.H k) _ (HNR.out k hlt) (rngAt_up (rngAt_go HG.out ((Below.refl _ _).alloc (Nat.le_refl _) _)) (by simp))).mono ?_
        rintro e w2 ⟨rfl, hb2⟩
        have HX2 := hide (box_node hb2)
        have HRL2 := hide (rel_go HRL.out HX2.out.2)
        clear hb2 c0 c1 c2 c3 c4 c5 c6
        cases hno : nodeX X k
        · rw [show nodeB (X.K k) (X.NT k) (X.NR k) (X.L k) (X.H k) (X.A k) (X.B k) (X.MN k) (X.MX k) = false from hno]
          go_wp2
          go_ret
          exact ⟨ret_bool (rxB_node (by rw [HX.out]; exact hlt) hno).symm, HRL2.out.2.1⟩
        · rw [show nodeB (X.K k) (X.NT k) (X.NR k) (X.L k) (X.H k) (X.A k) (X.B k) (X.MN k) (X.MX k) = true from hno]
          obtain ⟨a0, a1, a2, a3, a4, a5, a6⟩ := nodeAt_cells HX2.out.1
          cases ht : trX X k with
          | none =>
            go_wp2_with fail
            refine (i_spanNone X k ad c ar cp _ (by omega) (rel_rng HRL2.out) HRL2.out.2.2.2 ht).mono ?_
            rintro e w3 ⟨rfl, hb3⟩
            have HRL3 := hide (rel_go HRL2.out hb3)
            clear hb3 a0 a1 a2 a3 a4 a5 a6
            go_wp2
            go_ret
            exact ⟨ret_bool (rxB_none (by rw [HX.out]; exact hlt) ht).symm, HRL3.out.2.1.alloc HRL3.out.2.1.size _⟩
          | some f =>
            go_wp2_with fail
            refine (i_spanSome X k ad c ar cp _ (by omega) (rel_rng HRL2.out) hno f ht).mono ?_
            rintro e w3 ⟨rfl, hb3⟩
            have HRL3 := hide (rel_go HRL2.out hb3)
            clear hb3 a0 a1 a2 a3 a4 a5 a6
            have HT := hide ht
            have HNO := hide hno
            clear ht hno
            obtain ⟨xs, ho, hp⟩ := HRL3.out.1
            have HO := hide ho
            have HP := hide hp
            have hsz : w.heap.size ≤ w3.heap.size := HRL3.out.2.1.size
            obtain ⟨z, hz⟩ : ∃ z, wtX X k = z := ⟨_, rfl⟩
            rw [hz]
            have HZ := hide hz
            clear ho hp hz
            go_wp2_with (at_builtin; refine wpList_append_own _ rfl (.tmp 34) (.tmp 36) 57 rfl w.heap.size 60 i0 (.agg #[.int .i64 0, .int .i64 0]) 2 16 Tryd.underlying57 hi hz0 hz1 hz2 rfl (by decide) _ _ _ rfl ((HO.out.alloc _).alloc _) ⟨w3.heap.size + 1, 0, none⟩ 1 1 [.int .i64 (f : Int), .int .i64 z] rfl rfl (fun j u hj => two_new2 w3 _ _ _ _ j u hj) (two_list _ _) (by unfold maxLen; omega) (by omega) (by simp; omega) ?_; intro v2 w4 hown2 hgrow2 _; obtain ⟨ad2, c2, hv2⟩ := own_shape2 hown2; rw [hv2] at hown2 ⊢; clear hv2)
            have hbw4 := below_own2 HRL3.out.2.1 HO.out hgrow2
            have HRL4 := hide (rel_put (f := f) (by rw [HZ.out]; exact hown2) HO.out.1 HP.out hbw4 HRL3.out HNO.out HT.out)
            clear hown2 hgrow2 hbw4
            go_roundw
            case rel => exact ⟨k + 1, ad2, c2, by omega, by go_num, rfl, HRL4.out⟩
            case measure => simp [intOf]; omega
      · have hkn : k = len := by omega
        subst hkn
        have HV := hide (rxB_all (X := X) (by rw [HX.out]; exact ⟨g1, g2⟩) (by rw [HX.out]; exact hrel.2.2.1))
        rw [HX.out] at HV
        obtain ⟨b9, off9, rfl, hb9, hc9⟩ := rel_rng hrel (by omega)
        obtain ⟨d0, d1⟩ := hc9 (k - 1) (by omega)
        have HB := hide hb
        have hso := hrel.2.2.2 (k - 1) (by omega)
        obtain ⟨f, hf⟩ : ∃ f, trX X (k - 1) = some f := by
          cases h : trX X (k - 1) with
          | none => rw [h] at hso; cases hso
          | some f => exact ⟨f, rfl⟩
        rw [tI_some hf] at d0
        have hf2 : (trX X (k - 1) = some 0) ↔ ((f : Int) = 0) := by rw [hf]; simp
        rw [show decide (trX X (k - 1) = some 0) = decide ((f : Int) = 0) from by simp [hf2]] at HV
        obtain ⟨x, hx⟩ : ∃ x, wtX X (k - 1) = x := ⟨_, rfl⟩
        rw [hx] at d1 HV
        have q3 : (k : Int) - 1 < (k : Int) := by omega
        have q10 : (1 : Int) ≤ (k : Int) := by omega
        have q5 : ((k : Int) - 1).toNat = k - 1 := by omega
        clear hrel hb hc9 hso hf hf2 hx
        by_cases hfz : f = 0
        · subst hfz
          go_wp2
          go_ret
          exact ⟨ret_bool (by rw [HV.out]; simp), HB.out.alloc HB.out.size _⟩
        · have hfz2 : ((f : Int) == 0) = false := by simp; omega
          have HV2 : Hid (rxB X = false) := hide (by rw [HV.out, decide_eq_false (by omega)]; rfl)
          go_wp2
          go_ret
          exact ⟨ret_bool HV2.out.symm, HB.out.alloc HB.out.size _⟩
  · have e := rxB_size (X := X) (by rw [HX.out]; exact hs)
    rw [e]
    by_cases g : len = 0
    · go_enter Tryd.func13, Tryd.ntmps13
      go_wp2
      go_ret
      exact ⟨rfl, Below.refl _ _⟩
    · have g2 : (120 : Int) < (len : Int) := by omega
      go_enter Tryd.func13, Tryd.ntmps13
      go_wp2
      go_ret
      exact ⟨rfl, Below.refl _ _⟩
end Go.Proofs.YtibagghpimadfaaDoor

/-
  Contracts: the text of an expression, by the specification and by the program; the walk of FnExactRegexText.
-/
namespace Go.Proofs.YtibagghpimadfaaDoor
open Go.RowKit Go.Joins
set_option linter.unusedVariables false
set_option linter.unusedSimpArgs false
/-- The text of an expression. -/
def rxT (X : Rx) : ByteArray := if rxB X = true then txX X (-1) (X.len - 1) else ⟨#[]⟩
theorem rx_ok {X : Rx} (h : rxB X = true) : (1 ≤ X.len ∧ X.len ≤ 120) ∧ NdOk X X.len ∧ trX X (X.len - 1) = some 0 := by
  unfold rxB at h
  rw [Bool.and_eq_true, Bool.and_eq_true, Bool.and_eq_true, decide_eq_true_iff, decide_eq_true_iff, decide_eq_true_iff, List.all_eq_true] at h
  obtain ⟨h1, h2, h3, h4⟩ := h
  refine ⟨h1, fun j hj => ?_, h3⟩
  have hn := h2 j (by simpa using hj)
  refine ⟨fun h5 => node_cnt hn h5, fun k2 => ?_, ?_⟩
  · unfold nodeX nodeB at hn
    rw [if_neg (by omega), if_pos k2, Bool.and_eq_true] at hn
    have hr := hn.1
    unfold rowB at hr
    rw [Bool.and_eq_true, decide_eq_true_iff] at hr
    refine ⟨hr.1.1, hr.1.2, fun i hi => ?_⟩
    have hg := hr.2
    unfold rgsB at hg
    rw [List.all_eq_true] at hg
    have hx := hg i (by simpa using hi)
    unfold rgB at hx
    rw [Bool.and_eq_true, Bool.and_eq_true, decide_eq_true_iff] at hx
    exact ⟨hx.1, hx.2.1, hx.2.2⟩
  · unfold nodeX nodeB at hn
    by_cases k1 : X.K j = 1
    · exact .inl k1
    · rw [if_neg k1] at hn
      by_cases k2 : X.K j = 2
      · exact .inr (.inl k2)
      · rw [if_neg k2] at hn
        by_cases k3 : X.K j = 3 ∨ X.K j = 4
        · rcases k3 with k | k
          · exact .inr (.inr (.inl k))
          · exact .inr (.inr (.inr (.inl k)))
        · rw [if_neg k3] at hn
          by_cases k5 : X.K j = 5
          · exact .inr (.inr (.inr (.inr k5)))
          · rw [if_neg k5] at hn
            cases hn
set_option maxHeartbeats 4000000 in
theorem s_regexT (X : Rx) (len : Nat) (a : Option Addr) (cap : Nat) (w : World) (hX : X.len = len) (hlen : len ≤ maxLen) (hnr : ∀ j, j < len → X.NR j ≤ maxLen) (hr : RxAt w a X w.heap.size) :
    Calls Tryd.prog 18 #[.slice a len cap] w fun e w' => e = .returned (.string (rxT X)) ∧ Below w.heap.size w w' := by
  have C := hide (s_regex X len a cap w hX hlen hnr hr)
  have HR := hide hr
  have HX := hide hX
  cases hb : rxB X
  · have HV : Hid (rxT X = ⟨#[]⟩) := hide (by unfold rxT; rw [hb]; rfl)
    rw [hb] at C
    clear hr hnr hX hb hlen
    go_enter Tryd.func18, Tryd.ntmps18
    go_wp2_with (go_at_call 27; refine C.out.mono ?_; rintro e w2 ⟨rfl, hb2⟩; have HB2 := hide hb2; clear hb2)
    go_ret
    exact ⟨ret_s9 HV.out.symm, HB2.out⟩
  · obtain ⟨h1, h2, h3⟩ := rx_ok hb
    rw [hX] at h1 h2 h3
    have HV : Hid (rxT X = txX X (-1) (len - 1)) := hide (by unfold rxT; rw [hb, hX]; rfl)
    obtain ⟨b, off, rfl, hbw, hrow⟩ := hr (by omega)
    have hi : (len : Int) - 1 = ((len - 1 : Nat) : Int) := by omega
    have CT : Hid (∀ w2, Below w.heap.size w w2 → Calls Tryd.prog 36 #[.slice (some ⟨b, off, none⟩) len cap, .int .i64 ((len : Int) - 1), .int .i64 (-1)] w2 fun e w' => e = .returned (.string (txX X (-1) (len - 1))) ∧ Below w2.heap.size w2 w') := hide (fun w2 h => by
      rw [hi]
      exact s_text X len hX h1.2 h2 b off cap len (len - 1) 0 (-1) (by omega) (by omega) (.inl rfl) h3 w2 (Nat.lt_of_lt_of_le hbw h.size) (rxRow_up (rxRow_go hrow hbw h) h.size))
    rw [hb] at C
    have hl1 : (1 : Int) ≤ len := by omega
    have hl2 : (len : Int) ≤ 120 := by omega
    clear hr hnr hX hb hrow hi h3 h2 hlen
    go_enter Tryd.func18, Tryd.ntmps18
    go_wp2_with (first | (go_at_call 27; refine C.out.mono ?_; rintro e w2 ⟨rfl, hb2⟩; have HB2 := hide hb2; clear hb2) | (go_at_call 36; refine (CT.out _ HB2.out).mono ?_; rintro e w3 ⟨rfl, hb3⟩; have HB3 := hide (HB2.out.trans (hb3.mono HB2.out.size)); clear hb3))
    go_ret
    exact ⟨ret_s9 HV.out.symm, HB3.out⟩
set_option maxHeartbeats 4000000 in
theorem i_regexT (X : Rx) (len : Nat) (a : Option Addr) (cap : Nat) (w : World) (hX : X.len = len) (hlen : len ≤ maxLen) (hnr : ∀ j, j < len → X.NR j ≤ maxLen) (hr : RxAt w a X w.heap.size) (hp : PwT w) :
    Calls Tryd.prog 11 #[.slice a len cap] w fun e w' => e = .returned (.string (rxT X)) ∧ Below w.heap.size w w' := by
  have C := hide (i_regex X len a cap w hX hlen hnr hr)
  have HR := hide hr
  have HX := hide hX
  have HP := hide hp
  cases hb : rxB X
  · have HV : Hid (rxT X = ⟨#[]⟩) := hide (by unfold rxT; rw [hb]; rfl)
    rw [hb] at C
    clear hr hnr hX hb hlen hp
    go_enter Tryd.func11, Tryd.ntmps11
    go_wp2_with (go_at_call 13; refine C.out.mono ?_; rintro e w2 ⟨rfl, hb2⟩; have HB2 := hide hb2; clear hb2)
    go_ret
    exact ⟨ret_s9 HV.out.symm, HB2.out⟩
  · obtain ⟨h1, h2, h3⟩ := rx_ok hb
    rw [hX] at h1 h2 h3
    have HV : Hid (rxT X = txX X (-1) (len - 1)) := hide (by unfold rxT; rw [hb, hX]; rfl)
    obtain ⟨b, off, rfl, hbw, hrow⟩ := hr (by omega)
    have hi : (len : Int) - 1 = ((len - 1 : Nat) : Int) := by omega
    have CT : Hid (∀ w2, Below w.heap.size w w2 → Calls Tryd.prog 28 #[.slice (some ⟨b, off, none⟩) len cap, .int .i64 ((len : Int) - 1)] w2 fun e w' => e = .returned (.string (ntX X (len - 1))) ∧ Below w2.heap.size w2 w') := hide (fun w2 h => by
      rw [hi]
      exact i_node X len hX h1.2 h2 b off cap len (len - 1) 0 (by omega) (by omega) h3 w2 (Nat.lt_of_lt_of_le hbw h.size) (rxRow_up (rxRow_go hrow hbw h) h.size) (pw_go HP.out h))
    rw [hb] at C
    have hl1 : (1 : Int) ≤ len := by omega
    have hl2 : (len : Int) ≤ 120 := by omega
    have hl3 : (0 : Int) ≤ (len : Int) - 1 := by omega
    have hl4 : (len : Int) - 1 < len := by omega
    have hl5 : ((len : Int) - 1).toNat = len - 1 := by omega
    obtain ⟨ad, cp, hc, -⟩ := hrow (len - 1) (by omega)
    have c0 := hc.1
    have C0 : Hid (∀ w2, Below w.heap.size w w2 → w2.cell? ⟨b, off + (len - 1) * 7, none⟩ = some (.int .i64 (X.K (len - 1)))) := hide (fun w2 h => (h.cell (p := ⟨b, off + (len - 1) * 7, none⟩) hbw).trans c0)
    have HK1 := hide (tx_e (X := X) (n := len - 1))
    have HK2 := hide (tx_m (X := X) (n := len - 1))
    obtain ⟨K, hK⟩ : ∃ K, X.K (len - 1) = K := ⟨_, rfl⟩
    rw [hK] at C0 HK1 HK2
    clear hr hnr hX hb hrow hi h3 h2 hlen hp hc c0 hK
    by_cases k1 : K = 1
    · rw [HK1.out k1] at HV
      have k1b : (K == 1) = true := by rw [beq_iff_eq]; exact k1
      clear k1
      go_enter Tryd.func11, Tryd.ntmps11
      go_wp2_with (first | (go_at_call 13; refine C.out.mono ?_; rintro e w2 ⟨rfl, hb2⟩; have HB2 := hide hb2; have q0 := C0.out w2 hb2; clear hb2))
      go_ret
      exact ⟨ret_s9 HV.out.symm, HB2.out⟩
    · rw [HK2.out k1] at HV
      have k1b : (K == 1) = false := by rw [beq_eq_false_iff_ne]; exact k1
      clear k1
      go_enter Tryd.func11, Tryd.ntmps11
      go_wp2_with (first | (go_at_call 13; refine C.out.mono ?_; rintro e w2 ⟨rfl, hb2⟩; have HB2 := hide hb2; have q0 := C0.out w2 hb2; clear hb2) | (go_at_call 28; refine (CT.out _ HB2.out).mono ?_; rintro e w3 ⟨rfl, hb3⟩; have HB3 := hide (HB2.out.trans (hb3.mono HB2.out.size)); clear hb3))
      go_ret
      exact ⟨ret_s9 HV.out.symm, HB3.out⟩
set_option maxRecDepth 100000 in
set_option maxHeartbeats 4000000 in
theorem te_walk (X : Rx) (len : Nat) (a : Option Addr) (cap : Nat) (w : World) (hX : X.len = len) (hlen : len ≤ maxLen) (hnr : ∀ j, j < len → X.NR j ≤ maxLen) (hr : RxAt w a X w.heap.size) (hp : PwT w) :
    Calls Tryd.prog 5 #[.slice a len cap] w fun e w' => e = .returned (.bool true) ∧ Below w.heap.size w w' := by
  have HX := hide hX
  have HR := hide hr
  have HP := hide hp
  have HS := hide (l_szNs X a cap w (by rw [hX]; exact hlen) (by rw [hX]; exact hnr) hr)
  rw [hX] at HS
  by_cases hbig : rxTot X ≤ 1048576
  · have HL := hide (rxLeft_yes hbig)
    have hl2 : len ≤ 1048576 := by unfold rxTot at hbig; omega
    have HNR : Hid (∀ j, j < len → X.NR j ≤ 1048576) := hide (fun j hj => by have := sumN_at X.NR (a := j) (b := X.len) (by omega); unfold rxTot at hbig; omega)
    have HNM : Hid (∀ j, j < len → X.NR j ≤ maxLen) := hide hnr
    have HLM := hide hlen
    have hl9 : (0 : Int) ≤ 1048576 - (rxTot X : Int) := by omega
    clear hr hX hnr hlen hp
    go_enter Tryd.func5, Tryd.ntmps5
    go_wp2_with fail
    refine HS.out.mono ?_
    rintro e w1 ⟨rfl, hb1⟩
    rw [HL.out]
    have HA1 := hide (rxAt_up (rxAt_go HR.out hb1) hb1.size)
    have HB1 := hide hb1
    clear hb1
    go_wp2_with fail
    refine (l_toNs X len a cap _ HX.out hl2 HNR.out HA1.out).mono ?_
    rintro e w2 ⟨g2, rfl, hg2, hr2, hb2⟩
    have HB2 := hide (HB1.out.trans (hb2.mono HB1.out.size))
    have HR2 := hide hr2
    clear hr2 hb2
    go_wp2_with fail
    refine (s_regexT X len _ _ _ HX.out HLM.out HNM.out HR2.out).mono ?_
    rintro e w3 ⟨rfl, hb3⟩
    have HB3 := hide (HB2.out.trans (hb3.mono HB2.out.size))
    have HA3 := hide (rxAt_up (rxAt_go HR.out HB3.out) HB3.out.size)
    clear hb3
    obtain ⟨V, hV⟩ : ∃ V, rxT X = V := ⟨_, rfl⟩
    rw [hV]
    have HV := hide hV
    clear hV
    go_wp2_with fail
    refine (l_toNs X len a cap _ HX.out hl2 HNR.out HA3.out).mono ?_
    rintro e w4 ⟨g4, rfl, hg4, hr4, hb4⟩
    have HB4 := hide (HB3.out.trans (hb4.mono HB3.out.size))
    have HR4 := hide hr4
    clear hr4 hb4
    go_wp2_with fail
    refine (i_regexT X len _ _ _ HX.out HLM.out HNM.out HR4.out (pw_go HP.out HB4.out)).mono ?_
    rintro e w5 ⟨rfl, hb5⟩
    rw [HV.out]
    have HB5 := hide (HB4.out.trans (hb5.mono HB4.out.size))
    have HR5 := hide (rxAt_up (rxAt_go HR4.out hb5) hb5.size)
    have HA5 := hide (rxAt_up (rxAt_go HR.out HB5.out) HB5.out.size)
    clear hb5
    go_wp2_with fail
    refine (l_toNs X len a cap _ HX.out hl2 HNR.out HA5.out).mono ?_
    rintro e w6 ⟨g6, rfl, hg6, hr6, hb6⟩
    have HB6 := hide (HB5.out.trans (hb6.mono HB5.out.size))
    have HR6 := hide hr6
    have HR56 := hide (rxAt_up (rxAt_go HR5.out hb6) hb6.size)
    clear hr6 hb6
    go_wp2_with fail
    refine (l_eqNs X len _ _ _ _ _ HX.out hl2 HNR.out HR56.out HR6.out).mono ?_
    rintro e w7 ⟨rfl, hb7⟩
    have HB7 := hide (HB6.out.trans (hb7.mono HB6.out.size))
    clear hb7
    go_wp2
    go_ret
    exact ⟨rfl, HB7.out⟩
  · have HL := hide (rxLeft_no hbig)
    clear hr hX hnr hlen hp
    go_enter Tryd.func5, Tryd.ntmps5
    go_wp2_with fail
    refine HS.out.mono ?_
    rintro e w1 ⟨rfl, hb1⟩
    rw [HL.out]
    have HB1 := hide hb1
    clear hb1
    go_wp2
    go_ret
    exact ⟨rfl, HB1.out⟩
end Go.Proofs.YtibagghpimadfaaDoor

/-
  Plain facts on UTF-8: what the decoder answers, by the bytes' ranges; the characters of a text, from the front.
-/
namespace Go.Proofs.YtibagghpimadfaaDoor
open Go.Lib

def rnF (d : Nat × Nat) : Int × Int := if d = (65533, 1) then (0, 0) else ((d.1 : Int), (d.2 : Int))
theorem rnF_bad {d : Nat × Nat} (h : d = (65533, 1)) : rnF d = (0, 0) := by rw [rnF, if_pos h]
theorem rnF_ok {d : Nat × Nat} {x k : Nat} (h : d = (x, k)) (hk : k ≠ 1 ∨ x ≠ 65533) : rnF d = ((x : Int), (k : Int)) := by
  rw [rnF, if_neg (by rw [h]; simp only [Prod.mk.injEq]; omega), h]

variable {n b0 b1 b2 b3 : Nat}
theorem d1 (h : b0 < 128) : decodeN n b0 b1 b2 b3 = (b0, 1) := by unfold decodeN; rw [if_pos h]
theorem dx (h : 128 ≤ b0) (h' : b0 < 192 ∨ 248 ≤ b0) : decodeN n b0 b1 b2 b3 = (65533, 1) := by
  unfold decodeN; rw [if_neg (by omega), if_neg (by omega), if_neg (by omega), if_neg (by omega)]
theorem d2n (h : 192 ≤ b0) (h' : b0 < 224) (hb : n < 2 ∨ b1 < 128 ∨ 192 ≤ b1) (h1 : b1 < 256) : decodeN n b0 b1 b2 b3 = (65533, 1) := by
  unfold decodeN; rw [if_neg (by omega), if_neg (by omega), if_neg (by omega), if_neg (by omega)]
theorem d2l (h : 192 ≤ b0) (h' : b0 < 224) (hn : 2 ≤ n) (hb : 128 ≤ b1) (hb' : b1 < 192) (hl : 64 * (b0 % 32) + b1 % 64 < 128) : decodeN n b0 b1 b2 b3 = (65533, 1) := by
  unfold decodeN; rw [if_neg (by omega), if_pos (by omega), if_neg (by omega)]
theorem d2y (h : 192 ≤ b0) (h' : b0 < 224) (hn : 2 ≤ n) (hb : 128 ≤ b1) (hb' : b1 < 192) (hl : 128 ≤ 64 * (b0 % 32) + b1 % 64) : decodeN n b0 b1 b2 b3 = (64 * (b0 % 32) + b1 % 64, 2) := by
  unfold decodeN; rw [if_neg (by omega), if_pos (by omega), if_pos (by omega)]
  exact Prod.ext (by show _ = _; omega) rfl
theorem d3n (h : 224 ≤ b0) (h' : b0 < 240) (hb : n < 3 ∨ b1 < 128 ∨ 192 ≤ b1 ∨ b2 < 128 ∨ 192 ≤ b2) (h1 : b1 < 256) (h2 : b2 < 256) : decodeN n b0 b1 b2 b3 = (65533, 1) := by
  unfold decodeN; rw [if_neg (by omega), if_neg (by omega), if_neg (by omega), if_neg (by omega)]
theorem d3l (h : 224 ≤ b0) (h' : b0 < 240) (hn : 3 ≤ n) (hb : 128 ≤ b1) (hb' : b1 < 192) (hc : 128 ≤ b2) (hc' : b2 < 192)
    (hl : 64 * (64 * (b0 % 16) + b1 % 64) + b2 % 64 < 2048 ∨ (55296 ≤ 64 * (64 * (b0 % 16) + b1 % 64) + b2 % 64 ∧ 64 * (64 * (b0 % 16) + b1 % 64) + b2 % 64 < 57344)) : decodeN n b0 b1 b2 b3 = (65533, 1) := by
  unfold decodeN; rw [if_neg (by omega), if_neg (by omega), if_pos (by omega), if_neg (by omega)]
theorem d3y (h : 224 ≤ b0) (h' : b0 < 240) (hn : 3 ≤ n) (hb : 128 ≤ b1) (hb' : b1 < 192) (hc : 128 ≤ b2) (hc' : b2 < 192)
    (hl : 2048 ≤ 64 * (64 * (b0 % 16) + b1 % 64) + b2 % 64) (hl' : 64 * (64 * (b0 % 16) + b1 % 64) + b2 % 64 < 55296 ∨ 57344 ≤ 64 * (64 * (b0 % 16) + b1 % 64) + b2 % 64) :
    decodeN n b0 b1 b2 b3 = (64 * (64 * (b0 % 16) + b1 % 64) + b2 % 64, 3) := by
  unfold decodeN; rw [if_neg (by omega), if_neg (by omega), if_pos (by omega), if_pos (by omega)]
  exact Prod.ext (by show _ = _; omega) rfl
theorem d4n (h : 240 ≤ b0) (h' : b0 < 248) (hb : n < 4 ∨ b1 < 128 ∨ 192 ≤ b1 ∨ b2 < 128 ∨ 192 ≤ b2 ∨ b3 < 128 ∨ 192 ≤ b3) (h1 : b1 < 256) (h2 : b2 < 256) (h3 : b3 < 256) : decodeN n b0 b1 b2 b3 = (65533, 1) := by
  unfold decodeN; rw [if_neg (by omega), if_neg (by omega), if_neg (by omega), if_neg (by omega)]
theorem d4l (h : 240 ≤ b0) (h' : b0 < 248) (hn : 4 ≤ n) (hb : 128 ≤ b1) (hb' : b1 < 192) (hc : 128 ≤ b2) (hc' : b2 < 192) (hd : 128 ≤ b3) (hd' : b3 < 192)
    (hl : 64 * (64 * (64 * (b0 % 8) + b1 % 64) + b2 % 64) + b3 % 64 < 65536 ∨ 1114111 < 64 * (64 * (64 * (b0 % 8) + b1 % 64) + b2 % 64) + b3 % 64) : decodeN n b0 b1 b2 b3 = (65533, 1) := by
  unfold decodeN; rw [if_neg (by omega), if_neg (by omega), if_neg (by omega), if_pos (by omega), if_neg (by omega)]
theorem d4y (h : 240 ≤ b0) (h' : b0 < 248) (hn : 4 ≤ n) (hb : 128 ≤ b1) (hb' : b1 < 192) (hc : 128 ≤ b2) (hc' : b2 < 192) (hd : 128 ≤ b3) (hd' : b3 < 192)
    (hl : 65536 ≤ 64 * (64 * (64 * (b0 % 8) + b1 % 64) + b2 % 64) + b3 % 64) (hl' : 64 * (64 * (64 * (b0 % 8) + b1 % 64) + b2 % 64) + b3 % 64 ≤ 1114111) :
    decodeN n b0 b1 b2 b3 = (64 * (64 * (64 * (b0 % 8) + b1 % 64) + b2 % 64) + b3 % 64, 4) := by
  unfold decodeN; rw [if_neg (by omega), if_neg (by omega), if_neg (by omega), if_pos (by omega), if_pos (by omega)]
  exact Prod.ext (by show _ = _; omega) rfl

/-- The bytes of a text, as numbers. -/
def byN (s : ByteArray) (k : Nat) : Nat := (s.data.toList.getD k 0).toNat
theorem byN_eq (s : ByteArray) (k : Nat) (h : k < s.size) : s[k].toNat = byN s k := by
  have h' : k < s.data.toList.length := by simpa using h
  unfold byN; rw [List.getD, List.getElem?_eq_getElem h']; rfl
theorem byN_lt (s : ByteArray) (k : Nat) : byN s k < 256 := UInt8.toNat_lt _
theorem dec_byN (s : ByteArray) : decodeL s.data.toList = decodeN s.size (byN s 0) (byN s 1) (byN s 2) (byN s 3) := by
  rw [decodeL_N, Array.length_toList]; rfl

/-- The characters that a text is in UTF-8, if it is. -/
def runesN : Nat → List UInt8 → Option (List Int)
  | 0, _ => some []
  | f + 1, l => if l = [] then some [] else if (decodeL l).1 = 65533 ∧ (decodeL l).2 = 1 then none else (runesN f (l.drop (decodeL l).2)).map (((decodeL l).1 : Int) :: ·)
def runesL (l : List UInt8) : Option (List Int) := runesN l.length l
theorem runesN_more : ∀ (f g : Nat) (l : List UInt8), l.length ≤ f → l.length ≤ g → runesN f l = runesN g l
  | 0, 0, _, _, _ => rfl
  | 0, g + 1, l, hf, _ => by have : l = [] := List.length_eq_zero_iff.1 (by omega); subst this; simp [runesN]
  | f + 1, 0, l, _, hg => by have : l = [] := List.length_eq_zero_iff.1 (by omega); subst this; simp [runesN]
  | f + 1, g + 1, l, hf, hg => by
    unfold runesN
    by_cases h : l = []
    · rw [if_pos h, if_pos h]
    · rw [if_neg h, if_neg h]
      have hw := decodeL_width l
      have hl : 0 < l.length := List.length_pos_iff.2 h
      rw [runesN_more f g (l.drop (decodeL l).2) (by rw [List.length_drop]; omega) (by rw [List.length_drop]; omega)]
theorem runesL_nil : runesL [] = some [] := rfl
theorem runesL_bad {l : List UInt8} (h : l ≠ []) (hb : decodeL l = (65533, 1)) : runesL l = none := by
  have hl : 0 < l.length := List.length_pos_iff.2 h
  unfold runesL
  obtain ⟨k, hk⟩ : ∃ k, l.length = k + 1 := ⟨l.length - 1, by omega⟩
  rw [hk, runesN, if_neg h, if_pos (by rw [hb]; exact ⟨rfl, rfl⟩)]
theorem runesL_step {l : List UInt8} (h : l ≠ []) (hb : decodeL l ≠ (65533, 1)) : runesL l = (runesL (l.drop (decodeL l).2)).map (((decodeL l).1 : Int) :: ·) := by
  have hl : 0 < l.length := List.length_pos_iff.2 h
  have hw := decodeL_width l
  conv => lhs; unfold runesL
  obtain ⟨k, hk⟩ : ∃ k, l.length = k + 1 := ⟨l.length - 1, by omega⟩
  rw [hk, runesN, if_neg h, if_neg (fun e => hb (Prod.ext e.1 e.2)), runesL, runesN_more k (l.drop (decodeL l).2).length _ (by rw [List.length_drop]; omega) (Nat.le_refl _)]
theorem runesL_valid : ∀ (f : Nat) (l : List UInt8), l.length ≤ f → validD l = (runesL l).isSome
  | 0, l, hf => by have : l = [] := List.length_eq_zero_iff.1 (by omega); subst this; rfl
  | f + 1, l, hf => by
    by_cases h : l = []
    · subst h; rfl
    · have hl : 0 < l.length := List.length_pos_iff.2 h
      have hw := decodeL_width l
      rw [validD_step l h]
      by_cases hb : decodeL l = (65533, 1)
      · rw [if_pos (by rw [hb]; exact ⟨rfl, rfl⟩), runesL_bad h hb]; rfl
      · rw [if_neg (fun e => hb (Prod.ext e.1 e.2)), runesL_step h hb, runesL_valid f _ (by rw [List.length_drop]; omega)]
        cases runesL (l.drop (decodeL l).2) <;> rfl
end Go.Proofs.YtibagghpimadfaaDoor
