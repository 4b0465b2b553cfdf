/-
  Contract: which lists of nodes the program calls a right expression: those that the specification calls so.
-/
import Derived.Test.YtbijilnbbbicmaaDoorRxSp3
namespace Go.Proofs.YtbijilnbbbicmaaDoor
open Go.RowKit Go.Joins
set_option linter.unusedVariables false
set_option linter.unusedSimpArgs false
theorem rxB_none {X : Rx} {k : Nat} (hk : k < X.len) (h : trX X k = none) : rxB X = false := by
  by_cases ht : trX X (X.len - 1) = some 0
  · have := tr_all (twoK X.K) (cntK X.K) X.A X.B X.len (X.len - 1) 0 (by omega) ht k (Nat.zero_le _) (by omega)
    unfold trX at h
    rw [h] at this
    cases this
  · unfold rxB
    rw [decide_eq_false ht]
    simp
theorem infoSp : (Tryd.prog.info? 60).map (fun i => (i.zero, i.size, i.bytes)) = some (some (.agg #[.int .i64 0, .int .i64 0]), 2, 16) := by kernel_rfl
/-- Behind k nodes: the spans so far, and that all was right. -/
def RxRel (w wr : World) (X : Rx) (k : Nat) (ad : Option Addr) (c : Nat) : Prop :=
  (∃ xs, wr.ownsRow w.heap.size 60 2 (.slice ad k c) k xs ∧ Pairs xs k (tI X) (wtX X)) ∧ Below w.heap.size w wr ∧ (∀ j, j < k → nodeX X j = true) ∧ (∀ j, j < k → (trX X j).isSome = true)
theorem rel_go {w wr w2 : World} {X : Rx} {k : Nat} {ad : Option Addr} {c : Nat} (h : RxRel w wr X k ad c) (hb : Below wr.heap.size wr w2) : RxRel w w2 X k ad c := by
  obtain ⟨⟨xs, ho, hp⟩, h2, h3, h4⟩ := h
  exact ⟨⟨xs, own_after ho hb, hp⟩, h2.trans (hb.mono h2.size), h3, h4⟩
theorem rel_rng {w wr : World} {X : Rx} {k : Nat} {ad : Option Addr} {c : Nat} (h : RxRel w wr X k ad c) : RngAt wr ad k (tI X) (wtX X) wr.heap.size := by
  obtain ⟨⟨xs, ho, hp⟩, h2, h3, h4⟩ := h
  exact own_rng2 ho hp
theorem rel_put {w wr w2 : World} {X : Rx} {k f : Nat} {ad ad2 : Option Addr} {c c2 : Nat} {xs : List Value} (ho : w2.ownsRow w.heap.size 60 2 (.slice ad2 (k + 1) c2) (k + 1) (xs ++ [.int .i64 (f : Int), .int .i64 (wtX X k)])) (hl : xs.length = k * 2) (hp : Pairs xs k (tI X) (wtX X)) (hb : Below w.heap.size w w2) (h : RxRel w wr X k ad c) (hn : nodeX X k = true) (ht : trX X k = some f) : RxRel w w2 X (k + 1) ad2 c2 := by
  refine ⟨⟨_, ho, pairs_snoc hp hl (tI_some ht) rfl⟩, hb, fun j hj => ?_, fun j hj => ?_⟩
  · by_cases e : j = k
    · subst e; exact hn
    · exact h.2.2.1 j (by omega)
  · by_cases e : j = k
    · subst e; rw [ht]; rfl
    · exact h.2.2.2 j (by omega)
theorem below_own2 {w w1 w2 : World} {e : TypeId} {ad : Option Addr} {k c : Nat} {xs : List Value} {o1 o2 : Obj} (hb : Below w.heap.size w w1) (ho : w1.ownsRow w.heap.size e 2 (.slice ad k c) k xs) (hg : ((w1.alloc o1).alloc o2).grownBy w2 (Value.slice ad k c).ownBlock) : Below w.heap.size w w2 := by
  have h1 : Below w.heap.size w ((w1.alloc o1).alloc o2) := (hb.alloc hb.size _).alloc (by have := hb.size; simp; omega) _
  refine h1.grown hg h1.size fun j hj => ?_
  rcases ho.2 with ⟨hv, h0⟩ | ⟨g, cap, cur, hv, hB, rest⟩
  · rw [hv] at hj
    simp [Value.ownBlock] at hj
  · rw [hv] at hj
    simp [Value.ownBlock] at hj
    omega
theorem two_new2 (w : World) (o : Obj) (x y : Int) (T : TypeId) (j : Nat) (u : Value) (hj : [Value.int .i64 x, Value.int .i64 y][j]? = some u) : ((w.alloc o).alloc (.cells #[.int .i64 x, .int .i64 y] T)).cell? ((⟨w.heap.size + 1, 0, none⟩ : Addr).add j) = some u := by
  have h := two_new (w.alloc o) x y T j u hj
  have e : (w.alloc o).heap.size = w.heap.size + 1 := by simp
  rw [e] at h
  exact h
set_option maxRecDepth 100000 in
set_option maxHeartbeats 4000000 in
theorem i_regex (X : Rx) (len : Nat) (a : Option Addr) (cap : Nat) (w : World) (hX : X.len = len) (hlen : len ≤ maxLen) (hnr : ∀ j, j < len → X.NR j ≤ maxLen) (hr : RxAt w a X w.heap.size) :
    Calls Tryd.prog 14 #[.slice a len cap] w fun e w' => e = .returned (.bool (rxB X)) ∧ Below w.heap.size w w' := by
  unfold maxLen at hlen
  have HX := hide hX
  have HNR := hide hnr
  have HR := hide hr
  clear hr hnr hX
  by_cases hs : 1 ≤ len ∧ len ≤ 120
  · obtain ⟨g1, g2⟩ := hs
    have g3 : (1 : Int) ≤ len := by omega
    have g4 : (len : Int) ≤ 120 := by omega
    obtain ⟨b, off, rfl, hbs, hrow⟩ := HR.out (by rw [HX.out]; omega)
    have HRW := hide hrow
    clear hrow
    obtain ⟨i0, hi, hz0, hz1, hz2⟩ := info_parts infoSp
    go_enter Tryd.func14, Tryd.ntmps14
    go_wp2
    go_loopw [3, 19] (fun v i wr => ∃ (k : Nat) (ad : Option Addr) (c : Nat), k ≤ len ∧ i = .int .i64 k ∧ v = .slice ad k c ∧ RxRel w wr X k ad c) (fun _ i _ => len - (intOf i).toNat)
    case atStart => exact ⟨0, none, 0, Nat.zero_le _, rfl, rfl, ⟨[], ⟨rfl, .inl ⟨rfl, rfl⟩⟩, fun j h => by omega⟩, Below.refl _ _, fun j h => by omega, fun j h => by omega⟩
    case round =>
      obtain ⟨k, ad, c, hk, rfl, rfl, hrel⟩ := hrel
      have hb := hrel.2.1
      by_cases hlt : k < len
      · obtain ⟨ar, cp, hc, hrg⟩ := HRW.out k (by rw [HX.out]; omega)
        obtain ⟨c0, c1, c2, c3, c4, c5, c6⟩ := rxCells_go hc hbs hb
        have hbw : b < wr.heap.size := Nat.lt_of_lt_of_le hbs hb.size
        have HG := hide (rngAt_up (rngAt_go hrg hb) hb.size)
        have HRL := hide hrel
        have hi9 : (k : Int) < (len : Int) := by omega
        clear hc hrg hb hrel
        go_wp2_with fail
        refine (i_fields _ _ _ _ _ _ _ _ _ (X.L k) (X.H k) _ (HNR.out k hlt) (rngAt_up (rngAt_go HG.out ((Below.refl _ _).alloc (Nat.le_refl _) _)) (by simp))).mono ?_
        rintro e w2 ⟨rfl, hb2⟩
        have HX2 := hide (box_node hb2)
        have HRL2 := hide (rel_go HRL.out HX2.out.2)
        clear hb2 c0 c1 c2 c3 c4 c5 c6
        cases hno : nodeX X k
        · rw [show nodeB (X.K k) (X.NT k) (X.NR k) (X.L k) (X.H k) (X.A k) (X.B k) (X.MN k) (X.MX k) = false from hno]
          go_wp2
          go_ret
          exact ⟨ret_bool (rxB_node (by rw [HX.out]; exact hlt) hno).symm, HRL2.out.2.1⟩
        · rw [show nodeB (X.K k) (X.NT k) (X.NR k) (X.L k) (X.H k) (X.A k) (X.B k) (X.MN k) (X.MX k) = true from hno]
          obtain ⟨a0, a1, a2, a3, a4, a5, a6⟩ := nodeAt_cells HX2.out.1
          cases ht : trX X k with
          | none =>
            go_wp2_with fail
            refine (i_spanNone X k ad c ar cp _ (by omega) (rel_rng HRL2.out) HRL2.out.2.2.2 ht).mono ?_
            rintro e w3 ⟨rfl, hb3⟩
            have HRL3 := hide (rel_go HRL2.out hb3)
            clear hb3 a0 a1 a2 a3 a4 a5 a6
            go_wp2
            go_ret
            exact ⟨ret_bool (rxB_none (by rw [HX.out]; exact hlt) ht).symm, HRL3.out.2.1.alloc HRL3.out.2.1.size _⟩
          | some f =>
            go_wp2_with fail
            refine (i_spanSome X k ad c ar cp _ (by omega) (rel_rng HRL2.out) hno f ht).mono ?_
            rintro e w3 ⟨rfl, hb3⟩
            have HRL3 := hide (rel_go HRL2.out hb3)
            clear hb3 a0 a1 a2 a3 a4 a5 a6
            have HT := hide ht
            have HNO := hide hno
            clear ht hno
            obtain ⟨xs, ho, hp⟩ := HRL3.out.1
            have HO := hide ho
            have HP := hide hp
            have hsz : w.heap.size ≤ w3.heap.size := HRL3.out.2.1.size
            obtain ⟨z, hz⟩ : ∃ z, wtX X k = z := ⟨_, rfl⟩
            rw [hz]
            have HZ := hide hz
            clear ho hp hz
            go_wp2_with (at_builtin; refine wpList_append_own _ rfl (.tmp 34) (.tmp 36) 58 rfl w.heap.size 60 i0 (.agg #[.int .i64 0, .int .i64 0]) 2 16 Tryd.underlying58 hi hz0 hz1 hz2 rfl (by decide) _ _ _ rfl ((HO.out.alloc _).alloc _) ⟨w3.heap.size + 1, 0, none⟩ 1 1 [.int .i64 (f : Int), .int .i64 z] rfl rfl (fun j u hj => two_new2 w3 _ _ _ _ j u hj) (two_list _ _) (by unfold maxLen; omega) (by omega) (by simp; omega) ?_; intro v2 w4 hown2 hgrow2 _; obtain ⟨ad2, c2, hv2⟩ := own_shape2 hown2; rw [hv2] at hown2 ⊢; clear hv2)
            have hbw4 := below_own2 HRL3.out.2.1 HO.out hgrow2
            have HRL4 := hide (rel_put (f := f) (by rw [HZ.out]; exact hown2) HO.out.1 HP.out hbw4 HRL3.out HNO.out HT.out)
            clear hown2 hgrow2 hbw4
            go_roundw
            case rel => exact ⟨k + 1, ad2, c2, by omega, by go_num, rfl, HRL4.out⟩
            case measure => simp [intOf]; omega
      · have hkn : k = len := by omega
        subst hkn
        have HV := hide (rxB_all (X := X) (by rw [HX.out]; exact ⟨g1, g2⟩) (by rw [HX.out]; exact hrel.2.2.1))
        rw [HX.out] at HV
        obtain ⟨b9, off9, rfl, hb9, hc9⟩ := rel_rng hrel (by omega)
        obtain ⟨d0, d1⟩ := hc9 (k - 1) (by omega)
        have HB := hide hb
        have hso := hrel.2.2.2 (k - 1) (by omega)
        obtain ⟨f, hf⟩ : ∃ f, trX X (k - 1) = some f := by
          cases h : trX X (k - 1) with
          | none => rw [h] at hso; cases hso
          | some f => exact ⟨f, rfl⟩
        rw [tI_some hf] at d0
        have hf2 : (trX X (k - 1) = some 0) ↔ ((f : Int) = 0) := by rw [hf]; simp
        rw [show decide (trX X (k - 1) = some 0) = decide ((f : Int) = 0) from by simp [hf2]] at HV
        obtain ⟨x, hx⟩ : ∃ x, wtX X (k - 1) = x := ⟨_, rfl⟩
        rw [hx] at d1 HV
        have q3 : (k : Int) - 1 < (k : Int) := by omega
        have q10 : (1 : Int) ≤ (k : Int) := by omega
        have q5 : ((k : Int) - 1).toNat = k - 1 := by omega
        clear hrel hb hc9 hso hf hf2 hx
        by_cases hfz : f = 0
        · subst hfz
          go_wp2
          go_ret
          exact ⟨ret_bool (by rw [HV.out]; simp), HB.out.alloc HB.out.size _⟩
        · have hfz2 : ((f : Int) == 0) = false := by simp; omega
          have HV2 : Hid (rxB X = false) := hide (by rw [HV.out, decide_eq_false (by omega)]; rfl)
          go_wp2
          go_ret
          exact ⟨ret_bool HV2.out.symm, HB.out.alloc HB.out.size _⟩
  · have e := rxB_size (X := X) (by rw [HX.out]; exact hs)
    rw [e]
    by_cases g : len = 0
    · go_enter Tryd.func14, Tryd.ntmps14
      go_wp2
      go_ret
      exact ⟨rfl, Below.refl _ _⟩
    · have g2 : (120 : Int) < (len : Int) := by omega
      go_enter Tryd.func14, Tryd.ntmps14
      go_wp2
      go_ret
      exact ⟨rfl, Below.refl _ _⟩
end Go.Proofs.YtbijilnbbbicmaaDoor
