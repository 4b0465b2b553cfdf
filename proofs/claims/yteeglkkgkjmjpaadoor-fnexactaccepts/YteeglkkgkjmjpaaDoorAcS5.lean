/-
  Contracts: whether a model takes a row, by the specification.
-/
import Derived.Test.YteeglkkgkjmjpaaDoorAcS4
import Derived.Test.YteeglkkgkjmjpaaDoorAcN
import Derived.Test.YteeglkkgkjmjpaaDoorPkS2
namespace Go.Proofs.YteeglkkgkjmjpaaDoor
open Go.RowKit Go.Joins
set_option linter.unusedVariables false
set_option linter.unusedSimpArgs false
theorem s_ends (D : Pn) (n b0 off cap : Nat) (W : List ByteArray) (m : Nat) (b : Option Addr) (cq : Nat) (hRN : RN D n) (hW : W.length = m) (hm : m ≤ 200) : ∀ (k i : Nat), i < k → i < n → ∀ (f : List Bool) (fa : Option Addr) (fc : Nat) (w : World), b0 < w.heap.size → PnRow w b0 off D w.heap.size → TxAt w b W w.heap.size → f.length = m + 1 → BoAt w fa f w.heap.size →
    Calls Tryd.prog 70 #[.slice (some ⟨b0, off, none⟩) n cap, .int .i64 i, .slice b m cq, .slice fa ((m : Nat) + 1) fc] w (OnA m (en D W i) f w)
  | 0, i, h, _ => by omega
  | k + 1, i, h, hi => fun f fa fc w h1 h2 h3 h4 h5 =>
    ends_of D n b0 off cap W m b cq f fa fc i w hRN hi h1 h2 hm h3 h4 h5 (fun f fa fc w h1 h2 h3 h4 h5 => by
      have hE := fun (c : Nat) (hc : c < i) => s_ends D n b0 off cap W m b cq hRN hW hm k c (by omega) (by omega)
      rcases rn_kinds hRN hi with e | e | e | e
      · exact once_leaf1 D n b0 off cap W m b cq f fa fc i w hRN hi e h1 h2 hW hm h3 h4 h5
      · exact once_seq D n b0 off cap W m b cq f fa fc i w hRN hi e h1 h2 hW hm h3 h4 h5 hE
      · exact once_or D n b0 off cap W m b cq f fa fc i w hRN hi e h1 h2 hW hm h3 h4 h5 hE
      · exact once_leaf4 D n b0 off cap W m b cq f fa fc i w hRN hi e h1 h2 hW hm h3 h4 h5)
theorem fwd_first {G : List Bool} {m : Nat} {R : Nat → Nat → Prop} (h : Fwd ((List.replicate (m + 1) false).set 0 true) G m R) : G[m]?.getD false = true ↔ R 0 m := by
  rw [h m (Nat.le_refl _)]
  constructor
  · rintro ⟨a, ha, h1, h2⟩
    rw [set_at _ 0 true (by simp) a] at h1
    by_cases e : a = 0
    · subst e; exact h2
    · rw [if_neg e, rep_false] at h1; cases h1
  · intro h1
    exact ⟨0, Nat.zero_le _, by rw [set_at _ 0 true (by simp) 0, if_pos rfl], h1⟩
set_option maxRecDepth 100000 in
set_option maxHeartbeats 8000000 in
theorem s_takes (D : Pn) (n b0 off cap : Nat) (W : List ByteArray) (m : Nat) (b : Option Addr) (cq : Nat) (w : World) (hRN : RN D n) (hn1 : 1 ≤ n) (hW : W.length = m) (hm : m ≤ 200) (hbs : b0 < w.heap.size) (hr : PnRow w b0 off D w.heap.size) (hq : TxAt w b W w.heap.size) :
    Calls Tryd.prog 52 #[.slice (some ⟨b0, off, none⟩) n cap, .slice b m cq] w fun r w' => ∃ B : Bool, r = .returned (.bool B) ∧ (B = true ↔ en D W (n - 1) 0 m) ∧ Below w.heap.size w w' := by
  obtain ⟨i0, hi0, hz0, hz1, hz2⟩ := info_parts infoBo
  have hn40 := hRN.2.1
  have HC := hide (fun (g : Nat) (U : World) (hU : Below w.heap.size w U) (hx : BoX w.heap.size U g (m + 1) (m + 1) ((List.replicate (m + 1) false).set 0 true)) => s_ends D n b0 off cap W m b cq hRN hW hm n (n - 1) (by omega) (by omega) _ (some ⟨g, 0, none⟩) (m + 1) U (Nat.lt_of_lt_of_le hbs hU.size) (pnRow_up (pnRow_go hr hbs hU) hU.size) (tx_up (tx_go hq hU) hU.size) hx.1 (boX_bo hx))
  have hnn : (n : Int) - 1 = ((n - 1 : Nat) : Int) := by omega
  have hwp : IntKind.i64.wrap ((n - 1 : Nat) : Int) = ((n - 1 : Nat) : Int) := by rw [IntKind.wrap_i64]; omega
  obtain ⟨R, hR⟩ : ∃ R, en D W (n - 1) = R := ⟨_, rfl⟩
  rw [hR] at HC ⊢
  have hm0 : (0 : Int) < ((m : Nat) + 1 : Int) := by omega
  have hm1 : (m : Int) < ((m : Nat) + 1 : Int) := by omega
  have hm2 : (0 : Int) ≤ (m : Int) := by omega
  clear hRN hW hr hq hR
  go_enter Tryd.func52, Tryd.ntmps52
  go_upto_region 2 with (first | (at_make; refine wpList_make_full _ rfl _ _ 82 rfl w.heap.size 4 i0 (.bool false) 1 Tryd.underlying82 hi0 hz0 hz1 .i64 .i64 _ _ (m + 1) rfl rfl (by go_num) (by go_num) (by rw [hz2]; omega) (by unfold maxLen; omega) (Nat.le_refl _) ?_; intro w1 hown hgrow; rw [made_false] at hown; have HX1 : Hid (BoX w.heap.size w1 w.heap.size (m + 1) (m + 1) (List.replicate (m + 1) false)) := hide ⟨by rw [List.length_replicate], hown⟩; have HB1 : Hid (Below w.heap.size w w1) := hide ((Below.refl _ _).grown hgrow (Nat.le_refl _) (fun k h => by cases h)); clear hown hgrow))
  have u0 := (boX_at HX1.out).2.2 0 (by omega)
  rw [rep_false] at u0
  have uz := boX_frozen HX1.out 0
  have HXS := hide (boX_set HX1.out 0 true)
  have HBS := hide (HB1.out.setCell (p := ⟨w.heap.size, 0, none⟩) (Nat.le_refl _) (.bool true))
  clear HX1 HB1
  go_wp2_with (first | (go_at_call 70; refine (HC.out _ _ HBS.out HXS.out).mono ?_; rintro r w2 ⟨g2, c2, G, rfl, hx2, hf2, hb2⟩; have k0 := (boX_at hx2).2.2 m (by omega); have HF := hide (fwd_first hf2); have HB2 := hide (HBS.out.trans (hb2.mono HBS.out.size)); clear hx2 hf2 hb2 u0 uz))
  go_ret
  exact ⟨_, rfl, HF.out, HB2.out⟩
set_option maxRecDepth 100000 in
set_option maxHeartbeats 8000000 in
theorem s_accepts (D : Pn) (n : Nat) (a : Option Addr) (cap : Nat) (W : List ByteArray) (m : Nat) (b : Option Addr) (cq : Nat) (w : World) (hD : D.n = n) (hz : pnTot D ≤ 1048576) (hr : PnAt w a D w.heap.size) (hW : W.length = m) (hm : m ≤ 1048576) (hq : TxAt w b W w.heap.size) :
    Calls Tryd.prog 28 #[.slice a n cap, .slice b m cq] w fun r w' => ∃ B : Bool, r = .returned (.bool B) ∧ (B = true ↔ AcP D W) ∧ Below w.heap.size w w' := by
  have HP := hide (s_particle D n a cap w hD hz hr)
  cases hpk : pkB D
  · rw [hpk] at HP
    have HE : Hid ((false = true) ↔ AcP D W) := hide ⟨fun h => (by cases h), fun h => (by rw [h.1] at hpk; cases hpk)⟩
    clear hD hz hr hpk hW hq
    go_enter Tryd.func28, Tryd.ntmps28
    go_wp2_with (first | (go_at_call 36; refine HP.out.mono ?_; rintro r w1 ⟨rfl, hb1⟩; have HB1 := hide hb1; clear hb1))
    go_ret
    exact ⟨false, rfl, HE.out, HB1.out⟩
  · by_cases h200 : 200 < m
    · rw [hpk] at HP
      have HE : Hid ((false = true) ↔ AcP D W) := hide ⟨fun h => (by cases h), fun h => (by have := h.2.1; rw [hW] at this; omega)⟩
      have h2i : (200 : Int) < (m : Int) := by omega
      clear hD hz hr hpk hW hq
      go_enter Tryd.func28, Tryd.ntmps28
      go_wp2_with (first | (go_at_call 36; refine HP.out.mono ?_; rintro r w1 ⟨rfl, hb1⟩; have HB1 := hide hb1; clear hb1))
      go_ret
      exact .inl ⟨rfl, fun h => (by cases HE.out.2 h), HB1.out⟩
    · have hRN := rn_of hD hpk hz
      have hn1 : 1 ≤ n ∧ n ≤ 40 := by rw [← hD]; exact (pk_facts hpk).1
      obtain ⟨b0, off, rfl, hb0, hrow⟩ := hr (by rw [hD]; omega)
      have CN := hide (fun (U : World) (hU : Below w.heap.size w U) => s_takes D n b0 off cap W m b cq U hRN hn1.1 hW (by omega) (Nat.lt_of_lt_of_le hb0 hU.size) (pnRow_up (pnRow_go hrow hb0 hU) hU.size) (tx_up (tx_go hq hU) hU.size))
      have HE : Hid (en D W (n - 1) 0 m ↔ AcP D W) := hide (by unfold AcP; rw [hD, hW]; exact ⟨fun h => ⟨hpk, by omega, h⟩, fun h => h.2.2⟩)
      have h2i : (m : Int) ≤ 200 := by omega
      rw [hpk] at HP
      clear hD hz hr hpk hrow hRN hW hq
      go_enter Tryd.func28, Tryd.ntmps28
      go_wp2_with (first
        | (go_at_call 36; refine HP.out.mono ?_; rintro r w1 ⟨rfl, hb1⟩; have HB1 := hide hb1; clear hb1)
        | (go_at_call 52; refine (CN.out _ HB1.out).mono ?_; rintro r w2 ⟨B, rfl, hB, hb2⟩; have HBB := hide hB; have HB2 := hide (HB1.out.trans (hb2.mono HB1.out.size)); clear hB hb2))
      go_ret
      exact ⟨B, rfl, HBB.out.trans HE.out, HB2.out⟩
end Go.Proofs.YteeglkkgkjmjpaaDoor
