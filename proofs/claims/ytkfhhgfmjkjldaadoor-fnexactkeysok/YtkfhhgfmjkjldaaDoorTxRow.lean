/-
  Contracts of the laws' helpers on rows of texts that come in: how much they hold, a copy in new memory, that two rows that are alike are told so.
-/
import Derived.Test.YtkfhhgfmjkjldaaDoorPnRow
namespace Go.Proofs.YtkfhhgfmjkjldaaDoor
open Go.RowKit Go.Joins
set_option linter.unusedVariables false
set_option linter.unusedSimpArgs false
theorem infoStr9 : (Tryd.prog.info? 9).map (fun i => (i.zero, i.size, i.bytes)) = some (some (.string ByteArray.empty), 1, 16) := by kernel_rfl
theorem drewN_below9 (w : World) (q : Nat) : Below w.heap.size w (w.drewN q) := ⟨rfl, rfl, rfl, Nat.le_refl _, fun _ _ => rfl⟩
/-- A row of texts lies somewhere. -/
def TxAt (w : World) (a : Option Addr) (L : List ByteArray) (B : Nat) : Prop := L ≠ [] → ∃ b off, a = some ⟨b, off, none⟩ ∧ b < B ∧ ∀ j, j < L.length → w.cell? ⟨b, off + j, none⟩ = some (.string (L[j]?.getD ⟨#[]⟩))
theorem tx_go {w w' : World} {a : Option Addr} {L : List ByteArray} {B : Nat} (h : TxAt w a L B) (hb : Below B w w') : TxAt w' a L B := fun h0 => by
  obtain ⟨b, off, e, hl, hc⟩ := h h0
  exact ⟨b, off, e, hl, fun j hj => (hb.cell (p := ⟨b, off + j, none⟩) hl).trans (hc j hj)⟩
theorem tx_up {w : World} {a : Option Addr} {L : List ByteArray} {B B' : Nat} (h : TxAt w a L B) (hB : B ≤ B') : TxAt w a L B' := fun h0 => by
  obtain ⟨b, off, e, hl, hc⟩ := h h0
  exact ⟨b, off, e, Nat.lt_of_lt_of_le hl hB, hc⟩
theorem tx_cell {w : World} {a : Option Addr} {L : List ByteArray} {B : Nat} (h : TxAt w a L B) (j : Nat) (hj : j < L.length) : ∃ b off, a = some ⟨b, off, none⟩ ∧ b < B ∧ ∀ j, j < L.length → w.cell? ⟨b, off + j, none⟩ = some (.string (L[j]?.getD ⟨#[]⟩)) := h (fun e => by rw [e] at hj; simp at hj)
theorem tx_own {w : World} {B n c : Nat} {ad : Option Addr} {t : TypeId} {xs : List ByteArray} (h : w.ownsRow B t 1 (.slice ad n c) n (xs.map Value.string)) : TxAt w ad xs w.heap.size := fun h0 => by
  have hl := h.1
  rcases h.2 with ⟨-, hz⟩ | ⟨g, cap, cur, hv, hB, hh, -, -, -, hx⟩
  · exact absurd (List.length_eq_zero_iff.1 (by rw [hz] at hl; simpa using hl)) h0
  · simp only [Value.slice.injEq] at hv
    obtain ⟨rfl, -, rfl⟩ := hv
    refine ⟨g, 0, rfl, (Array.getElem?_eq_some_iff.1 hh).1, fun j hj => ?_⟩
    have hn : xs.length = n := by simpa using hl
    have := h.cellAt j (by omega)
    rw [Nat.zero_add, this, List.getElem?_map, List.getElem?_eq_getElem hj]
    rfl
/-- How much a row of texts holds. -/
def txS (L : List ByteArray) (k : Nat) : Nat := sumN (fun j => (L[j]?.getD ⟨#[]⟩).size) k
def txTot (L : List ByteArray) : Nat := L.length + txS L L.length
def TxSz (L : List ByteArray) : Prop := L.length ≤ maxLen ∧ ∀ s ∈ L, s.size ≤ maxLen
set_option maxHeartbeats 2000000 in
theorem sz_strs (a : Option Addr) (n c : Nat) (L : List ByteArray) (left : Int) (w : World) (hL : L.length = n) (hz : TxSz L) (h0 : 0 ≤ left) (h1 : left ≤ 1048576) (hr : TxAt w a L w.heap.size) :
    Calls Tryd.prog 17 #[.slice a n c, .int .i64 left] w fun e w' => e = .returned (.int .i64 (dn left (txTot L))) ∧ w' = w := by
  have HL := hide hL
  have HR := hide hr
  have HZ := hide hz.2
  have hnm : n ≤ maxLen := by rw [← hL]; exact hz.1
  unfold maxLen at hnm
  by_cases hc : (n : Int) ≤ left
  · have h2 : (0 : Int) ≤ left - n := by omega
    clear hL hr hz
    go_enter Tryd.func17, Tryd.ntmps17
    go_wp2
    go_loopw [1, 5] (fun lv mv wr => ∃ (k : Nat), k ≤ n ∧ mv = .int .i64 k ∧ lv = .int .i64 (left - n - txS L k) ∧ 0 ≤ left - n - (txS L k : Int) ∧ Hid (wr = w)) (fun _ mv _ => n - (intOf mv).toNat)
    case atStart => exact ⟨0, Nat.zero_le _, rfl, by simp [txS, sumN], by simpa [txS, sumN] using h2, hide rfl⟩
    case round =>
      obtain ⟨k, hk, rfl, rfl, hpos, HW⟩ := hrel
      by_cases hlt : k < n
      · have hkL : k < L.length := by rw [HL.out]; exact hlt
        obtain ⟨b, off, rfl, hb, hcell⟩ := tx_cell HR.out k hkL
        have k0 : wr.cell? ⟨b, off + k, none⟩ = some (.string (L[k]?.getD ⟨#[]⟩)) := by rw [HW.out]; exact hcell k hkL
        have hsm := HZ.out (L[k]?.getD ⟨#[]⟩) (by rw [List.getElem?_eq_getElem hkL]; exact List.getElem_mem hkL)
        have HSN : Hid (txS L (k + 1) = txS L k + (L[k]?.getD ⟨#[]⟩).size) := hide rfl
        have HLE : Hid (txS L (k + 1) ≤ txS L n) := hide (sumN_le _ (by omega))
        obtain ⟨s, hs⟩ : ∃ s, L[k]?.getD ⟨#[]⟩ = s := ⟨_, rfl⟩
        rw [hs] at k0 hsm HSN
        unfold maxLen at hsm
        obtain ⟨t, ht⟩ : ∃ t, txS L k = t := ⟨_, rfl⟩
        rw [ht] at HSN hpos ⊢
        have hki : (k : Int) < (n : Int) := by omega
        have hk0 : (0 : Int) ≤ (k : Int) := by omega
        clear hcell hs ht hkL
        by_cases hneg : (0 : Int) ≤ left - n - t - s.size
        · have hw2 : IntKind.i64.wrap (left - n - t - s.size) = left - n - t - s.size := by rw [IntKind.wrap_i64]; omega
          go_wp2
          go_roundw
          case rel => exact ⟨k + 1, by omega, by go_num, by rw [HSN.out]; congr 1; push_cast; omega, by rw [HSN.out]; push_cast; omega, HW⟩
          case measure => simp [intOf]; omega
        · have HD : Hid (dn left (txTot L) = -1) := hide (dn_no (by
            unfold txTot
            have h8 := HLE.out
            rw [HSN.out] at h8
            rw [HL.out]
            push_cast
            omega))
          have hw2 : IntKind.i64.wrap (left - n - t - s.size) = left - n - t - s.size := by rw [IntKind.wrap_i64]; omega
          have hlt0 : left - n - t - s.size < 0 := by omega
          go_wp2
          go_ret
          exact ⟨ret_iI (by rw [HD.out]), HW.out⟩
      · have hkn : k = n := by omega
        subst hkn
        have HD : Hid (dn left (txTot L) = left - k - txS L k) := hide (by
          have e : txTot L = k + txS L k := by unfold txTot; rw [HL.out]
          rw [e, dn_yes (by push_cast; omega)]
          push_cast
          omega)
        go_wp2
        go_ret
        exact ⟨ret_iI HD.out.symm, HW.out⟩
  · have HD : Hid (dn left (txTot L) = -1) := hide (dn_no (by unfold txTot; rw [hL]; push_cast; omega))
    have hlt0 : left - n < 0 := by omega
    have hw2 : IntKind.i64.wrap (left - n) = left - n := by rw [IntKind.wrap_i64]; omega
    clear hL hr hz
    go_enter Tryd.func17, Tryd.ntmps17
    go_wp2
    go_ret
    exact ⟨ret_iI (by rw [HD.out]), rfl⟩
theorem set_stepT (xs : List ByteArray) (n k : Nat) (hn : xs.length = n) (hk : k < n) :
    ((xs.take k ++ List.replicate (n - k) ByteArray.empty).map Value.string).set k (.string (xs[k]?.getD ⟨#[]⟩)) = (xs.take (k + 1) ++ List.replicate (n - (k + 1)) ByteArray.empty).map Value.string := by
  apply List.ext_getElem
  · simp; omega
  · intro i h1 h2
    simp at h1 h2
    simp only [List.getElem_set, List.getElem_map, List.getElem_append, List.getElem_take, List.length_take, List.getElem_replicate]
    by_cases e : k = i
    · subst e
      simp [List.getElem?_eq_getElem (show k < xs.length by omega), show k < min (k + 1) xs.length by omega]
    · simp only [e, if_false]
      by_cases h : i < k
      · simp [show i < min k xs.length by omega, show i < min (k + 1) xs.length by omega]
      · simp [show ¬ i < min k xs.length by omega, show ¬ i < min (k + 1) xs.length by omega]

set_option maxHeartbeats 1000000 in
theorem to_strs (a : Option Addr) (n cap : Nat) (xs : List ByteArray) (w : World) (hx : xs.length = n) (hn : n ≤ 1048576) (hr : TxAt w a xs w.heap.size) :
    Calls Tryd.prog 21 #[.slice a n cap] w fun e w' => e = .returned (.slice (some ⟨w.heap.size, 0, none⟩) n n) ∧
      w'.ownsRow w.heap.size 9 1 (.slice (some ⟨w.heap.size, 0, none⟩) n n) n (xs.map Value.string) ∧ Below w.heap.size w w' := by
  obtain ⟨i0, hi, hz0, hz1, hz2⟩ := info_parts infoStr9
  obtain ⟨B, hB⟩ : ∃ B, B = w.heap.size := ⟨_, rfl⟩
  have HX : Hid (xs.length = n) := hx
  have HR : Hid (TxAt w a xs w.heap.size) := hr
  clear hx hr
  go_enter Tryd.func21, Tryd.ntmps21
  go_wp2_with (at_make; refine wpList_make_full _ rfl _ _ 30 rfl w.heap.size 9 i0 (.string ByteArray.empty) 1 Tryd.underlying30 hi hz0 hz1 .i64 .i64 _ _ n rfl rfl rfl rfl (by rw [hz2]; omega) (by unfold maxLen; omega) (Nat.le_refl _) ?_; intro w1 hown hgrow)
  have hown0 : w1.ownsRow w.heap.size 9 1 (.slice (some ⟨w.heap.size, 0, none⟩) n n) n ((xs.take 0 ++ List.replicate (n - 0) ByteArray.empty).map Value.string) := by
    have e : (madeCells (Value.string ByteArray.empty).cells (n * 1)).toList = (xs.take 0 ++ List.replicate (n - 0) ByteArray.empty).map Value.string := by
      rw [show (Value.string ByteArray.empty).cells = #[Value.string ByteArray.empty] from rfl, toList_madeCells_one]; simp
    rw [← e]; exact hown
  have hb1 : Below w.heap.size w w1 := (Below.refl _ _).grown hgrow (Nat.le_refl _) (fun k h => by cases h)
  clear hown hgrow
  go_loopw [4] (fun i wr => ∃ k : Nat, k ≤ n ∧ i = .int .i64 k ∧ wr.ownsRow w.heap.size 9 1 (.slice (some ⟨w.heap.size, 0, none⟩) n n) n ((xs.take k ++ List.replicate (n - k) ByteArray.empty).map Value.string) ∧ Below w.heap.size w wr) (fun i _ => n - (intOf i).toNat)
  case atStart => exact ⟨0, Nat.zero_le _, rfl, hown0, hb1⟩
  case round =>
    obtain ⟨k, hk, rfl, hown, hb⟩ := hrel
    clear hown0 hb1
    by_cases hlt : k < n
    · obtain ⟨b, off, rfl, hbs, hc⟩ := HR.out (fun e => by have := HX.out; rw [e] at this; simp at this; omega)
      have hc1 : wr.cell? ⟨b, off + k, none⟩ = some (.string (xs[k]?.getD ⟨#[]⟩)) := (hb.cell hbs).trans (hc k (by rw [HX.out]; exact hlt))
      have hst := hown.stored k (.string (xs[k]?.getD ⟨#[]⟩))
      have hfr := hown.frozenAt k
      have hcc : ∃ v, wr.cell? ⟨w.heap.size, k, none⟩ = some v := by
        rw [hown.cellAt k (by omega)]
        have hl : k < ((xs.take k ++ List.replicate (n - k) ByteArray.empty).map Value.string).length := by have := HX.out; simp; omega
        exact ⟨_, List.getElem?_eq_getElem hl⟩
      obtain ⟨v0, hcv⟩ := hcc
      have HST := hide hst
      have HB := hide hb
      clear hst hown hc hb hB
      go_wp2
      go_roundw
      case rel =>
        refine ⟨k + 1, by omega, by go_num, ?_, HB.out.setCell (Nat.le_refl _) _⟩
        rw [← set_stepT xs n k HX.out hlt]
        exact HST.out.1
      case measure => simp [intOf]; omega
    · have hkn : k = n := by omega
      subst hkn
      have hfull : xs.take k ++ List.replicate (k - k) ByteArray.empty = xs := by have := HX.out; subst this; simp
      rw [hfull] at hown
      go_wp2
      go_ret
      exact ⟨rfl, hown, hb⟩
set_option maxHeartbeats 2000000 in
theorem eq_strs (a1 a2 : Option Addr) (n c1 c2 : Nat) (L : List ByteArray) (w : World) (hL : L.length = n) (hn : n ≤ 1048576) (h1 : TxAt w a1 L w.heap.size) (h2 : TxAt w a2 L w.heap.size) :
    Calls Tryd.prog 25 #[.slice a1 n c1, .slice a2 n c2] w fun e w' => e = .returned (.bool true) ∧ Below w.heap.size w w' := by
  have HL := hide hL
  have H1 := hide h1
  have H2 := hide h2
  clear hL h1 h2
  go_enter Tryd.func25, Tryd.ntmps25
  go_wp2
  go_loopw [5] (fun i wr => ∃ k : Nat, k ≤ n ∧ i = .int .i64 k ∧ Below w.heap.size w wr) (fun i _ => n - (intOf i).toNat)
  case atStart => exact ⟨0, Nat.zero_le _, rfl, Below.refl _ _⟩
  case round =>
    obtain ⟨k, hk, rfl, hb⟩ := hrel
    by_cases hlt : k < n
    · have hlt2 : k < L.length := by rw [HL.out]; exact hlt
      have hne : L ≠ [] := fun h => by rw [h] at hlt2; exact absurd hlt2 (Nat.not_lt_zero _)
      obtain ⟨b, off, rfl, hbs, hc⟩ := H1.out hne
      obtain ⟨b', off', rfl, hbs', hc'⟩ := H2.out hne
      have k1 := (hb.cell (p := ⟨b, off + k, none⟩) hbs).trans (hc k hlt2)
      have k2 := (hb.cell (p := ⟨b', off' + k, none⟩) hbs').trans (hc' k hlt2)
      have hi : (k : Int) < (n : Int) := by omega
      have hi0 : (0 : Int) ≤ (k : Int) := by omega
      have HB := hide hb
      obtain ⟨T, hT⟩ : ∃ T, L[k]?.getD ⟨#[]⟩ = T := ⟨_, rfl⟩
      rw [hT] at k1 k2
      clear hc hc' hb hT hne
      go_wp2
      go_quiet (fail)
      go_wp2
      go_roundw
      case rel => exact ⟨k + 1, by omega, by go_num, HB.out.trans ((drewN_below9 _ _).mono HB.out.size)⟩
      case measure => simp [intOf]; omega
    · go_wp2
      go_ret
      exact ⟨rfl, hb⟩
end Go.Proofs.YtkfhhgfmjkjldaaDoor
