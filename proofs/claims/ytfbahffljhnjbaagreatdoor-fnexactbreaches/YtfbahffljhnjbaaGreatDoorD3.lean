/-
  Texts put together: TxRow, KyRow.
-/
import Derived.Test.YtfbahffljhnjbaaGreatDoorD2
/-
  Contracts of the laws' helpers on rows of texts that come in: how much they hold, a copy in new memory, that two rows that are alike are told so.
-/
namespace Go.Proofs.YtfbahffljhnjbaaGreatDoor
open Go.RowKit Go.Joins
set_option linter.unusedVariables false
set_option linter.unusedSimpArgs false
theorem infoStrT : (Tryz.prog.info? 9).map (fun i => (i.zero, i.size, i.bytes)) = some (some (.string ByteArray.empty), 1, 16) := by kernel_rfl
theorem drewN_below9 (w : World) (q : Nat) : Below w.heap.size w (w.drewN q) := ⟨rfl, rfl, rfl, Nat.le_refl _, fun _ _ => rfl⟩
/-- A row of texts lies somewhere. -/
def TxAt (w : World) (a : Option Addr) (L : List ByteArray) (B : Nat) : Prop := L ≠ [] → ∃ b off, a = some ⟨b, off, none⟩ ∧ b < B ∧ ∀ j, j < L.length → w.cell? ⟨b, off + j, none⟩ = some (.string (L[j]?.getD ⟨#[]⟩))
theorem tx_go {w w' : World} {a : Option Addr} {L : List ByteArray} {B : Nat} (h : TxAt w a L B) (hb : Below B w w') : TxAt w' a L B := fun h0 => by
  obtain ⟨b, off, e, hl, hc⟩ := h h0
  exact ⟨b, off, e, hl, fun j hj => (hb.cell (p := ⟨b, off + j, none⟩) hl).trans (hc j hj)⟩
theorem tx_up {w : World} {a : Option Addr} {L : List ByteArray} {B B' : Nat} (h : TxAt w a L B) (hB : B ≤ B') : TxAt w a L B' := fun h0 => by
  obtain ⟨b, off, e, hl, hc⟩ := h h0
  exact ⟨b, off, e, Nat.lt_of_lt_of_le hl hB, hc⟩
theorem tx_cell {w : World} {a : Option Addr} {L : List ByteArray} {B : Nat} (h : TxAt w a L B) (j : Nat) (hj : j < L.length) : ∃ b off, a = some ⟨b, off, none⟩ ∧ b < B ∧ ∀ j, j < L.length → w.cell? ⟨b, off + j, none⟩ = some (.string (L[j]?.getD ⟨#[]⟩)) := h (fun e => by rw [e] at hj; simp at hj)
theorem tx_own {w : World} {B n c : Nat} {ad : Option Addr} {t : TypeId} {xs : List ByteArray} (h : w.ownsRow B t 1 (.slice ad n c) n (xs.map Value.string)) : TxAt w ad xs w.heap.size := fun h0 => by
  have hl := h.1
  rcases h.2 with ⟨-, hz⟩ | ⟨g, cap, cur, hv, hB, hh, -, -, -, hx⟩
  · exact absurd (List.length_eq_zero_iff.1 (by rw [hz] at hl; simpa using hl)) h0
  · simp only [Value.slice.injEq] at hv
    obtain ⟨rfl, -, rfl⟩ := hv
    refine ⟨g, 0, rfl, (Array.getElem?_eq_some_iff.1 hh).1, fun j hj => ?_⟩
    have hn : xs.length = n := by simpa using hl
    have := h.cellAt j (by omega)
    rw [Nat.zero_add, this, List.getElem?_map, List.getElem?_eq_getElem hj]
    rfl
/-- How much a row of texts holds. -/
def txS (L : List ByteArray) (k : Nat) : Nat := sumN (fun j => (L[j]?.getD ⟨#[]⟩).size) k
def txTot (L : List ByteArray) : Nat := L.length + txS L L.length
def TxSz (L : List ByteArray) : Prop := L.length ≤ maxLen ∧ ∀ s ∈ L, s.size ≤ maxLen
set_option maxHeartbeats 2000000 in
theorem sz_strs (a : Option Addr) (n c : Nat) (L : List ByteArray) (left : Int) (w : World) (hL : L.length = n) (hz : TxSz L) (h0 : 0 ≤ left) (h1 : left ≤ 1048576) (hr : TxAt w a L w.heap.size) :
    Calls Tryz.prog 40 #[.slice a n c, .int .i64 left] w fun e w' => e = .returned (.int .i64 (dn left (txTot L))) ∧ w' = w := by
  have HL := hide hL
  have HR := hide hr
  have HZ := hide hz.2
  have hnm : n ≤ maxLen := by rw [← hL]; exact hz.1
  unfold maxLen at hnm
  by_cases hc : (n : Int) ≤ left
  · have h2 : (0 : Int) ≤ left - n := by omega
    clear hL hr hz
    go_enter Tryz.func40, Tryz.ntmps40
    go_wp2
    go_loopw [1, 5] (fun lv mv wr => ∃ (k : Nat), k ≤ n ∧ mv = .int .i64 k ∧ lv = .int .i64 (left - n - txS L k) ∧ 0 ≤ left - n - (txS L k : Int) ∧ Hid (wr = w)) (fun _ mv _ => n - (intOf mv).toNat)
    case atStart => exact ⟨0, Nat.zero_le _, rfl, by simp [txS, sumN], by simpa [txS, sumN] using h2, hide rfl⟩
    case round =>
      obtain ⟨k, hk, rfl, rfl, hpos, HW⟩ := hrel
      by_cases hlt : k < n
      · have hkL : k < L.length := by rw [HL.out]; exact hlt
        obtain ⟨b, off, rfl, hb, hcell⟩ := tx_cell HR.out k hkL
        have k0 : wr.cell? ⟨b, off + k, none⟩ = some (.string (L[k]?.getD ⟨#[]⟩)) := by rw [HW.out]; exact hcell k hkL
        have hsm := HZ.out (L[k]?.getD ⟨#[]⟩) (by rw [List.getElem?_eq_getElem hkL]; exact List.getElem_mem hkL)
        have HSN : Hid (txS L (k + 1) = txS L k + (L[k]?.getD ⟨#[]⟩).size) := hide rfl
        have HLE : Hid (txS L (k + 1) ≤ txS L n) := hide (sumN_le _ (by omega))
        obtain ⟨s, hs⟩ : ∃ s, L[k]?.getD ⟨#[]⟩ = s := ⟨_, rfl⟩
        rw [hs] at k0 hsm HSN
        unfold maxLen at hsm
        obtain ⟨t, ht⟩ : ∃ t, txS L k = t := ⟨_, rfl⟩
        rw [ht] at HSN hpos ⊢
        have hki : (k : Int) < (n : Int) := by omega
        have hk0 : (0 : Int) ≤ (k : Int) := by omega
        clear hcell hs ht hkL
        by_cases hneg : (0 : Int) ≤ left - n - t - s.size
        · have hw2 : IntKind.i64.wrap (left - n - t - s.size) = left - n - t - s.size := by rw [IntKind.wrap_i64]; omega
          go_wp2
          go_roundw
          case rel => exact ⟨k + 1, by omega, by go_num, by rw [HSN.out]; congr 1; push_cast; omega, by rw [HSN.out]; push_cast; omega, HW⟩
          case measure => simp [intOf]; omega
        · have HD : Hid (dn left (txTot L) = -1) := hide (dn_no (by
            unfold txTot
            have h8 := HLE.out
            rw [HSN.out] at h8
            rw [HL.out]
            push_cast
            omega))
          have hw2 : IntKind.i64.wrap (left - n - t - s.size) = left - n - t - s.size := by rw [IntKind.wrap_i64]; omega
          have hlt0 : left - n - t - s.size < 0 := by omega
          go_wp2
          go_ret
          exact ⟨ret_iI (by rw [HD.out]), HW.out⟩
      · have hkn : k = n := by omega
        subst hkn
        have HD : Hid (dn left (txTot L) = left - k - txS L k) := hide (by
          have e : txTot L = k + txS L k := by unfold txTot; rw [HL.out]
          rw [e, dn_yes (by push_cast; omega)]
          push_cast
          omega)
        go_wp2
        go_ret
        exact ⟨ret_iI HD.out.symm, HW.out⟩
  · have HD : Hid (dn left (txTot L) = -1) := hide (dn_no (by unfold txTot; rw [hL]; push_cast; omega))
    have hlt0 : left - n < 0 := by omega
    have hw2 : IntKind.i64.wrap (left - n) = left - n := by rw [IntKind.wrap_i64]; omega
    clear hL hr hz
    go_enter Tryz.func40, Tryz.ntmps40
    go_wp2
    go_ret
    exact ⟨ret_iI (by rw [HD.out]), rfl⟩
theorem set_stepT (xs : List ByteArray) (n k : Nat) (hn : xs.length = n) (hk : k < n) :
    ((xs.take k ++ List.replicate (n - k) ByteArray.empty).map Value.string).set k (.string (xs[k]?.getD ⟨#[]⟩)) = (xs.take (k + 1) ++ List.replicate (n - (k + 1)) ByteArray.empty).map Value.string := by
  apply List.ext_getElem
  · simp; omega
  · intro i h1 h2
    simp at h1 h2
    simp only [List.getElem_set, List.getElem_map, List.getElem_append, List.getElem_take, List.length_take, List.getElem_replicate]
    by_cases e : k = i
    · subst e
      simp [List.getElem?_eq_getElem (show k < xs.length by omega), show k < min (k + 1) xs.length by omega]
    · simp only [e, if_false]
      by_cases h : i < k
      · simp [show i < min k xs.length by omega, show i < min (k + 1) xs.length by omega]
      · simp [show ¬ i < min k xs.length by omega, show ¬ i < min (k + 1) xs.length by omega]

set_option maxHeartbeats 1000000 in
theorem to_strs (a : Option Addr) (n cap : Nat) (xs : List ByteArray) (w : World) (hx : xs.length = n) (hn : n ≤ 1048576) (hr : TxAt w a xs w.heap.size) :
    Calls Tryz.prog 43 #[.slice a n cap] w fun e w' => e = .returned (.slice (some ⟨w.heap.size, 0, none⟩) n n) ∧
      w'.ownsRow w.heap.size 9 1 (.slice (some ⟨w.heap.size, 0, none⟩) n n) n (xs.map Value.string) ∧ Below w.heap.size w w' := by
  obtain ⟨i0, hi, hz0, hz1, hz2⟩ := info_parts infoStrT
  obtain ⟨B, hB⟩ : ∃ B, B = w.heap.size := ⟨_, rfl⟩
  have HX : Hid (xs.length = n) := hx
  have HR : Hid (TxAt w a xs w.heap.size) := hr
  clear hx hr
  go_enter Tryz.func43, Tryz.ntmps43
  go_wp2_with (at_make; refine wpList_make_full _ rfl _ _ 30 rfl w.heap.size 9 i0 (.string ByteArray.empty) 1 Tryz.underlying30 hi hz0 hz1 .i64 .i64 _ _ n rfl rfl rfl rfl (by rw [hz2]; omega) (by unfold maxLen; omega) (Nat.le_refl _) ?_; intro w1 hown hgrow)
  have hown0 : w1.ownsRow w.heap.size 9 1 (.slice (some ⟨w.heap.size, 0, none⟩) n n) n ((xs.take 0 ++ List.replicate (n - 0) ByteArray.empty).map Value.string) := by
    have e : (madeCells (Value.string ByteArray.empty).cells (n * 1)).toList = (xs.take 0 ++ List.replicate (n - 0) ByteArray.empty).map Value.string := by
      rw [show (Value.string ByteArray.empty).cells = #[Value.string ByteArray.empty] from rfl, toList_madeCells_one]; simp
    rw [← e]; exact hown
  have hb1 : Below w.heap.size w w1 := (Below.refl _ _).grown hgrow (Nat.le_refl _) (fun k h => by cases h)
  clear hown hgrow
  go_loopw [4] (fun i wr => ∃ k : Nat, k ≤ n ∧ i = .int .i64 k ∧ wr.ownsRow w.heap.size 9 1 (.slice (some ⟨w.heap.size, 0, none⟩) n n) n ((xs.take k ++ List.replicate (n - k) ByteArray.empty).map Value.string) ∧ Below w.heap.size w wr) (fun i _ => n - (intOf i).toNat)
  case atStart => exact ⟨0, Nat.zero_le _, rfl, hown0, hb1⟩
  case round =>
    obtain ⟨k, hk, rfl, hown, hb⟩ := hrel
    clear hown0 hb1
    by_cases hlt : k < n
    · obtain ⟨b, off, rfl, hbs, hc⟩ := HR.out (fun e => by have := HX.out; rw [e] at this; simp at this; omega)
      have hc1 : wr.cell? ⟨b, off + k, none⟩ = some (.string (xs[k]?.getD ⟨#[]⟩)) := (hb.cell hbs).trans (hc k (by rw [HX.out]; exact hlt))
      have hst := hown.stored k (.string (xs[k]?.getD ⟨#[]⟩))
      have hfr := hown.frozenAt k
      have hcc : ∃ v, wr.cell? ⟨w.heap.size, k, none⟩ = some v := by
        rw [hown.cellAt k (by omega)]
        have hl : k < ((xs.take k ++ List.replicate (n - k) ByteArray.empty).map Value.string).length := by have := HX.out; simp; omega
        exact ⟨_, List.getElem?_eq_getElem hl⟩
      obtain ⟨v0, hcv⟩ := hcc
      have HST := hide hst
      have HB := hide hb
      clear hst hown hc hb hB
      go_wp2
      go_roundw
      case rel =>
        refine ⟨k + 1, by omega, by go_num, ?_, HB.out.setCell (Nat.le_refl _) _⟩
        rw [← set_stepT xs n k HX.out hlt]
        exact HST.out.1
      case measure => simp [intOf]; omega
    · have hkn : k = n := by omega
      subst hkn
      have hfull : xs.take k ++ List.replicate (k - k) ByteArray.empty = xs := by have := HX.out; subst this; simp
      rw [hfull] at hown
      go_wp2
      go_ret
      exact ⟨rfl, hown, hb⟩
set_option maxHeartbeats 2000000 in
theorem eq_strs (a1 a2 : Option Addr) (n c1 c2 : Nat) (L : List ByteArray) (w : World) (hL : L.length = n) (hn : n ≤ 1048576) (h1 : TxAt w a1 L w.heap.size) (h2 : TxAt w a2 L w.heap.size) :
    Calls Tryz.prog 46 #[.slice a1 n c1, .slice a2 n c2] w fun e w' => e = .returned (.bool true) ∧ Below w.heap.size w w' := by
  have HL := hide hL
  have H1 := hide h1
  have H2 := hide h2
  clear hL h1 h2
  go_enter Tryz.func46, Tryz.ntmps46
  go_wp2
  go_loopw [5] (fun i wr => ∃ k : Nat, k ≤ n ∧ i = .int .i64 k ∧ Below w.heap.size w wr) (fun i _ => n - (intOf i).toNat)
  case atStart => exact ⟨0, Nat.zero_le _, rfl, Below.refl _ _⟩
  case round =>
    obtain ⟨k, hk, rfl, hb⟩ := hrel
    by_cases hlt : k < n
    · have hlt2 : k < L.length := by rw [HL.out]; exact hlt
      have hne : L ≠ [] := fun h => by rw [h] at hlt2; exact absurd hlt2 (Nat.not_lt_zero _)
      obtain ⟨b, off, rfl, hbs, hc⟩ := H1.out hne
      obtain ⟨b', off', rfl, hbs', hc'⟩ := H2.out hne
      have k1 := (hb.cell (p := ⟨b, off + k, none⟩) hbs).trans (hc k hlt2)
      have k2 := (hb.cell (p := ⟨b', off' + k, none⟩) hbs').trans (hc' k hlt2)
      have hi : (k : Int) < (n : Int) := by omega
      have hi0 : (0 : Int) ≤ (k : Int) := by omega
      have HB := hide hb
      obtain ⟨T, hT⟩ : ∃ T, L[k]?.getD ⟨#[]⟩ = T := ⟨_, rfl⟩
      rw [hT] at k1 k2
      clear hc hc' hb hT hne
      go_wp2
      go_quiet (fail)
      go_wp2
      go_roundw
      case rel => exact ⟨k + 1, by omega, by go_num, HB.out.trans ((drewN_below9 _ _).mono HB.out.size)⟩
      case measure => simp [intOf]; omega
    · go_wp2
      go_ret
      exact ⟨rfl, hb⟩
end Go.Proofs.YtfbahffljhnjbaaGreatDoor

/-
  Contracts of the laws' helpers on rows of keys: how much they hold.
-/
namespace Go.Proofs.YtfbahffljhnjbaaGreatDoor
open Go.RowKit Go.Joins
set_option linter.unusedVariables false
set_option linter.unusedSimpArgs false
/-- A key. -/
structure Ky where
  nm : ByteArray
  kd : Int
  on : ByteArray
  pa : ByteArray
  fl : List ByteArray
  re : ByteArray
/-- No key. -/
def ky0 : Ky := ⟨⟨#[]⟩, 0, ⟨#[]⟩, ⟨#[]⟩, [], ⟨#[]⟩⟩
/-- The key at a place. -/
def kyA (L : List Ky) (j : Nat) : Ky := L[j]?.getD ky0
def KyC (w : World) (b o : Nat) (x : Ky) (ad : Option Addr) (cp : Nat) : Prop := w.cell? ⟨b, o, none⟩ = some (.string x.nm) ∧ w.cell? ⟨b, o + 1, none⟩ = some (.int .i64 x.kd) ∧ w.cell? ⟨b, o + 2, none⟩ = some (.string x.on) ∧ w.cell? ⟨b, o + 3, none⟩ = some (.string x.pa) ∧ w.cell? ⟨b, o + 4, none⟩ = some (.slice ad x.fl.length cp) ∧ w.cell? ⟨b, o + 5, none⟩ = some (.string x.re)
def KyAt (w : World) (a : Option Addr) (L : List Ky) (B : Nat) : Prop := L ≠ [] → ∃ b off, a = some ⟨b, off, none⟩ ∧ b < B ∧ ∀ j, j < L.length → ∃ ad cp, KyC w b (off + j * 6) (kyA L j) ad cp ∧ TxAt w ad (kyA L j).fl B ∧ (kyA L j).fl.length ≤ cp
theorem kyC_go {w w' : World} {b o B : Nat} {x : Ky} {ad : Option Addr} {cp : Nat} (h : KyC w b o x ad cp) (hb : b < B) (k : Below B w w') : KyC w' b o x ad cp := by
  obtain ⟨h0, h1, h2, h3, h4, h5⟩ := h
  exact ⟨(k.cell (p := ⟨b, o, none⟩) hb).trans h0, (k.cell (p := ⟨b, o + 1, none⟩) hb).trans h1, (k.cell (p := ⟨b, o + 2, none⟩) hb).trans h2, (k.cell (p := ⟨b, o + 3, none⟩) hb).trans h3, (k.cell (p := ⟨b, o + 4, none⟩) hb).trans h4, (k.cell (p := ⟨b, o + 5, none⟩) hb).trans h5⟩
theorem kyAt_go {w w' : World} {a : Option Addr} {L : List Ky} {B : Nat} (h : KyAt w a L B) (k : Below B w w') : KyAt w' a L B := fun h0 => by
  obtain ⟨b, off, e, hb, hr⟩ := h h0
  refine ⟨b, off, e, hb, fun j hj => ?_⟩
  obtain ⟨ad, cp, h1, h2, h3⟩ := hr j hj
  exact ⟨ad, cp, kyC_go h1 hb k, tx_go h2 k, h3⟩
theorem kyAt_up {w : World} {a : Option Addr} {L : List Ky} {B B' : Nat} (h : KyAt w a L B) (k : B ≤ B') : KyAt w a L B' := fun h0 => by
  obtain ⟨b, off, e, hb, hr⟩ := h h0
  refine ⟨b, off, e, Nat.lt_of_lt_of_le hb k, fun j hj => ?_⟩
  obtain ⟨ad, cp, h1, h2, h3⟩ := hr j hj
  exact ⟨ad, cp, h1, tx_up h2 k, h3⟩
/-- The sizes that a key in memory can have. -/
def KyZ (x : Ky) : Prop := x.nm.size ≤ maxLen ∧ x.on.size ≤ maxLen ∧ x.pa.size ≤ maxLen ∧ TxSz x.fl ∧ x.re.size ≤ maxLen
def KySz (L : List Ky) : Prop := L.length ≤ maxLen ∧ ∀ j, j < L.length → KyZ (kyA L j)
def kyS (x : Ky) : Nat := x.nm.size + x.on.size + x.pa.size + txTot x.fl + x.re.size
def kyTot (L : List Ky) : Nat := L.length + sumN (fun j => kyS (kyA L j)) L.length
theorem ky_sz {L : List Ky} (h : kyTot L ≤ 1048576) : L.length ≤ 1048576 ∧ ∀ j, j < L.length → kyS (kyA L j) ≤ 1048576 := by
  unfold kyTot at h
  refine ⟨by omega, fun j hj => ?_⟩
  have h1 := sumN_at (fun j => kyS (kyA L j)) hj
  have h2 : (fun j => kyS (kyA L j)) j = kyS (kyA L j) := rfl
  omega
set_option maxHeartbeats 4000000 in
theorem l_szK (x : Ky) (ad : Option Addr) (cp : Nat) (left : Int) (w : World) (hx : KyZ x) (hr : TxAt w ad x.fl w.heap.size) (h0 : 0 ≤ left) (h1 : left ≤ 1048576) :
    Calls Tryz.prog 11 #[.agg #[.string x.nm, .int .i64 x.kd, .string x.on, .string x.pa, .slice ad x.fl.length cp, .string x.re], .int .i64 left] w fun e w' => e = .returned (.int .i64 (dn left (kyS x))) ∧ Below w.heap.size w w' := by
  obtain ⟨nm, kd, on, pa, fl, re⟩ := x
  obtain ⟨z0, z1, z2, z3, z4⟩ := hx
  obtain ⟨n, hn⟩ : ∃ n, fl.length = n := ⟨_, rfl⟩
  have HN := hide hn
  obtain ⟨T, hT⟩ : ∃ T, txTot fl = T := ⟨_, rfl⟩
  have HT := hide hT
  have HZ := hide z3
  have HR := hide hr
  have HS : Hid (kyS ⟨nm, kd, on, pa, fl, re⟩ = nm.size + on.size + pa.size + T + re.size) := hide (by unfold kyS; rw [hT])
  simp only at z0 z1 z2 z4
  unfold maxLen at z0 z1 z2 z4
  clear z3 hr hT
  simp only
  rw [hn]
  clear hn
  have CT : Hid (∀ (l : Int) (w1 : World), 0 ≤ l → l ≤ 1048576 → Below w.heap.size w w1 → Calls Tryz.prog 40 #[.slice ad n cp, .int .i64 l] w1 fun e w' => e = .returned (.int .i64 (dn l T)) ∧ w' = w1) := hide (fun l w1 a1 a2 hb => by
    have := sz_strs ad n cp fl l w1 HN.out HZ.out a1 a2 (tx_up (tx_go HR.out hb) hb.size)
    rw [HT.out] at this
    exact this)
  by_cases p0 : (nm.size : Int) ≤ left
  · by_cases p1 : (on.size : Int) ≤ left - nm.size
    · by_cases p2 : (pa.size : Int) ≤ left - nm.size - on.size
      · by_cases p3 : (T : Int) ≤ left - nm.size - on.size - pa.size
        · by_cases p4 : (re.size : Int) ≤ left - nm.size - on.size - pa.size - T
          · have hd := hide (dn_yes (left := left) (x := nm.size + on.size + pa.size + T + re.size) (by omega))
            have r3 : (0 : Int) ≤ left - nm.size - on.size - pa.size - T := by omega
            go_enter Tryz.func11, Tryz.ntmps11
            go_wp2_with (go_at_call 40; refine (CT.out _ _ (by omega) (by omega) ((Below.refl _ _).alloc (Nat.le_refl _) _)).mono ?_; rintro e w2 ⟨rfl, h9⟩; rw [h9, dn_yes p3]; clear h9)
            go_ret
            exact ⟨ret_iI (by rw [HS.out, hd.out]; omega), (Below.refl _ _).alloc (Nat.le_refl _) _⟩
          · have hd := hide (dn_no (left := left) (x := nm.size + on.size + pa.size + T + re.size) (by omega))
            have r3 : (0 : Int) ≤ left - nm.size - on.size - pa.size - T := by omega
            go_enter Tryz.func11, Tryz.ntmps11
            go_wp2_with (go_at_call 40; refine (CT.out _ _ (by omega) (by omega) ((Below.refl _ _).alloc (Nat.le_refl _) _)).mono ?_; rintro e w2 ⟨rfl, h9⟩; rw [h9, dn_yes p3]; clear h9)
            go_ret
            exact ⟨ret_iI (by rw [HS.out, hd.out]), (Below.refl _ _).alloc (Nat.le_refl _) _⟩
        · have hd := hide (dn_no (left := left) (x := nm.size + on.size + pa.size + T + re.size) (by omega))
          go_enter Tryz.func11, Tryz.ntmps11
          go_wp2_with (go_at_call 40; refine (CT.out _ _ (by omega) (by omega) ((Below.refl _ _).alloc (Nat.le_refl _) _)).mono ?_; rintro e w2 ⟨rfl, h9⟩; rw [h9, dn_no p3]; clear h9)
          go_ret
          exact ⟨ret_iI (by rw [HS.out, hd.out]), (Below.refl _ _).alloc (Nat.le_refl _) _⟩
      · have hd := hide (dn_no (left := left) (x := nm.size + on.size + pa.size + T + re.size) (by omega))
        go_enter Tryz.func11, Tryz.ntmps11
        go_wp2
        go_ret
        exact ⟨ret_iI (by rw [HS.out, hd.out]), (Below.refl _ _).alloc (Nat.le_refl _) _⟩
    · have hd := hide (dn_no (left := left) (x := nm.size + on.size + pa.size + T + re.size) (by omega))
      go_enter Tryz.func11, Tryz.ntmps11
      go_wp2
      go_ret
      exact ⟨ret_iI (by rw [HS.out, hd.out]), (Below.refl _ _).alloc (Nat.le_refl _) _⟩
  · have hd := hide (dn_no (left := left) (x := nm.size + on.size + pa.size + T + re.size) (by omega))
    go_enter Tryz.func11, Tryz.ntmps11
    go_wp2
    go_ret
    exact ⟨ret_iI (by rw [HS.out, hd.out]), (Below.refl _ _).alloc (Nat.le_refl _) _⟩
set_option maxHeartbeats 4000000 in
theorem l_szKs (L : List Ky) (n : Nat) (a : Option Addr) (c : Nat) (w : World) (hD : L.length = n) (hz : KySz L) (hr : KyAt w a L w.heap.size) :
    Calls Tryz.prog 21 #[.slice a n c, .int .i64 1048576] w fun e w' => e = .returned (.int .i64 (dn 1048576 (kyTot L))) ∧ Below w.heap.size w w' := by
  have HD := hide hD
  have HZ := hide hz
  have HR := hide hr
  have hn : n ≤ maxLen := by rw [← hD]; exact hz.1
  unfold maxLen at hn
  clear hr hz hD
  by_cases hb0 : (1048576 : Int) < (n : Int)
  · have hd := hide (dn_no (left := 1048576) (x := kyTot L) (by unfold kyTot; rw [HD.out]; omega))
    go_enter Tryz.func21, Tryz.ntmps21
    go_wp2
    go_ret
    exact ⟨ret_iI (by rw [hd.out]), Below.refl _ _⟩
  · obtain ⟨f, hf⟩ : ∃ f, (fun j => kyS (kyA L j)) = f := ⟨_, rfl⟩
    have HF : Hid (kyTot L = n + sumN f n) := hide (by unfold kyTot; rw [HD.out, hf])
    have HFA : Hid (∀ k, kyS (kyA L k) = f k) := hide (fun k => by rw [← hf])
    clear hf
    go_enter Tryz.func21, Tryz.ntmps21
    go_wp2
    go_loopw [1, 5] (fun l i wr => ∃ k : Nat, k ≤ n ∧ i = .int .i64 k ∧ l = .int .i64 (1048576 - (n : Int) - (sumN f k : Int)) ∧ (n : Int) + (sumN f k : Int) ≤ 1048576 ∧ Below w.heap.size w wr) (fun _ i _ => n - (intOf i).toNat)
    case atStart => exact ⟨0, Nat.zero_le _, rfl, by simp [sumN], by show (n : Int) + ((0 : Nat) : Int) ≤ _; omega, Below.refl _ _⟩
    case round =>
      obtain ⟨k, hk, rfl, rfl, hle, hb⟩ := hrel
      by_cases hlt : k < n
      · obtain ⟨b, off, rfl, hbs, hrow⟩ := HR.out (fun e => by have := HD.out; rw [e] at this; simp at this; omega)
        obtain ⟨ad, cp, hc, hat, -⟩ := hrow k (by rw [HD.out]; omega)
        have hzk := HZ.out.2 k (by rw [HD.out]; omega)
        have hfk := HFA.out k
        obtain ⟨x, hx⟩ : ∃ x, kyA L k = x := ⟨_, rfl⟩
        rw [hx] at hc hat hzk hfk
        obtain ⟨c0, c1, c2, c3, c4, c5⟩ := kyC_go hc hbs hb
        have HB := hide hb
        have CK := hide (fun l h0 h1 => l_szK x ad cp l wr hzk (tx_up (tx_go hat hb) hb.size) h0 h1)
        rw [hfk] at CK
        obtain ⟨q, hq⟩ : ∃ q, sumN f k = q := ⟨_, rfl⟩
        obtain ⟨T, hT⟩ : ∃ T, f k = T := ⟨_, rfl⟩
        have hq1 : sumN f (k + 1) = q + T := by rw [← hq, ← hT]; rfl
        have HQ1 := hide hq1
        rw [hT] at CK
        rw [hq] at hle ⊢
        have HLE := hide (sumN_le f (a := k + 1) (b := n) (by omega))
        clear hq hq1 hb hc hrow hat hzk hfk hT hx
        by_cases hbig : (T : Int) ≤ 1048576 - (n : Int) - (q : Int)
        · have hbig2 : (0 : Int) ≤ 1048576 - (n : Int) - (q : Int) - (T : Int) := by omega
          go_wp2_with (go_at_call 11; refine (CK.out _ (by omega) (by omega)).mono ?_; rintro e w2 ⟨rfl, hb2⟩; rw [dn_yes hbig]; have HB2 := hide (HB.out.trans (hb2.mono HB.out.size)); clear hb2)
          go_roundw
          case rel => exact ⟨k + 1, by omega, by go_num, by rw [HQ1.out]; go_num, by rw [HQ1.out]; omega, HB2.out⟩
          case measure => simp [intOf]; omega
        · have hd := hide (dn_no (left := 1048576) (x := kyTot L) (by have := HLE.out; rw [HQ1.out] at this; rw [HF.out]; omega))
          go_wp2_with (go_at_call 11; refine (CK.out _ (by omega) (by omega)).mono ?_; rintro e w2 ⟨rfl, hb2⟩; rw [dn_no hbig]; have HB2 := hide (HB.out.trans (hb2.mono HB.out.size)); clear hb2)
          go_ret
          exact ⟨ret_iI (by rw [hd.out]), HB2.out⟩
      · have hkn : k = n := by omega
        subst hkn
        have hd := hide (dn_yes (left := 1048576) (x := kyTot L) (by rw [HF.out]; omega))
        go_wp2
        go_ret
        exact ⟨ret_iI (by rw [hd.out, HF.out]; omega), hb⟩
end Go.Proofs.YtfbahffljhnjbaaGreatDoor
