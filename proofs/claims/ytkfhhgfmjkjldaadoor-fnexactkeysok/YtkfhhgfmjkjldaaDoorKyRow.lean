/-
  Contracts of the laws' helpers on rows of keys: how much they hold.
-/
import Derived.Test.YtkfhhgfmjkjldaaDoorTxRow
namespace Go.Proofs.YtkfhhgfmjkjldaaDoor
open Go.RowKit Go.Joins
set_option linter.unusedVariables false
set_option linter.unusedSimpArgs false
/-- A key. -/
structure Ky where
  nm : ByteArray
  kd : Int
  on : ByteArray
  pa : ByteArray
  fl : List ByteArray
  re : ByteArray
/-- No key. -/
def ky0 : Ky := ⟨⟨#[]⟩, 0, ⟨#[]⟩, ⟨#[]⟩, [], ⟨#[]⟩⟩
/-- The key at a place. -/
def kyA (L : List Ky) (j : Nat) : Ky := L[j]?.getD ky0
def KyC (w : World) (b o : Nat) (x : Ky) (ad : Option Addr) (cp : Nat) : Prop := w.cell? ⟨b, o, none⟩ = some (.string x.nm) ∧ w.cell? ⟨b, o + 1, none⟩ = some (.int .i64 x.kd) ∧ w.cell? ⟨b, o + 2, none⟩ = some (.string x.on) ∧ w.cell? ⟨b, o + 3, none⟩ = some (.string x.pa) ∧ w.cell? ⟨b, o + 4, none⟩ = some (.slice ad x.fl.length cp) ∧ w.cell? ⟨b, o + 5, none⟩ = some (.string x.re)
def KyAt (w : World) (a : Option Addr) (L : List Ky) (B : Nat) : Prop := L ≠ [] → ∃ b off, a = some ⟨b, off, none⟩ ∧ b < B ∧ ∀ j, j < L.length → ∃ ad cp, KyC w b (off + j * 6) (kyA L j) ad cp ∧ TxAt w ad (kyA L j).fl B ∧ (kyA L j).fl.length ≤ cp
theorem kyC_go {w w' : World} {b o B : Nat} {x : Ky} {ad : Option Addr} {cp : Nat} (h : KyC w b o x ad cp) (hb : b < B) (k : Below B w w') : KyC w' b o x ad cp := by
  obtain ⟨h0, h1, h2, h3, h4, h5⟩ := h
  exact ⟨(k.cell (p := ⟨b, o, none⟩) hb).trans h0, (k.cell (p := ⟨b, o + 1, none⟩) hb).trans h1, (k.cell (p := ⟨b, o + 2, none⟩) hb).trans h2, (k.cell (p := ⟨b, o + 3, none⟩) hb).trans h3, (k.cell (p := ⟨b, o + 4, none⟩) hb).trans h4, (k.cell (p := ⟨b, o + 5, none⟩) hb).trans h5⟩
theorem kyAt_go {w w' : World} {a : Option Addr} {L : List Ky} {B : Nat} (h : KyAt w a L B) (k : Below B w w') : KyAt w' a L B := fun h0 => by
  obtain ⟨b, off, e, hb, hr⟩ := h h0
  refine ⟨b, off, e, hb, fun j hj => ?_⟩
  obtain ⟨ad, cp, h1, h2, h3⟩ := hr j hj
  exact ⟨ad, cp, kyC_go h1 hb k, tx_go h2 k, h3⟩
theorem kyAt_up {w : World} {a : Option Addr} {L : List Ky} {B B' : Nat} (h : KyAt w a L B) (k : B ≤ B') : KyAt w a L B' := fun h0 => by
  obtain ⟨b, off, e, hb, hr⟩ := h h0
  refine ⟨b, off, e, Nat.lt_of_lt_of_le hb k, fun j hj => ?_⟩
  obtain ⟨ad, cp, h1, h2, h3⟩ := hr j hj
  exact ⟨ad, cp, h1, tx_up h2 k, h3⟩
/-- The sizes that a key in memory can have. -/
def KyZ (x : Ky) : Prop := x.nm.size ≤ maxLen ∧ x.on.size ≤ maxLen ∧ x.pa.size ≤ maxLen ∧ TxSz x.fl ∧ x.re.size ≤ maxLen
def KySz (L : List Ky) : Prop := L.length ≤ maxLen ∧ ∀ j, j < L.length → KyZ (kyA L j)
def kyS (x : Ky) : Nat := x.nm.size + x.on.size + x.pa.size + txTot x.fl + x.re.size
def kyTot (L : List Ky) : Nat := L.length + sumN (fun j => kyS (kyA L j)) L.length
theorem ky_sz {L : List Ky} (h : kyTot L ≤ 1048576) : L.length ≤ 1048576 ∧ ∀ j, j < L.length → kyS (kyA L j) ≤ 1048576 := by
  unfold kyTot at h
  refine ⟨by omega, fun j hj => ?_⟩
  have h1 := sumN_at (fun j => kyS (kyA L j)) hj
  have h2 : (fun j => kyS (kyA L j)) j = kyS (kyA L j) := rfl
  omega
set_option maxHeartbeats 4000000 in
theorem l_szK (x : Ky) (ad : Option Addr) (cp : Nat) (left : Int) (w : World) (hx : KyZ x) (hr : TxAt w ad x.fl w.heap.size) (h0 : 0 ≤ left) (h1 : left ≤ 1048576) :
    Calls Tryd.prog 9 #[.agg #[.string x.nm, .int .i64 x.kd, .string x.on, .string x.pa, .slice ad x.fl.length cp, .string x.re], .int .i64 left] w fun e w' => e = .returned (.int .i64 (dn left (kyS x))) ∧ Below w.heap.size w w' := by
  obtain ⟨nm, kd, on, pa, fl, re⟩ := x
  obtain ⟨z0, z1, z2, z3, z4⟩ := hx
  obtain ⟨n, hn⟩ : ∃ n, fl.length = n := ⟨_, rfl⟩
  have HN := hide hn
  obtain ⟨T, hT⟩ : ∃ T, txTot fl = T := ⟨_, rfl⟩
  have HT := hide hT
  have HZ := hide z3
  have HR := hide hr
  have HS : Hid (kyS ⟨nm, kd, on, pa, fl, re⟩ = nm.size + on.size + pa.size + T + re.size) := hide (by unfold kyS; rw [hT])
  simp only at z0 z1 z2 z4
  unfold maxLen at z0 z1 z2 z4
  clear z3 hr hT
  simp only
  rw [hn]
  clear hn
  have CT : Hid (∀ (l : Int) (w1 : World), 0 ≤ l → l ≤ 1048576 → Below w.heap.size w w1 → Calls Tryd.prog 17 #[.slice ad n cp, .int .i64 l] w1 fun e w' => e = .returned (.int .i64 (dn l T)) ∧ w' = w1) := hide (fun l w1 a1 a2 hb => by
    have := sz_strs ad n cp fl l w1 HN.out HZ.out a1 a2 (tx_up (tx_go HR.out hb) hb.size)
    rw [HT.out] at this
    exact this)
  by_cases p0 : (nm.size : Int) ≤ left
  · by_cases p1 : (on.size : Int) ≤ left - nm.size
    · by_cases p2 : (pa.size : Int) ≤ left - nm.size - on.size
      · by_cases p3 : (T : Int) ≤ left - nm.size - on.size - pa.size
        · by_cases p4 : (re.size : Int) ≤ left - nm.size - on.size - pa.size - T
          · have hd := hide (dn_yes (left := left) (x := nm.size + on.size + pa.size + T + re.size) (by omega))
            have r3 : (0 : Int) ≤ left - nm.size - on.size - pa.size - T := by omega
            go_enter Tryd.func9, Tryd.ntmps9
            go_wp2_with (go_at_call 17; refine (CT.out _ _ (by omega) (by omega) ((Below.refl _ _).alloc (Nat.le_refl _) _)).mono ?_; rintro e w2 ⟨rfl, h9⟩; rw [h9, dn_yes p3]; clear h9)
            go_ret
            exact ⟨ret_iI (by rw [HS.out, hd.out]; omega), (Below.refl _ _).alloc (Nat.le_refl _) _⟩
          · have hd := hide (dn_no (left := left) (x := nm.size + on.size + pa.size + T + re.size) (by omega))
            have r3 : (0 : Int) ≤ left - nm.size - on.size - pa.size - T := by omega
            go_enter Tryd.func9, Tryd.ntmps9
            go_wp2_with (go_at_call 17; refine (CT.out _ _ (by omega) (by omega) ((Below.refl _ _).alloc (Nat.le_refl _) _)).mono ?_; rintro e w2 ⟨rfl, h9⟩; rw [h9, dn_yes p3]; clear h9)
            go_ret
            exact ⟨ret_iI (by rw [HS.out, hd.out]), (Below.refl _ _).alloc (Nat.le_refl _) _⟩
        · have hd := hide (dn_no (left := left) (x := nm.size + on.size + pa.size + T + re.size) (by omega))
          go_enter Tryd.func9, Tryd.ntmps9
          go_wp2_with (go_at_call 17; refine (CT.out _ _ (by omega) (by omega) ((Below.refl _ _).alloc (Nat.le_refl _) _)).mono ?_; rintro e w2 ⟨rfl, h9⟩; rw [h9, dn_no p3]; clear h9)
          go_ret
          exact ⟨ret_iI (by rw [HS.out, hd.out]), (Below.refl _ _).alloc (Nat.le_refl _) _⟩
      · have hd := hide (dn_no (left := left) (x := nm.size + on.size + pa.size + T + re.size) (by omega))
        go_enter Tryd.func9, Tryd.ntmps9
        go_wp2
        go_ret
        exact ⟨ret_iI (by rw [HS.out, hd.out]), (Below.refl _ _).alloc (Nat.le_refl _) _⟩
    · have hd := hide (dn_no (left := left) (x := nm.size + on.size + pa.size + T + re.size) (by omega))
      go_enter Tryd.func9, Tryd.ntmps9
      go_wp2
      go_ret
      exact ⟨ret_iI (by rw [HS.out, hd.out]), (Below.refl _ _).alloc (Nat.le_refl _) _⟩
  · have hd := hide (dn_no (left := left) (x := nm.size + on.size + pa.size + T + re.size) (by omega))
    go_enter Tryd.func9, Tryd.ntmps9
    go_wp2
    go_ret
    exact ⟨ret_iI (by rw [HS.out, hd.out]), (Below.refl _ _).alloc (Nat.le_refl _) _⟩
set_option maxHeartbeats 4000000 in
theorem l_szKs (L : List Ky) (n : Nat) (a : Option Addr) (c : Nat) (w : World) (hD : L.length = n) (hz : KySz L) (hr : KyAt w a L w.heap.size) :
    Calls Tryd.prog 4 #[.slice a n c, .int .i64 1048576] w fun e w' => e = .returned (.int .i64 (dn 1048576 (kyTot L))) ∧ Below w.heap.size w w' := by
  have HD := hide hD
  have HZ := hide hz
  have HR := hide hr
  have hn : n ≤ maxLen := by rw [← hD]; exact hz.1
  unfold maxLen at hn
  clear hr hz hD
  by_cases hb0 : (1048576 : Int) < (n : Int)
  · have hd := hide (dn_no (left := 1048576) (x := kyTot L) (by unfold kyTot; rw [HD.out]; omega))
    go_enter Tryd.func4, Tryd.ntmps4
    go_wp2
    go_ret
    exact ⟨ret_iI (by rw [hd.out]), Below.refl _ _⟩
  · obtain ⟨f, hf⟩ : ∃ f, (fun j => kyS (kyA L j)) = f := ⟨_, rfl⟩
    have HF : Hid (kyTot L = n + sumN f n) := hide (by unfold kyTot; rw [HD.out, hf])
    have HFA : Hid (∀ k, kyS (kyA L k) = f k) := hide (fun k => by rw [← hf])
    clear hf
    go_enter Tryd.func4, Tryd.ntmps4
    go_wp2
    go_loopw [1, 5] (fun l i wr => ∃ k : Nat, k ≤ n ∧ i = .int .i64 k ∧ l = .int .i64 (1048576 - (n : Int) - (sumN f k : Int)) ∧ (n : Int) + (sumN f k : Int) ≤ 1048576 ∧ Below w.heap.size w wr) (fun _ i _ => n - (intOf i).toNat)
    case atStart => exact ⟨0, Nat.zero_le _, rfl, by simp [sumN], by show (n : Int) + ((0 : Nat) : Int) ≤ _; omega, Below.refl _ _⟩
    case round =>
      obtain ⟨k, hk, rfl, rfl, hle, hb⟩ := hrel
      by_cases hlt : k < n
      · obtain ⟨b, off, rfl, hbs, hrow⟩ := HR.out (fun e => by have := HD.out; rw [e] at this; simp at this; omega)
        obtain ⟨ad, cp, hc, hat, -⟩ := hrow k (by rw [HD.out]; omega)
        have hzk := HZ.out.2 k (by rw [HD.out]; omega)
        have hfk := HFA.out k
        obtain ⟨x, hx⟩ : ∃ x, kyA L k = x := ⟨_, rfl⟩
        rw [hx] at hc hat hzk hfk
        obtain ⟨c0, c1, c2, c3, c4, c5⟩ := kyC_go hc hbs hb
        have HB := hide hb
        have CK := hide (fun l h0 h1 => l_szK x ad cp l wr hzk (tx_up (tx_go hat hb) hb.size) h0 h1)
        rw [hfk] at CK
        obtain ⟨q, hq⟩ : ∃ q, sumN f k = q := ⟨_, rfl⟩
        obtain ⟨T, hT⟩ : ∃ T, f k = T := ⟨_, rfl⟩
        have hq1 : sumN f (k + 1) = q + T := by rw [← hq, ← hT]; rfl
        have HQ1 := hide hq1
        rw [hT] at CK
        rw [hq] at hle ⊢
        have HLE := hide (sumN_le f (a := k + 1) (b := n) (by omega))
        clear hq hq1 hb hc hrow hat hzk hfk hT hx
        by_cases hbig : (T : Int) ≤ 1048576 - (n : Int) - (q : Int)
        · have hbig2 : (0 : Int) ≤ 1048576 - (n : Int) - (q : Int) - (T : Int) := by omega
          go_wp2_with (go_at_call 9; refine (CK.out _ (by omega) (by omega)).mono ?_; rintro e w2 ⟨rfl, hb2⟩; rw [dn_yes hbig]; have HB2 := hide (HB.out.trans (hb2.mono HB.out.size)); clear hb2)
          go_roundw
          case rel => exact ⟨k + 1, by omega, by go_num, by rw [HQ1.out]; go_num, by rw [HQ1.out]; omega, HB2.out⟩
          case measure => simp [intOf]; omega
        · have hd := hide (dn_no (left := 1048576) (x := kyTot L) (by have := HLE.out; rw [HQ1.out] at this; rw [HF.out]; omega))
          go_wp2_with (go_at_call 9; refine (CK.out _ (by omega) (by omega)).mono ?_; rintro e w2 ⟨rfl, hb2⟩; rw [dn_no hbig]; have HB2 := hide (HB.out.trans (hb2.mono HB.out.size)); clear hb2)
          go_ret
          exact ⟨ret_iI (by rw [hd.out]), HB2.out⟩
      · have hkn : k = n := by omega
        subst hkn
        have hd := hide (dn_yes (left := 1048576) (x := kyTot L) (by rw [HF.out]; omega))
        go_wp2
        go_ret
        exact ⟨ret_iI (by rw [hd.out, HF.out]; omega), hb⟩
end Go.Proofs.YtkfhhgfmjkjldaaDoor
