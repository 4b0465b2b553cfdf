/-
  Contracts of the draws of a few bytes, and of names with a colon or two.
-/
import Derived.Test.YtaigicdoepdhnaaDoorDraw
import Derived.Test.YtaigicdoepdhnaaDoorOwn
namespace Go.Proofs.YtaigicdoepdhnaaDoor
open Go.RowKit
set_option linter.unusedVariables false
set_option linter.unusedSimpArgs false

theorem own_draw {w w1 : World} {B G : Nat} {e : TypeId} {v : Value} {n : Nat} {xs : List Value} (h : w.ownsRow B e 1 v n xs) (hg : w.grownBy w1 (some G)) (hB : G < B) : w1.ownsRow B e 1 v n xs := by
  refine h.kept hg ?_
  cases hv : v.ownBlock with
  | none => exact .inl rfl
  | some k => exact .inr (fun e => by cases e; have := (h.lt G hv).1; omega)
theorem one_new8 (w : World) (v : Value) (j : Nat) (u : Value) (hj : [v][j]? = some u) : (w.alloc (.cells #[v] 5)).cell? ((⟨w.heap.size, 0, none⟩ : Addr).add j) = some u := by
  have h0 : j = 0 := by
    rcases Nat.eq_zero_or_pos j with h | h
    · exact h
    · rw [List.getElem?_eq_none (by simp; omega)] at hj; simp at hj
  subst h0
  simp at hj
  subst hj
  simp [Addr.add]
theorem one_list8 (n : Int) : ∀ u ∈ [Value.int .u8 n], u.oneCell' = true := by
  intro u hu
  simp at hu
  subst hu
  rfl
/-- The round's relation: the bytes so far in memory of the call's own, the reader behind its draws. -/
def ByRel (G : Nat) (a : Option Addr) (n cap : Nat) (zs : List Int) (w wr : World) (acc : List Int) (ad : Option Addr) (c : Nat) : Prop :=
  wr.ownsRow w.heap.size 5 1 (.slice ad acc.length c) acc.length (acc.map (Value.int .u8)) ∧ RdAt wr G a n cap zs ∧ w.grownBy wr (some G)
theorem by_put {G : Nat} {a : Option Addr} {n cap : Nat} {zs : List Int} {w wr w1 w2 : World} {acc : List Int} {ad ad2 : Option Addr} {c c2 : Nat} {o : Obj} {x : Int} (hG : G < w.heap.size) (h : ByRel G a n cap zs w wr acc ad c) (hd : Drew G a n cap zs wr w1)
    (hown : w2.ownsRow w.heap.size 5 1 (.slice ad2 (acc.length + 1) c2) (acc.length + 1) (acc.map (Value.int .u8) ++ [.int .u8 x])) (hgr : (w1.alloc o).grownBy w2 (Value.slice ad acc.length c).ownBlock) :
    ByRel G a n cap zs w w2 (acc ++ [x]) ad2 c2 := by
  obtain ⟨h1, h2, h3⟩ := h
  have hb : ∀ k, (Value.slice ad acc.length c).ownBlock = some k → w.heap.size ≤ k := fun k hk => (h1.lt k hk).1
  refine ⟨?_, ?_, ?_⟩
  · rw [show (acc ++ [x]).length = acc.length + 1 by simp, show (acc ++ [x]).map (Value.int .u8) = acc.map (Value.int .u8) ++ [.int .u8 x] by simp]
    exact hown
  · exact rd_grown (rd_alloc hd.1 o) hgr (fun k hk => by have := hb k hk; omega)
  · have h4 : w.grownBy (w1.alloc o) (some G) := grown_trans (grown_trans h3 hd.2) (World.grownBy_alloc w1 o (some G))
    refine ⟨hgr.os.trans h4.os, hgr.tape.trans h4.tape, hgr.output.trans h4.output, Nat.le_trans h4.size hgr.size, fun k hk hne => ?_⟩
    rw [hgr.block k (Nat.lt_of_lt_of_le hk h4.size) (fun e => by have := hb k e.symm; omega)]
    exact h4.block k hk hne

set_option maxHeartbeats 1000000 in
theorem d_bytes (G : Nat) (a : Option Addr) (n cap : Nat) (zs : List Int) (m : Nat) (w : World) (hm : 1 ≤ m) (hm' : m ≤ 200) (h : RdAt w G a n cap zs) :
    Calls Tryd.prog 36 #[.pointer (some ⟨G, 0, none⟩), .int .i64 m] w fun e w' => ∃ s : ByteArray, s.size ≤ m ∧ e = .returned (.string s) ∧ Drew G a n cap zs w w' := by
  obtain ⟨i0, hi, hz0, hz1, hz2⟩ := info_parts info8
  have HH := hide h
  have hG := rd_lt h
  clear h
  go_enter Tryd.func36, Tryd.ntmps36
  go_wp2_with fail
  refine (d_below G a n cap zs ((m : Int) + 1) _ (by omega) (by omega) (rd_alloc HH.out _)).mono ?_
  rintro e w1 ⟨y, hy0, hy1, rfl, hd⟩
  have hstart : ByRel G a n cap zs w w1 [] (some ⟨w.heap.size, 0, none⟩) 0 :=
    ⟨own_draw (World.ownsRow_made (base := w.heap.size) (e := 5) (size := 1) w #[] 0 (Nat.le_refl _) (Nat.zero_le _) rfl) hd.2 hG, hd.1, (drew_alloc _ hd).2⟩
  have HS := hide hstart
  clear hd hstart
  obtain ⟨k0, rfl⟩ : ∃ k0 : Nat, y = k0 := ⟨y.toNat, by omega⟩
  go_wp2
  go_loopw [5, 6] (fun v i wr => ∃ (k : Nat) (acc : List Int) (ad : Option Addr) (c : Nat), i = .int .i64 k ∧ acc.length + k ≤ m ∧ v = .slice ad acc.length c ∧ ByRel G a n cap zs w wr acc ad c) (fun _ i _ => (intOf i).toNat)
  case atStart => exact ⟨k0, [], _, _, rfl, by simp; omega, rfl, HS.out⟩
  case round =>
    obtain ⟨k, acc, ad, c, rfl, hk, rfl, hrel⟩ := hrel
    have HR := hide hrel
    have hwsz := hrel.2.2.size
    by_cases hpos : 0 < k
    · clear hrel
      have hp' : (0 : Int) < (k : Int) := by omega
      go_wp2_with fail
      refine (d_below G a n cap zs 256 _ (by omega) (by omega) HR.out.2.1).mono ?_
      rintro e w2 ⟨x, hx0, hx1, rfl, hd2⟩
      have OW := hide (own_draw HR.out.1 hd2.2 hG)
      have HD2 := hide hd2
      have hw2 := hd2.2.size
      have hx2 : x ≤ 255 := by omega
      clear hd2
      go_wp2_with (at_builtin; refine wpList_append_own _ rfl (.tmp 16) (.tmp 20) 22 rfl w.heap.size 5 i0 (.int .u8 0) 1 1 Tryd.underlying22 hi hz0 hz1 hz2 rfl (by decide) _ _ _ rfl (OW.out.alloc _) ⟨w2.heap.size, 0, none⟩ 1 1 [.int .u8 x] rfl rfl (fun j u hj => one_new8 w2 _ j u hj) (one_list8 _) (by unfold maxLen; omega) (by omega) (by simp; omega) ?_; intro v3 w3 hown3 hgrow3 _; obtain ⟨ad3, c3, hv3⟩ := own_shape hown3; rw [hv3] at hown3 ⊢; clear hv3; have P3 := hide (by_put hG HR.out HD2.out hown3 hgrow3); clear hown3 hgrow3)
      go_roundw
      case rel => exact ⟨k - 1, acc ++ [x], ad3, c3, congrArg (Value.int .i64) (by omega), by simp; omega, by simp, P3.out⟩
      case measure => simp [intOf]; omega
    · have hz : k = 0 := by omega
      subst hz
      have hcv := conv_own hrel.1
      clear hrel
      go_wp2
      go_ret
      exact ⟨strOfNums acc, by rw [strOfNums_size]; omega, rfl, HR.out.2.1, HR.out.2.2⟩
end Go.Proofs.YtaigicdoepdhnaaDoor
