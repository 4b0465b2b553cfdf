/-
  Contracts: what the specification's and the program's Lines answer at every text of at most 1048576 bytes; nothing that was there is written.
-/
import Derived.Test.YteoncponebmnbacDoorOwn
import Derived.Test.YteoncponebmnbacDoorLinesMath
import Derived.Test.YteoncponebmnbacDoorShelf
namespace Go.Proofs.YteoncponebmnbacDoor
open Go.RowKit
set_option linter.unusedVariables false
set_option linter.unusedSimpArgs false

def ints8 (l : List UInt8) : List Int := l.map fun b => (b.toNat : Int)
theorem ints8_len (l : List UInt8) : (ints8 l).length = l.length := by simp [ints8]
theorem str_ints8 (l : List UInt8) : strOfNums (ints8 l) = ⟨l.toArray⟩ := by
  unfold strOfNums ints8
  rw [List.map_map]
  have : (l.map ((fun n : Int => UInt8.ofNat n.toNat) ∘ fun b : UInt8 => (b.toNat : Int))) = l := by
    conv => rhs; rw [← List.map_id l]
    apply List.map_congr_left
    intro b _
    simp
  rw [this]
theorem byte_at' (s : ByteArray) (k : Nat) (h : k < s.size) : s.data.toList[k]? = some s[k] := by
  have h' : k < s.data.toList.length := by simpa using h
  rw [List.getElem?_eq_getElem h']; rfl
theorem drop_byte (s : ByteArray) (k : Nat) (h : k < s.size) : s.data.toList.drop k = s[k] :: s.data.toList.drop (k + 1) := by
  have h' : k < s.data.toList.length := by simpa using h
  rw [List.drop_eq_getElem_cons h']; rfl
theorem head_drop (s : ByteArray) (k : Nat) : (s.data.toList.drop k).head? = s.data.toList[k]? := by simp [List.head?_drop]
theorem u8_13 {b : UInt8} : ((b.toNat : Int) = 13) ↔ b = 13 := by
  constructor
  · intro h
    have : b.toNat = 13 := by omega
    exact UInt8.toNat_inj.1 this
  · intro h
    rw [h]; rfl
theorem u8_10 {b : UInt8} : ((b.toNat : Int) = 10) ↔ b = 10 := by
  constructor
  · intro h
    have : b.toNat = 10 := by omega
    exact UInt8.toNat_inj.1 this
  · intro h
    rw [h]; rfl

theorem ln_other {s : ByteArray} {k : Nat} (h : k < s.size) (hb : (s[k].toNat : Int) ≠ 13) : linesB (s.data.toList.drop k) = s[k] :: linesB (s.data.toList.drop (k + 1)) := by
  rw [drop_byte s k h, linesB, if_neg (fun e => hb (u8_13.2 e))]
theorem ln_ten {s : ByteArray} {k : Nat} (h : k < s.size) (hb : (s[k].toNat : Int) = 13) (hn : ∀ h' : k + 1 < s.size, (s[k + 1].toNat : Int) ≠ 10) : linesB (s.data.toList.drop k) = 10 :: linesB (s.data.toList.drop (k + 1)) := by
  rw [drop_byte s k h, linesB, if_pos (u8_13.1 hb), if_neg]
  rw [head_drop]
  intro e
  by_cases h' : k + 1 < s.size
  · rw [byte_at' s (k + 1) h'] at e
    exact hn h' (u8_10.2 (by simpa using e))
  · rw [List.getElem?_eq_none (by simp; omega)] at e; simp at e
theorem ln_drop {s : ByteArray} {k : Nat} (h : k < s.size) (hb : (s[k].toNat : Int) = 13) (h' : k + 1 < s.size) (hn : (s[k + 1].toNat : Int) = 10) : linesB (s.data.toList.drop k) = linesB (s.data.toList.drop (k + 1)) := by
  rw [drop_byte s k h, linesB, if_pos (u8_13.1 hb), if_pos]
  rw [head_drop, byte_at' s (k + 1) h', u8_10.1 hn]

/-- The round's relation, of what has been gathered. -/
def LnRel (s : ByteArray) (w wr : World) (k : Nat) (acc : List UInt8) (ad : Option Addr) (c : Nat) : Prop :=
  wr.ownsRow w.heap.size 5 1 (.slice ad acc.length c) acc.length ((ints8 acc).map (Value.int .u8)) ∧ Below w.heap.size w wr ∧ linesB s.data.toList = acc ++ linesB (s.data.toList.drop k) ∧ acc.length ≤ k

theorem ln_put {s : ByteArray} {w wr w2 : World} {k : Nat} {acc : List UInt8} {ad ad2 : Option Addr} {c c2 : Nat} {o : Obj} {b : UInt8} (h : LnRel s w wr k acc ad c) (hg : linesB (s.data.toList.drop k) = b :: linesB (s.data.toList.drop (k + 1)))
    (hown : w2.ownsRow w.heap.size 5 1 (.slice ad2 (acc.length + 1) c2) (acc.length + 1) ((ints8 acc).map (Value.int .u8) ++ [.int .u8 (b.toNat : Int)])) (hgr : (wr.alloc o).grownBy w2 (Value.slice ad acc.length c).ownBlock) :
    LnRel s w w2 (k + 1) (acc ++ [b]) ad2 c2 := by
  obtain ⟨h1, h2, h3, h4⟩ := h
  refine ⟨?_, below_step' h2 h1 hgr, ?_, ?_⟩
  · rw [show (acc ++ [b]).length = acc.length + 1 by simp, show (ints8 (acc ++ [b])).map (Value.int .u8) = (ints8 acc).map (Value.int .u8) ++ [.int .u8 (b.toNat : Int)] by simp [ints8]]
    exact hown
  · rw [h3, hg]; simp
  · simp; omega
theorem ln_skip {s : ByteArray} {w wr : World} {k : Nat} {acc : List UInt8} {ad : Option Addr} {c : Nat} (h : LnRel s w wr k acc ad c) (hg : linesB (s.data.toList.drop k) = linesB (s.data.toList.drop (k + 1))) : LnRel s w wr (k + 1) acc ad c := by
  obtain ⟨h1, h2, h3, h4⟩ := h
  exact ⟨h1, h2, by rw [h3, hg], by omega⟩
theorem ln_start (s : ByteArray) (w : World) : LnRel s w (w.alloc (.cells #[] 5)) 0 [] (some ⟨w.heap.size, 0, none⟩) 0 :=
  ⟨World.ownsRow_made (base := w.heap.size) (e := 5) (size := 1) w #[] 0 (Nat.le_refl _) (Nat.zero_le _) rfl, (Below.refl _ _).alloc (Nat.le_refl _) _, by simp, Nat.zero_le _⟩
theorem ln_conv {s : ByteArray} {w wr : World} {k : Nat} {acc : List UInt8} {ad : Option Addr} {c : Nat} (h : LnRel s w wr k acc ad c) :
    (convert 22 9 (.slice ad acc.length c)).run Tryd.prog wr = .ok (.string ⟨acc.toArray⟩) wr := by
  have := h.1
  rw [← ints8_len acc] at this ⊢
  rw [conv_own this, str_ints8]
theorem ln_end {s : ByteArray} {w wr : World} {k : Nat} {acc : List UInt8} {ad : Option Addr} {c : Nat} (h : LnRel s w wr k acc ad c) (hk : s.size ≤ k) : linesB s.data.toList = acc := by
  rw [h.2.2.1, List.drop_eq_nil_of_le (by simpa using hk)]; simp [linesB]
theorem one_new (w : World) (v : Value) (j : Nat) (u : Value) (hj : [v][j]? = some u) : (w.alloc (.cells #[v] 5)).cell? ((⟨w.heap.size, 0, none⟩ : Addr).add j) = some u := by
  have h0 : j = 0 := by
    rcases Nat.eq_zero_or_pos j with h | h
    · exact h
    · rw [List.getElem?_eq_none (by simp; omega)] at hj; simp at hj
  subst h0
  simp at hj
  subst hj
  simp [Addr.add]
theorem one_list (n : Int) : ∀ u ∈ [Value.int .u8 n], u.oneCell' = true := by
  intro u hu
  simp at hu
  subst hu
  rfl

set_option maxHeartbeats 2000000 in
theorem s_lines (s : ByteArray) (w : World) (hs : s.size ≤ 1048576) :
    Calls Tryd.prog 7 #[.string s] w fun e w' => e = .returned (.string ⟨(linesB s.data.toList).toArray⟩) ∧ Below w.heap.size w w' := by
  obtain ⟨i0, hi, hz0, hz1, hz2⟩ := info_parts info8
  have HS := hide (ln_start s w)
  go_enter Tryd.func7, Tryd.ntmps7
  go_wp2
  go_loopw [3, 4] (fun v i wr => ∃ (k : Nat) (acc : List UInt8) (ad : Option Addr) (c : Nat), k ≤ s.size ∧ i = .int .i64 k ∧ v = .slice ad acc.length c ∧ LnRel s w wr k acc ad c) (fun _ i _ => s.size - (intOf i).toNat)
  case atStart => exact ⟨0, [], _, _, Nat.zero_le _, rfl, rfl, HS.out⟩
  case round =>
    obtain ⟨k, acc, ad, c, hk, rfl, rfl, hrel⟩ := hrel
    have HR := hide hrel
    have hal := hrel.2.2.2
    have hsz := hrel.2.1.size
    by_cases hlt : k < s.size
    · clear hrel
      by_cases hb : (s[k].toNat : Int) = 13
      · by_cases hlast : k + 1 < s.size
        · by_cases hn : (s[k + 1].toNat : Int) = 10
          · have G := hide (ln_drop hlt hb hlast hn)
            have ht : ((s[k].toNat : Int) != 13) = false := by simp [hb]
            have ht2 : ((s[k + 1].toNat : Int) != 10) = false := by simp [hn]
            have hne : (((k : Int) + 1) == (s.size : Int)) = false := by simp; omega
            have HB := hide hb
            have HN := hide hn
            clear hb hn
            go_wp2
            go_roundw
            case rel => exact ⟨k + 1, acc, ad, c, by omega, by go_num, rfl, ln_skip HR.out G.out⟩
            case measure => simp [intOf]; omega
          · have G := hide (ln_ten hlt hb (fun _ => hn))
            have ht : ((s[k].toNat : Int) != 13) = false := by simp [hb]
            have ht2 : ((s[k + 1].toNat : Int) != 10) = true := by simp [hn]
            have hne : (((k : Int) + 1) == (s.size : Int)) = false := by simp; omega
            clear hb hn
            go_wp2_with (at_builtin; refine wpList_append_own _ rfl (.tmp 34) (.tmp 35) 22 rfl w.heap.size 5 i0 (.int .u8 0) 1 1 Tryd.underlying22 hi hz0 hz1 hz2 rfl (by decide) _ _ _ rfl (HR.out.1.alloc _) ⟨wr.heap.size, 0, none⟩ 1 1 [.int .u8 10] rfl rfl (fun j u hj => one_new wr _ j u hj) (one_list _) (by unfold maxLen; omega) (by omega) (by simp; omega) ?_; intro v2 w2 hown2 hgrow2 _; obtain ⟨ad2, c2, hv2⟩ := own_shape hown2; rw [hv2] at hown2 ⊢; clear hv2; have P2 := hide (ln_put HR.out G.out hown2 hgrow2); clear hown2 hgrow2)
            go_roundw
            case rel => exact ⟨k + 1, acc ++ [10], ad2, c2, by omega, by go_num, by simp, P2.out⟩
            case measure => simp [intOf]; omega
        · have G := hide (ln_ten hlt hb (fun h => absurd h hlast))
          have ht : ((s[k].toNat : Int) != 13) = false := by simp [hb]
          have hne : (((k : Int) + 1) == (s.size : Int)) = true := by simp; omega
          clear hb
          go_wp2_with (at_builtin; refine wpList_append_own _ rfl (.tmp 34) (.tmp 35) 22 rfl w.heap.size 5 i0 (.int .u8 0) 1 1 Tryd.underlying22 hi hz0 hz1 hz2 rfl (by decide) _ _ _ rfl (HR.out.1.alloc _) ⟨wr.heap.size, 0, none⟩ 1 1 [.int .u8 10] rfl rfl (fun j u hj => one_new wr _ j u hj) (one_list _) (by unfold maxLen; omega) (by omega) (by simp; omega) ?_; intro v2 w2 hown2 hgrow2 _; obtain ⟨ad2, c2, hv2⟩ := own_shape hown2; rw [hv2] at hown2 ⊢; clear hv2; have P2 := hide (ln_put HR.out G.out hown2 hgrow2); clear hown2 hgrow2)
          go_roundw
          case rel => exact ⟨k + 1, acc ++ [10], ad2, c2, by omega, by go_num, by simp, P2.out⟩
          case measure => simp [intOf]; omega
      · have G := hide (ln_other hlt hb)
        have ht : ((s[k].toNat : Int) != 13) = true := by simp [hb]
        clear hb
        go_wp2_with (at_builtin; refine wpList_append_own _ rfl (.tmp 16) (.tmp 20) 22 rfl w.heap.size 5 i0 (.int .u8 0) 1 1 Tryd.underlying22 hi hz0 hz1 hz2 rfl (by decide) _ _ _ rfl (HR.out.1.alloc _) ⟨wr.heap.size, 0, none⟩ 1 1 [.int .u8 (s[k].toNat : Int)] rfl rfl (fun j u hj => one_new wr _ j u hj) (one_list _) (by unfold maxLen; omega) (by omega) (by simp; omega) ?_; intro v2 w2 hown2 hgrow2 _; obtain ⟨ad2, c2, hv2⟩ := own_shape hown2; rw [hv2] at hown2 ⊢; clear hv2; have P2 := hide (ln_put HR.out G.out hown2 hgrow2); clear hown2 hgrow2)
        go_roundw
        case rel => exact ⟨k + 1, acc ++ [s[k]], ad2, c2, by omega, by go_num, by simp, P2.out⟩
        case measure => simp [intOf]; omega
    · have hcv := ln_conv hrel
      clear hrel
      go_wp2
      go_ret
      exact ⟨by rw [ln_end HR.out (by omega)]; rfl, HR.out.2.1⟩

theorem one_size : (⟨#[10]⟩ : ByteArray).size = 1 := rfl
set_option maxHeartbeats 1000000 in
theorem i_lines (s : ByteArray) (m : Int) (w : World) (hs : s.size ≤ 1048576) (h0 : 0 < w.heap.size) (hm : w.cell? ⟨0, 0, none⟩ = some (.int .i64 m)) :
    Calls Tryd.prog 6 #[.string s] w fun e w' => e = .returned (.string ⟨(linesB s.data.toList).toArray⟩) ∧ Below w.heap.size w w' := by
  have hl : (Lib.replaceAll s.data.toList [13, 10] [10]).length ≤ s.size := by
    have := rep2_len s.data.toList.length s.data.toList (Nat.le_refl _)
    rw [Array.length_toList] at this; exact this
  have hc1 : Lib.countB s ⟨#[13, 10]⟩ ≤ s.size + 1 := by have := count_le s.data.toList [13, 10]; rw [Array.length_toList] at this; exact this
  have hc2 : Lib.countB ⟨(Lib.replaceAll s.data.toList [13, 10] [10]).toArray⟩ ⟨#[13]⟩ ≤ s.size + 1 := by
    have := count_le (Lib.replaceAll s.data.toList [13, 10] [10]) [13]
    have e : Lib.countB ⟨(Lib.replaceAll s.data.toList [13, 10] [10]).toArray⟩ ⟨#[13]⟩ = Lib.count (Lib.replaceAll s.data.toList [13, 10] [10]) [13] := rfl
    omega
  have hsz : (⟨(Lib.replaceAll s.data.toList [13, 10] [10]).toArray⟩ : ByteArray).size ≤ s.size := by rw [show (⟨(Lib.replaceAll s.data.toList [13, 10] [10]).toArray⟩ : ByteArray).size = (Lib.replaceAll s.data.toList [13, 10] [10]).length from List.size_toArray]; exact hl
  have HE := hide (lines_eq s.data.toList.length s.data.toList (Nat.le_refl _))
  have HL := hide (And.intro hl (And.intro hc1 (And.intro hc2 hsz)))
  clear hl hc1 hc2 hsz
  go_enter Tryd.func6, Tryd.ntmps6
  go_wp2_with fail
  refine (Tryd.strings_ReplaceAll s ⟨#[13, 10]⟩ ⟨#[10]⟩ m _ (by omega) hm (by decide) (by rw [one_size]; have := HL.out.2.1; omega)).mono ?_
  rintro e w1 ⟨rfl, hb1⟩
  have hm1 : w1.cell? ⟨0, 0, none⟩ = some (.int .i64 m) := (hb1.cell (p := ⟨0, 0, none⟩) h0).trans hm
  have HB := hide hb1
  clear hb1
  go_wp2_with fail
  refine (Tryd.strings_ReplaceAll _ ⟨#[13]⟩ ⟨#[10]⟩ m _ (by have := HL.out.2.2.2; exact Nat.lt_of_le_of_lt this (by omega)) hm1 (by decide) (by have h1 := HL.out.2.2.1; have h2 := HL.out.2.2.2; exact Nat.le_trans (Nat.add_le_add h2 (Nat.mul_le_mul_right _ h1)) (by rw [one_size]; omega))).mono ?_
  rintro e w2 ⟨rfl, hb2⟩
  go_wp2
  go_ret
  exact ⟨by rw [← HE.out]; rfl, HB.out.trans (hb2.mono HB.out.size)⟩
end Go.Proofs.YteoncponebmnbacDoor
