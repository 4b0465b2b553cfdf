/-
  Texts put together: Own, DrawBytes.
-/
import Derived.Test.YtfohfljdgmlibaaW1
import Derived.Test.YtfohfljdgmlibaaChecked
import Derived.WalkKit
import Derived.WalkLawsBesides
import Derived.Below
import Derived.OwnWalk
import Derived.Laws.OwnMore
import Derived.Laws.BytesArg
import Derived.Laws.IdiomStrings
import Derived.Deep.Draws
import Derived.KernelRfl
import Derived.Test.YtfohfljdgmlibaaW11
/-
  Rows of bytes that the call itself owns: what is made of them as a text, what stays as it was.
-/
namespace Go.Proofs.Ytfohfljdgmlibaa
open Go.RowKit
set_option linter.unusedVariables false
set_option linter.unusedSimpArgs false

theorem info8 : (Try.prog.info? 5).map (fun i => (i.zero, i.size, i.bytes)) = some (some (.int .u8 0), 1, 1) := by kernel_rfl

/-- The bytes of the characters, if all are such and there are not too many. -/
theorem own_shape {w : World} {B : Nat} {e : TypeId} {v : Value} {n : Nat} {xs : List Value} (h : w.ownsRow B e 1 v n xs) : ∃ ad cap, v = .slice ad n cap := by
  rcases h.2 with ⟨rfl, rfl⟩ | ⟨g, cap, cur, rfl, _⟩
  · exact ⟨_, _, rfl⟩
  · exact ⟨_, _, rfl⟩
theorem grown_of_below {w w' : World} (h : Below w.heap.size w w') : w.grownBy w' none := ⟨h.os, h.tape, h.output, h.size, fun k hk _ => h.block k hk⟩
theorem own_below {w w' : World} {B : Nat} {e : TypeId} {v : Value} {n : Nat} {xs : List Value} (h : w.ownsRow B e 1 v n xs) (hb : Below w.heap.size w w') : w'.ownsRow B e 1 v n xs :=
  h.kept (grown_of_below hb) (by cases v.ownBlock <;> simp)

theorem conv_own {w : World} {B : Nat} {ad : Option Addr} {cap : Nat} {acc : List Int} (h : w.ownsRow B 5 1 (.slice ad acc.length cap) acc.length (acc.map (Value.int .u8))) :
    (convert 22 9 (.slice ad acc.length cap)).run Try.prog w = .ok (.string (strOfNums acc)) w := by
  rcases h.2 with ⟨h1, h2⟩ | ⟨g, cap', cur, h1, _⟩
  · simp only [Value.slice.injEq] at h1
    obtain ⟨rfl, h3, rfl⟩ := h1
    have : acc = [] := List.length_eq_zero_iff.1 h3
    subst this
    exact run_convert_bytes_nil w 22 5 Try.underlying22 Try.underlying5 _ _ 9 Try.underlying9
  · simp only [Value.slice.injEq] at h1
    obtain ⟨rfl, _, rfl⟩ := h1
    refine run_convert_bytes_arg w 22 5 Try.underlying22 Try.underlying5 g 0 acc.length cap acc rfl ?_ 9 Try.underlying9
    intro i hi
    rw [show (0 + i) = i by omega, h.cellAt i (by omega)]
    simp [List.getElem?_eq_getElem hi]

theorem below_step {w wr w1 w2 : World} {o : Obj} {e : TypeId} {ad : Option Addr} {n c : Nat} {xs : List Value} (hb : Below w.heap.size w wr) (hb1 : Below wr.heap.size wr w1) (hown : wr.ownsRow w.heap.size e 1 (.slice ad n c) n xs)
    (hg : (w1.alloc o).drew.grownBy w2 (Value.slice ad n c).ownBlock) : Below w.heap.size w w2 := by
  have h1 : Below w.heap.size w w1 := hb.trans (hb1.mono hb.size)
  have h2 : Below w.heap.size w (w1.alloc o).drew := (h1.alloc h1.size o).drew
  exact h2.grown hg h2.size (fun k hk => (hown.lt k hk).1)
theorem one_cells (xs : List Int) : ∀ u ∈ xs.map (Value.int .u8), u.oneCell' = true := by
  intro u hu
  obtain ⟨x, _, rfl⟩ := List.mem_map.1 hu
  rfl
theorem row_cells (w : World) (xs : List Int) (cap : Nat) (m : Nat × Nat) (hx : ∀ x ∈ xs, 0 ≤ x ∧ x ≤ 255) (j : Nat) (u : Value) (hj : (xs.map (Value.int .u8))[j]? = some u) :
    (w.alloc (.cells (bytesRow (strOfNums xs) cap) 5 m)).cell? ((⟨w.heap.size, 0, none⟩ : Addr).add j) = some u := by
  have hjl : j < xs.length := by
    rcases Nat.lt_or_ge j xs.length with h | h
    · exact h
    · rw [List.getElem?_eq_none (by simpa using h)] at hj; simp at hj
  have hplain : (⟨w.heap.size, 0, none⟩ : Addr).add j = ⟨w.heap.size, j, none⟩ := by unfold Addr.add; split <;> simp_all
  rw [hplain, cell_of_row _ w.heap.size j _ 5 m (heap_alloc_new w _)]
  rw [List.getElem?_map, List.getElem?_eq_getElem hjl] at hj
  simp only [Option.map_some, Option.some.injEq] at hj
  subst hj
  have hb := hx xs[j] (List.getElem_mem hjl)
  have e : ((UInt8.ofNat xs[j].toNat).toNat : Int) = xs[j] := by
    rw [UInt8.toNat_ofNat']; omega
  unfold bytesRow
  rw [Array.getElem?_append_left (by simp [strOfNums]; exact hjl)]
  simp [strOfNums, List.getElem?_eq_getElem hjl]
  omega

theorem below_step' {w wr w2 : World} {o : Obj} {e : TypeId} {ad : Option Addr} {n c : Nat} {xs : List Value} (hb : Below w.heap.size w wr) (hown : wr.ownsRow w.heap.size e 1 (.slice ad n c) n xs)
    (hg : (wr.alloc o).grownBy w2 (Value.slice ad n c).ownBlock) : Below w.heap.size w w2 := by
  have h2 : Below w.heap.size w (wr.alloc o) := hb.alloc hb.size o
  exact h2.grown hg h2.size (fun k hk => (hown.lt k hk).1)
theorem own_size {w : World} {B g n c : Nat} {e : TypeId} {xs : List Value} (h : w.ownsRow B e 1 (.slice (some ⟨g, 0, none⟩) n c) n xs) : g < w.heap.size := (h.lt g rfl).2
theorem own_cells {w : World} {B g n c : Nat} {e : TypeId} {xs : List Int} (hx : xs.length = n) (h : w.ownsRow B e 1 (.slice (some ⟨g, 0, none⟩) n c) n (xs.map (Value.int .i64))) : ∀ j, j < n → w.cell? ⟨g, 0 + j, none⟩ = some (.int .i64 (xs[j]?.getD 0)) := by
  intro j hj
  rw [Nat.zero_add, h.cellAt j (by omega)]
  simp [List.getElem?_eq_getElem (show j < xs.length by omega)]
theorem below_drewN' {B : Nat} {a w : World} (h : Below B a w) (n : Nat) : Below B a (w.drewN n) := h.trans ⟨rfl, rfl, rfl, Nat.le_refl _, fun _ _ => rfl⟩
end Go.Proofs.Ytfohfljdgmlibaa

/-
  Contracts of the draws of a few bytes, and of names with a colon or two.
-/
namespace Go.Proofs.Ytfohfljdgmlibaa
open Go.RowKit
set_option linter.unusedVariables false
set_option linter.unusedSimpArgs false

theorem own_draw {w w1 : World} {B G : Nat} {e : TypeId} {v : Value} {n : Nat} {xs : List Value} (h : w.ownsRow B e 1 v n xs) (hg : w.grownBy w1 (some G)) (hB : G < B) : w1.ownsRow B e 1 v n xs := by
  refine h.kept hg ?_
  cases hv : v.ownBlock with
  | none => exact .inl rfl
  | some k => exact .inr (fun e => by cases e; have := (h.lt G hv).1; omega)
theorem one_new8 (w : World) (v : Value) (j : Nat) (u : Value) (hj : [v][j]? = some u) : (w.alloc (.cells #[v] 5)).cell? ((⟨w.heap.size, 0, none⟩ : Addr).add j) = some u := by
  have h0 : j = 0 := by
    rcases Nat.eq_zero_or_pos j with h | h
    · exact h
    · rw [List.getElem?_eq_none (by simp; omega)] at hj; simp at hj
  subst h0
  simp at hj
  subst hj
  simp [Addr.add]
theorem one_list8 (n : Int) : ∀ u ∈ [Value.int .u8 n], u.oneCell' = true := by
  intro u hu
  simp at hu
  subst hu
  rfl
/-- The round's relation: the bytes so far in memory of the call's own, the reader behind its draws. -/
def ByRel (G : Nat) (a : Option Addr) (n cap : Nat) (zs : List Int) (w wr : World) (acc : List Int) (ad : Option Addr) (c : Nat) : Prop :=
  wr.ownsRow w.heap.size 5 1 (.slice ad acc.length c) acc.length (acc.map (Value.int .u8)) ∧ RdAt wr G a n cap zs ∧ w.grownBy wr (some G)
theorem by_put {G : Nat} {a : Option Addr} {n cap : Nat} {zs : List Int} {w wr w1 w2 : World} {acc : List Int} {ad ad2 : Option Addr} {c c2 : Nat} {o : Obj} {x : Int} (hG : G < w.heap.size) (h : ByRel G a n cap zs w wr acc ad c) (hd : Drew G a n cap zs wr w1)
    (hown : w2.ownsRow w.heap.size 5 1 (.slice ad2 (acc.length + 1) c2) (acc.length + 1) (acc.map (Value.int .u8) ++ [.int .u8 x])) (hgr : (w1.alloc o).grownBy w2 (Value.slice ad acc.length c).ownBlock) :
    ByRel G a n cap zs w w2 (acc ++ [x]) ad2 c2 := by
  obtain ⟨h1, h2, h3⟩ := h
  have hb : ∀ k, (Value.slice ad acc.length c).ownBlock = some k → w.heap.size ≤ k := fun k hk => (h1.lt k hk).1
  refine ⟨?_, ?_, ?_⟩
  · rw [show (acc ++ [x]).length = acc.length + 1 by simp, show (acc ++ [x]).map (Value.int .u8) = acc.map (Value.int .u8) ++ [.int .u8 x] by simp]
    exact hown
  · exact rd_grown (rd_alloc hd.1 o) hgr (fun k hk => by have := hb k hk; omega)
  · have h4 : w.grownBy (w1.alloc o) (some G) := grown_trans (grown_trans h3 hd.2) (World.grownBy_alloc w1 o (some G))
    refine ⟨hgr.os.trans h4.os, hgr.tape.trans h4.tape, hgr.output.trans h4.output, Nat.le_trans h4.size hgr.size, fun k hk hne => ?_⟩
    rw [hgr.block k (Nat.lt_of_lt_of_le hk h4.size) (fun e => by have := hb k e.symm; omega)]
    exact h4.block k hk hne

set_option maxHeartbeats 1000000 in
theorem d_bytes (G : Nat) (a : Option Addr) (n cap : Nat) (zs : List Int) (m : Nat) (w : World) (hm : 1 ≤ m) (hm' : m ≤ 200) (h : RdAt w G a n cap zs) :
    Calls Try.prog 60 #[.pointer (some ⟨G, 0, none⟩), .int .i64 m] w fun e w' => ∃ s : ByteArray, s.size ≤ m ∧ e = .returned (.string s) ∧ Drew G a n cap zs w w' := by
  obtain ⟨i0, hi, hz0, hz1, hz2⟩ := info_parts info8
  have HH := hide h
  have hG := rd_lt h
  clear h
  go_enter Try.func60, Try.ntmps60
  go_wp2_with fail
  refine (d_below G a n cap zs ((m : Int) + 1) _ (by omega) (by omega) (rd_alloc HH.out _)).mono ?_
  rintro e w1 ⟨y, hy0, hy1, rfl, hd⟩
  have hstart : ByRel G a n cap zs w w1 [] (some ⟨w.heap.size, 0, none⟩) 0 :=
    ⟨own_draw (World.ownsRow_made (base := w.heap.size) (e := 5) (size := 1) w #[] 0 (Nat.le_refl _) (Nat.zero_le _) rfl) hd.2 hG, hd.1, (drew_alloc _ hd).2⟩
  have HS := hide hstart
  clear hd hstart
  obtain ⟨k0, rfl⟩ : ∃ k0 : Nat, y = k0 := ⟨y.toNat, by omega⟩
  go_wp2
  go_loopw [5, 6] (fun v i wr => ∃ (k : Nat) (acc : List Int) (ad : Option Addr) (c : Nat), i = .int .i64 k ∧ acc.length + k ≤ m ∧ v = .slice ad acc.length c ∧ ByRel G a n cap zs w wr acc ad c) (fun _ i _ => (intOf i).toNat)
  case atStart => exact ⟨k0, [], _, _, rfl, by simp; omega, rfl, HS.out⟩
  case round =>
    obtain ⟨k, acc, ad, c, rfl, hk, rfl, hrel⟩ := hrel
    have HR := hide hrel
    have hwsz := hrel.2.2.size
    by_cases hpos : 0 < k
    · clear hrel
      have hp' : (0 : Int) < (k : Int) := by omega
      go_wp2_with fail
      refine (d_below G a n cap zs 256 _ (by omega) (by omega) HR.out.2.1).mono ?_
      rintro e w2 ⟨x, hx0, hx1, rfl, hd2⟩
      have OW := hide (own_draw HR.out.1 hd2.2 hG)
      have HD2 := hide hd2
      have hw2 := hd2.2.size
      have hx2 : x ≤ 255 := by omega
      clear hd2
      go_wp2_with (at_builtin; refine wpList_append_own _ rfl (.tmp 16) (.tmp 20) 22 rfl w.heap.size 5 i0 (.int .u8 0) 1 1 Try.underlying22 hi hz0 hz1 hz2 rfl (by decide) _ _ _ rfl (OW.out.alloc _) ⟨w2.heap.size, 0, none⟩ 1 1 [.int .u8 x] rfl rfl (fun j u hj => one_new8 w2 _ j u hj) (one_list8 _) (by unfold maxLen; omega) (by omega) (by simp; omega) ?_; intro v3 w3 hown3 hgrow3 _; obtain ⟨ad3, c3, hv3⟩ := own_shape hown3; rw [hv3] at hown3 ⊢; clear hv3; have P3 := hide (by_put hG HR.out HD2.out hown3 hgrow3); clear hown3 hgrow3)
      go_roundw
      case rel => exact ⟨k - 1, acc ++ [x], ad3, c3, congrArg (Value.int .i64) (by omega), by simp; omega, by simp, P3.out⟩
      case measure => simp [intOf]; omega
    · have hz : k = 0 := by omega
      subst hz
      have hcv := conv_own hrel.1
      clear hrel
      go_wp2
      go_ret
      exact ⟨strOfNums acc, by rw [strOfNums_size]; omega, rfl, HR.out.2.1, HR.out.2.2⟩
end Go.Proofs.Ytfohfljdgmlibaa
