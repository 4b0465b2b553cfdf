/-
  Contracts: what the specification's and the program's Runes answer at every text of at most 1048576 bytes; nothing that was there is written.
-/
import Derived.Test.YthcggdjkfebemaaGreatDoorB4
import Derived.Test.YthcggdjkfebemaaGreatDoorB1
import Derived.Laws.OwnMore
import Derived.Lib.OthersKept
import Derived.Lib.IndexBytes
import Derived.Laws.RangeAny
import Derived.WalkSmall
import Derived.OwnWalk
namespace Go.Proofs.YthcggdjkfebemaaGreatDoor
open Go.RowKit
set_option linter.unusedVariables false
set_option linter.unusedSimpArgs false

/-- The characters of a text, if it is not too long and is in UTF-8. -/
def rns (s : ByteArray) : Option (List Int) := if s.size ≤ 20000 then runesL s.data.toList else none
def outL (o : Option (List Int)) : List Int := o.getD []
theorem own_shape {w : World} {B : Nat} {e : TypeId} {v : Value} {n : Nat} {xs : List Value} (h : w.ownsRow B e 1 v n xs) : ∃ ad cap, v = .slice ad n cap := by
  rcases h.2 with ⟨rfl, rfl⟩ | ⟨g, cap, cur, rfl, _⟩
  · exact ⟨_, _, rfl⟩
  · exact ⟨_, _, rfl⟩
theorem below_step' {w wr w2 : World} {o : Obj} {e : TypeId} {ad : Option Addr} {n c : Nat} {xs : List Value} (hb : Below w.heap.size w wr) (hown : wr.ownsRow w.heap.size e 1 (.slice ad n c) n xs)
    (hg : (wr.alloc o).grownBy w2 (Value.slice ad n c).ownBlock) : Below w.heap.size w w2 := by
  have h2 : Below w.heap.size w (wr.alloc o) := hb.alloc hb.size o
  exact h2.grown hg h2.size (fun k hk => (hown.lt k hk).1)
theorem one_new (w : World) (v : Value) (t : TypeId) (j : Nat) (u : Value) (hj : [v][j]? = some u) : (w.alloc (.cells #[v] t)).cell? ((⟨w.heap.size, 0, none⟩ : Addr).add j) = some u := by
  have h0 : j = 0 := by
    rcases Nat.eq_zero_or_pos j with h | h
    · exact h
    · rw [List.getElem?_eq_none (by simp; omega)] at hj; simp at hj
  subst h0
  simp at hj
  subst hj
  simp [Addr.add]
theorem one_list (k : IntKind) (n : Int) : ∀ u ∈ [Value.int k n], u.oneCell' = true := by
  intro u hu
  simp at hu
  subst hu
  rfl

/-- The round's relation of the specification's reader: 'cur' is what is left of the text. -/
def RnRel (s cur : ByteArray) (w wr : World) (acc : List Int) (ad : Option Addr) (c : Nat) : Prop :=
  wr.ownsRow w.heap.size 2 1 (.slice ad acc.length c) acc.length (acc.map (Value.int .i64)) ∧ Below w.heap.size w wr ∧
    runesL s.data.toList = (runesL cur.data.toList).map (acc ++ ·) ∧ acc.length + cur.size ≤ s.size ∧ cur.size ≤ s.size

theorem rn_start (s : ByteArray) (w : World) : RnRel s s w (w.alloc (.cells #[] 2)) [] (some ⟨w.heap.size, 0, none⟩) 0 :=
  ⟨World.ownsRow_made (base := w.heap.size) (e := 2) (size := 1) w #[] 0 (Nat.le_refl _) (Nat.zero_le _) rfl, (Below.refl _ _).alloc (Nat.le_refl _) _, by simp, by simp, Nat.le_refl _⟩
theorem ne_nil {s : ByteArray} (h : 0 < s.size) : s.data.toList ≠ [] := by
  intro e
  have := congrArg List.length e
  rw [Array.length_toList] at this
  exact absurd h (by show ¬ 0 < s.data.size; rw [this]; simp)
theorem piece_data (s : ByteArray) (a : Nat) : (s.extract a s.size).data.toList = s.data.toList.drop a := Lib.extract_to_end s a
theorem rn_none {s cur : ByteArray} {w wr : World} {acc : List Int} {ad : Option Addr} {c : Nat} (h : RnRel s cur w wr acc ad c) (h0 : 0 < cur.size) (hz : (rn cur).2 = 0) : runesL s.data.toList = none := by
  have hd : Lib.decodeL cur.data.toList = (65533, 1) := by
    by_cases e : Lib.decodeL cur.data.toList = (65533, 1)
    · exact e
    · have hw := Lib.decodeL_width cur.data.toList
      rw [rn, rnF, if_neg e] at hz
      simp at hz
      omega
  rw [h.2.2.1, runesL_bad (ne_nil h0) hd]; rfl
theorem rn_next {s cur : ByteArray} {w wr w2 : World} {acc : List Int} {ad ad2 : Option Addr} {c c2 : Nat} {o : Obj} {r k : Int} (h : RnRel s cur w wr acc ad c) (h0 : 0 < cur.size) (hr : (rn cur).1 = r) (hk : (rn cur).2 = k) (hz : k ≠ 0)
    (hown : w2.ownsRow w.heap.size 2 1 (.slice ad2 (acc.length + 1) c2) (acc.length + 1) (acc.map (Value.int .i64) ++ [.int .i64 r])) (hgr : (wr.alloc o).grownBy w2 (Value.slice ad acc.length c).ownBlock) :
    RnRel s (cur.extract k.toNat cur.size) w w2 (acc ++ [r]) ad2 c2 := by
  obtain ⟨h1, h2, h3, h4, h5⟩ := h
  have hne : Lib.decodeL cur.data.toList ≠ (65533, 1) := fun e => by rw [rn, rnF, if_pos e] at hk; exact hz hk.symm
  have hw := Lib.decodeL_width cur.data.toList
  have hl := Lib.decodeL_le cur.data.toList (ne_nil h0)
  rw [Array.length_toList] at hl
  rw [rn, rnF, if_neg hne] at hr hk
  have ek : k.toNat = (Lib.decodeL cur.data.toList).2 := by rw [← hk]; simp
  have hsz : (cur.extract k.toNat cur.size).size = cur.size - (Lib.decodeL cur.data.toList).2 := by rw [ByteArray.size_extract, ek]; omega
  have hl' : (Lib.decodeL cur.data.toList).2 ≤ cur.size := hl
  refine ⟨?_, below_step' h2 h1 hgr, ?_, ?_, ?_⟩
  · rw [show (acc ++ [r]).length = acc.length + 1 by simp, show (acc ++ [r]).map (Value.int .i64) = acc.map (Value.int .i64) ++ [.int .i64 r] by simp]
    exact hown
  · rw [h3, runesL_step (ne_nil h0) hne, piece_data, ek, ← hr]
    cases runesL (cur.data.toList.drop (Lib.decodeL cur.data.toList).2) <;> simp
  · rw [hsz]; simp; omega
  · rw [hsz]; omega
theorem rn_end {s cur : ByteArray} {w wr : World} {acc : List Int} {ad : Option Addr} {c : Nat} (h : RnRel s cur w wr acc ad c) (h0 : cur.size = 0) : runesL s.data.toList = some acc := by
  have : cur.data.toList = [] := by
    apply List.length_eq_zero_iff.1
    rw [Array.length_toList]; exact h0
  rw [h.2.2.1, this, runesL_nil]; simp
theorem rn_pos {s : ByteArray} (h : 0 < s.size) : 0 ≤ (rn s).2 ∧ (rn s).2 ≤ s.size ∧ 0 ≤ (rn s).1 ∧ (rn s).1 ≤ 1114111 := by
  have hl := Lib.decodeL_le s.data.toList (ne_nil h)
  have hr := Lib.decodeL_rune s.data.toList
  rw [Array.length_toList] at hl
  have hl' : (Lib.decodeL s.data.toList).2 ≤ s.size := hl
  rw [rn, rnF]
  split
  · simp
  · simp; omega

def strSize : Value → Nat | .string s => s.size | _ => 0
theorem is_empty {s : ByteArray} (h : s.size = 0) : s.toList.isEmpty = true := by
  rw [Lib.toList_data, List.isEmpty_iff]
  apply List.length_eq_zero_iff.1
  rw [Array.length_toList]; exact h
theorem s_rune_rk (s : ByteArray) (r k : Int) (w : World) (hs : s.size ≤ 1048576) (h0 : 0 < s.size) (hr : (rn s).1 = r) (hk : (rn s).2 = k) :
    Calls Tryz.prog 89 #[.string s] w fun e w' => e = .returned (.tuple #[.int .i64 r, .int .i64 k]) ∧ w' = w := by
  rw [← hr, ← hk]; exact s_rune s w hs h0
theorem rns_long {s : ByteArray} (h : ¬ s.size ≤ 20000) : rns s = none := by rw [rns, if_neg h]
theorem rns_short {s : ByteArray} (h : s.size ≤ 20000) : rns s = runesL s.data.toList := by rw [rns, if_pos h]
/-- What Runes is to answer: the characters in new memory, and that there are such; or nil and false. -/
def Answer (s : ByteArray) (w : World) (e : Ending) (w' : World) : Prop :=
  ∃ ad c, e = .returned (.tuple #[.slice ad (outL (rns s)).length c, .bool (rns s).isSome]) ∧ w'.ownsRow w.heap.size 2 1 (.slice ad (outL (rns s)).length c) (outL (rns s)).length ((outL (rns s)).map (Value.int .i64)) ∧ Below w.heap.size w w'
theorem answer_none {s : ByteArray} {w w' : World} (h : rns s = none) (hb : Below w.heap.size w w') : Answer s w (.returned (.tuple #[.slice none 0 0, .bool false])) w' := by
  refine ⟨none, 0, ?_, ?_, hb⟩
  · rw [h]; rfl
  · rw [h]; exact World.ownsRow_nil _ _ _ _
theorem answer_some {s : ByteArray} {w w' : World} {acc : List Int} {ad : Option Addr} {c : Nat} (h : rns s = some acc) (ho : w'.ownsRow w.heap.size 2 1 (.slice ad acc.length c) acc.length (acc.map (Value.int .i64))) (hb : Below w.heap.size w w') :
    Answer s w (.returned (.tuple #[.slice ad acc.length c, .bool true])) w' := by
  refine ⟨ad, c, ?_, ?_, hb⟩
  · rw [h]; rfl
  · rw [h]; exact ho

set_option maxHeartbeats 1000000 in
theorem s_runes (s : ByteArray) (w : World) (hs : s.size ≤ 1048576) :
    Calls Tryz.prog 63 #[.string s] w (Answer s w) := by
  by_cases hlong : s.size ≤ 20000
  · have hl : ¬ (20000 : Int) < (s.size : Int) := by omega
    obtain ⟨i0, hi, hz0, hz1, hz2⟩ := info_parts info64
    have HS := hide (rn_start s w)
    have HRS := hide (rns_short hlong)
    go_enter Tryz.func63, Tryz.ntmps63
    go_wp2
    go_loopw [0, 4] (fun t v wr => ∃ (cur : ByteArray) (acc : List Int) (ad : Option Addr) (c : Nat), t = .string cur ∧ v = .slice ad acc.length c ∧ RnRel s cur w wr acc ad c) (fun t _ _ => strSize t)
    case atStart => exact ⟨s, [], _, _, rfl, rfl, HS.out⟩
    case round =>
      obtain ⟨cur, acc, ad, c, rfl, rfl, hrel⟩ := hrel
      have HR := hide hrel
      have hal := hrel.2.2.2.1
      have hcs := hrel.2.2.2.2
      have hsz := hrel.2.1.size
      clear hrel
      by_cases h0 : 0 < cur.size
      · have hem := not_empty h0
        obtain ⟨p1, p2, p3, p4⟩ := rn_pos h0
        obtain ⟨r, hr⟩ : ∃ r, (rn cur).1 = r := ⟨_, rfl⟩
        obtain ⟨k, hk⟩ : ∃ k, (rn cur).2 = k := ⟨_, rfl⟩
        rw [hr] at p3 p4
        rw [hk] at p1 p2
        have HRr := hide hr
        have HKk := hide hk
        clear hr hk
        by_cases hk0 : k = 0
        · subst hk0
          go_wp2_with (go_at_call 89; refine (s_rune_rk cur r 0 _ (by omega) h0 HRr.out HKk.out).mono ?_; rintro e w' ⟨rfl, rfl⟩)
          go_ret2
          exact answer_none (by rw [HRS.out]; exact rn_none HR.out h0 HKk.out) HR.out.2.1
        · have hkb : (k == 0) = false := by simpa using hk0
          have HK0 := hide hk0
          clear hk0
          go_wp2_with (first | (go_at_call 89; refine (s_rune_rk cur r k _ (by omega) h0 HRr.out HKk.out).mono ?_; rintro e w' ⟨rfl, rfl⟩) | (at_builtin; refine wpList_append_own _ rfl (.tmp 20) (.tmp 22) 77 rfl w.heap.size 2 i0 (.int .i64 0) 1 8 Tryz.underlying77 hi hz0 hz1 hz2 rfl (by decide) _ _ _ rfl (HR.out.1.alloc _) ⟨_, 0, none⟩ 1 1 [.int .i64 r] rfl rfl (fun j u hj => one_new _ _ _ j u hj) (one_list _ _) (by unfold maxLen; omega) (by omega) (by simp; omega) ?_; intro v2 w2 hown2 hgrow2 _; obtain ⟨ad2, c2, hv2⟩ := own_shape hown2; rw [hv2] at hown2 ⊢; clear hv2; have P2 := hide (rn_next HR.out h0 HRr.out HKk.out HK0.out hown2 hgrow2); clear hown2 hgrow2))
          go_roundw
          case rel => exact ⟨_, acc ++ [r], ad2, c2, rfl, by simp, P2.out⟩
          case measure =>
            have h1 := HK0.out
            have h2 : 0 < k := by omega
            simp [strSize, ByteArray.size_extract]
            omega
      · have hz : cur.size = 0 := by omega
        have hem := is_empty hz
        go_wp2
        go_ret2
        exact answer_some (by rw [HRS.out]; exact rn_end HR.out hz) HR.out.1 HR.out.2.1
  · have hl : (20000 : Int) < (s.size : Int) := by omega
    go_enter Tryz.func63, Tryz.ntmps63
    go_wp2
    go_ret2
    exact answer_none (rns_long hlong) (Below.refl _ _)

/-- The round's relation of the program's range over the text: the iterator lies in block 'K' and stands at 'pos'. -/
def ItRel (s : ByteArray) (K : Nat) (w wr : World) (pos : Nat) (acc : List Int) (ad : Option Addr) (c : Nat) : Prop :=
  wr.heap[K]? = some (.stringIter s pos) ∧ wr.ownsRow (K + 1) 2 1 (.slice ad acc.length c) acc.length (acc.map (Value.int .i64)) ∧ Below w.heap.size w wr ∧
    runesL s.data.toList = (runesL (s.data.toList.drop pos)).map (acc ++ ·) ∧ acc.length ≤ pos ∧ pos ≤ s.size ∧ (runesL (s.data.toList.drop pos)).isSome = true ∧ w.heap.size ≤ K ∧ K < wr.heap.size
theorem it_start {s : ByteArray} {w w1 : World} (hb : Below w.heap.size w w1) (hv : (runesL s.data.toList).isSome = true) : ItRel s w1.heap.size w (w1.iter s 0) 0 [] none 0 := by
  have hsz : (w1.iter s 0).heap.size = w1.heap.size + 1 := by simp [World.iter]
  refine ⟨World.iter_heap w1 s 0, World.ownsRow_nil _ _ _ _, hb.alloc hb.size _, by simp, Nat.zero_le _, Nat.zero_le _, hv, hb.size, by omega⟩
theorem drop_ne {s : ByteArray} {pos : Nat} (h : pos < s.size) : s.data.toList.drop pos ≠ [] := by
  intro e
  have := congrArg List.length e
  rw [List.length_drop, Array.length_toList] at this
  have h' : pos < s.data.size := h
  simp at this
  omega
theorem it_good {s : ByteArray} {K : Nat} {w wr : World} {pos : Nat} {acc : List Int} {ad : Option Addr} {c : Nat} (h : ItRel s K w wr pos acc ad c) (hp : pos < s.size) : Utf8.decode s pos ≠ (65533, 1) ∧ pos + (Utf8.decode s pos).2 ≤ s.size ∧ 1 ≤ (Utf8.decode s pos).2 ∧ (Utf8.decode s pos).1 ≤ 1114111 := by
  obtain ⟨_, _, _, _, _, _, hv, _, _⟩ := h
  have hne := drop_ne hp
  rw [← Lib.decodeL_drop]
  have hw := Lib.decodeL_width (s.data.toList.drop pos)
  have hl := Lib.decodeL_le _ hne
  have hr := Lib.decodeL_rune (s.data.toList.drop pos)
  rw [List.length_drop, Array.length_toList] at hl
  have hp' : pos < s.data.size := hp
  refine ⟨fun e => (by rw [runesL_bad hne e] at hv; cases hv), ?_, hw, hr⟩
  show pos + _ ≤ s.data.size
  omega
theorem it_moved {s : ByteArray} {K : Nat} {w wr : World} {pos : Nat} {acc : List Int} {ad : Option Addr} {c : Nat} (h : ItRel s K w wr pos acc ad c) (p' : Nat) :
    (wr.iterAt K s p').heap[K]? = some (.stringIter s p') ∧ (wr.iterAt K s p').ownsRow (K + 1) 2 1 (.slice ad acc.length c) acc.length (acc.map (Value.int .i64)) ∧ Below w.heap.size w (wr.iterAt K s p') ∧ (wr.iterAt K s p').heap.size = wr.heap.size :=
  ⟨Lib.iterAt_heap wr K s pos p' h.1, ownsRow_iterAt h.2.1 (Nat.lt_succ_self K) s p', Lib.below_iterAt h.2.2.1 h.2.2.2.2.2.2.2.1 s p', Lib.iterAt_size wr K s p'⟩
theorem it_next {s : ByteArray} {K : Nat} {w wr wi w2 : World} {pos : Nat} {acc : List Int} {ad ad2 : Option Addr} {c c2 : Nat} {o : Obj} {r k : Nat} (h : ItRel s K w wr pos acc ad c) (hp : pos < s.size) (hr : Utf8.decode s pos = (r, k)) (hwi : wr.iterAt K s (pos + k) = wi)
    (hown : w2.ownsRow (K + 1) 2 1 (.slice ad2 (acc.length + 1) c2) (acc.length + 1) (acc.map (Value.int .i64) ++ [.int .i64 (r : Int)])) (hgr : (wi.alloc o).grownBy w2 (Value.slice ad acc.length c).ownBlock) :
    ItRel s K w w2 (pos + k) (acc ++ [(r : Int)]) ad2 c2 := by
  obtain ⟨m1, m2, m3, m4⟩ := it_moved h (pos + k)
  obtain ⟨g1, g2, g3, g4⟩ := it_good h hp
  obtain ⟨h1, h2, h3, h4, h5, h6, h7, h8, h9⟩ := h
  rw [hwi] at m1 m2 m3 m4
  rw [hr] at g1 g2 g3 g4
  have hne := drop_ne hp
  have hd : Lib.decodeL (s.data.toList.drop pos) = (r, k) := by rw [Lib.decodeL_drop, hr]
  have hstep := runesL_step hne (by rw [hd]; exact g1)
  rw [hd, List.drop_drop] at hstep
  have hba : Below w.heap.size w (wi.alloc o) := m3.alloc (by omega) o
  have hasz : (wi.alloc o).heap.size = wi.heap.size + 1 := by simp
  have hlt2 : ∀ q, (Value.slice ad acc.length c).ownBlock = some q → K + 1 ≤ q := fun q hq => (m2.lt q hq).1
  have hKa : (wi.alloc o).heap[K]? = some (.stringIter s (pos + k)) := by rw [Below.heap_alloc wi o K (by omega)]; exact m1
  refine ⟨?_, ?_, hba.grown hgr (by omega) (fun q hq => by have := hlt2 q hq; omega), ?_, ?_, g2, ?_, h8, ?_⟩
  · rw [hgr.block K (by omega) (fun e => by have := hlt2 K e.symm; omega)]; exact hKa
  · rw [show (acc ++ [(r : Int)]).length = acc.length + 1 by simp, show (acc ++ [(r : Int)]).map (Value.int .i64) = acc.map (Value.int .i64) ++ [.int .i64 (r : Int)] by simp]
    exact hown
  · rw [h4, hstep]
    cases runesL (s.data.toList.drop (pos + k)) <;> simp
  · have g3' : 1 ≤ k := g3
    simp; omega
  · rw [hstep] at h7
    cases hh : runesL (s.data.toList.drop (pos + k)) with
    | none => rw [hh] at h7; cases h7
    | some x => rfl
  · have := hgr.size; omega
theorem it_end {s : ByteArray} {K : Nat} {w wr : World} {pos : Nat} {acc : List Int} {ad : Option Addr} {c : Nat} (h : ItRel s K w wr pos acc ad c) (hp : ¬ pos < s.size) : runesL s.data.toList = some acc := by
  have : s.data.toList.drop pos = [] := List.drop_eq_nil_of_le (by rw [Array.length_toList]; show s.size ≤ pos; omega)
  rw [h.2.2.2.1, this, runesL_nil]; simp
theorem own_lower {w : World} {B B' : Nat} {e : TypeId} {v : Value} {n : Nat} {xs : List Value} (h : w.ownsRow B e 1 v n xs) (hB : B' ≤ B) : w.ownsRow B' e 1 v n xs := by
  refine ⟨h.1, ?_⟩
  rcases h.2 with hn | ⟨g, cap, cur, hv, hb, rest⟩
  · exact .inl hn
  · exact .inr ⟨g, cap, cur, hv, by omega, rest⟩
def Tabs (w : World) : Prop := Lib.Utf8Tabs (Tryz.laysValid_ren.g 3) (Tryz.laysValid_ren.g 4) w

set_option maxHeartbeats 1000000 in
theorem i_runes (s : ByteArray) (w : World) (hs : s.size ≤ 1048576) (hT : Tabs w) :
    Calls Tryz.prog 52 #[.string s] w (Answer s w) := by
  have hs63 : s.size ≤ 9223372036854775807 := by omega
  have cV : Calls Tryz.prog 77 #[.string s] w _ := Any.utf8_ValidString Tryz.laysValid s w hs63 hT
  rw [runesL_valid s.data.toList.length s.data.toList (Nat.le_refl _)] at cV
  by_cases hlong : s.size ≤ 20000
  · have hl : ¬ (20000 : Int) < (s.size : Int) := by omega
    have HRS := hide (rns_short hlong)
    cases hV : (runesL s.data.toList).isSome
    · rw [hV] at cV
      have HN := hide (show rns s = none by rw [HRS.out]; cases hh : runesL s.data.toList with | none => rfl | some x => rw [hh] at hV; cases hV)
      clear hV
      go_enter Tryz.func52, Tryz.ntmps52
      go_wp2_with (go_at_call 77; refine cV.mono ?_; rintro e w1 ⟨rfl, hb1⟩)
      go_ret2
      exact answer_none HN.out hb1
    · rw [hV] at cV
      obtain ⟨i0, hi, hz0, hz1, hz2⟩ := info_parts info64
      have HV := hide hV
      clear hV
      go_enter Tryz.func52, Tryz.ntmps52
      go_wp2_with (go_at_call 77; refine cV.mono ?_; rintro e w1 ⟨rfl, hb1⟩; have HS := hide (it_start hb1 HV.out); clear hb1)
      go_loopw [4] (fun v wr => ∃ (pos : Nat) (acc : List Int) (ad : Option Addr) (c : Nat), v = .slice ad acc.length c ∧ ItRel s w1.heap.size w wr pos acc ad c) (fun _ wr => s.size - wr.iterPos w1.heap.size)
      case atStart => exact ⟨0, [], none, 0, rfl, HS.out⟩
      case round =>
        obtain ⟨pos, acc, ad, c, rfl, hrel⟩ := hrel
        have HR := hide hrel
        have hit := hrel.1
        have hal := hrel.2.2.2.2.1
        have hps := hrel.2.2.2.2.2.1
        have hwK := hrel.2.2.2.2.2.2.2.1
        have hKr := hrel.2.2.2.2.2.2.2.2
        have hip := hide (iterPos_of hit)
        clear hrel
        by_cases hp : pos < s.size
        · obtain ⟨g1, g2, g3, g4⟩ := it_good HR.out hp
          have hnx := fun ty => Lib.run_next_any_at (P := Tryz.prog) wr w1.heap.size s pos ty hit hp
          obtain ⟨r, k, hrk⟩ : ∃ r k, Utf8.decode s pos = (r, k) := ⟨_, _, rfl⟩
          obtain ⟨wi, hwi⟩ : ∃ wi, wr.iterAt w1.heap.size s (pos + k) = wi := ⟨_, rfl⟩
          obtain ⟨m1, m2, m3, m4⟩ := it_moved HR.out (pos + k)
          simp only [hrk, hwi] at hnx
          rw [hwi] at m1 m2 m3 m4
          rw [hrk] at g1 g2 g3 g4
          simp only at g2 g3 g4
          have M2 := hide m2
          have hwsz : w1.heap.size < wi.heap.size := by omega
          have HRK := hide hrk
          have HWI := hide hwi
          have G2 := hide g2
          have G3 := hide g3
          have g5 : (r : Int) ≤ 1114111 := by omega
          clear hit m1 m2 m3 m4 hrk hwi g1 g2 g3
          go_wp2_with (at_builtin; refine wpList_append_own _ rfl (.tmp 20) (.tmp 23) 77 rfl (w1.heap.size + 1) 2 i0 (.int .i64 0) 1 8 Tryz.underlying77 hi hz0 hz1 hz2 rfl (by decide) _ _ _ rfl (M2.out.alloc _) ⟨_, 0, none⟩ 1 1 [.int .i64 (r : Int)] rfl rfl (fun j u hj => one_new _ _ _ j u hj) (one_list _ _) (by unfold maxLen; omega) (by omega) (by simp; omega) ?_; intro v2 w2 hown2 hgrow2 _; obtain ⟨ad2, c2, hv2⟩ := own_shape hown2; rw [hv2] at hown2 ⊢; clear hv2; have P2 := hide (it_next HR.out hp HRK.out HWI.out hown2 hgrow2); clear hown2 hgrow2)
          go_roundw
          case rel => exact ⟨pos + k, acc ++ [(r : Int)], ad2, c2, by simp, P2.out⟩
          case measure =>
            have e1 := iterPos_of P2.out.1
            have e2 := hip.out
            have e3 := G2.out
            have e4 := G3.out
            rw [e1, e2]
            omega
        · have hnx := fun ty => Lib.run_next_end_at (P := Tryz.prog) wr w1.heap.size s pos ty hit hp
          clear hit
          go_wp2
          go_ret2
          exact answer_some (by rw [HRS.out]; exact it_end HR.out hp) (own_lower HR.out.2.1 (by omega)) HR.out.2.2.1
  · have hl : (20000 : Int) < (s.size : Int) := by omega
    clear cV
    go_enter Tryz.func52, Tryz.ntmps52
    go_wp2
    go_ret2
    exact answer_none (rns_long hlong) (Below.refl _ _)
end Go.Proofs.YthcggdjkfebemaaGreatDoor
