/-
  Texts put together: AppAny, Shelf, TnC.
-/
import Derived.Test.YtfohfljdgmlibaaW2
import Derived.Deep.AppendLies
import Derived.Deep.Upon
import Derived.Shelf.Strings.Builder1
import Derived.Shelf.Strings.Builder2
import Derived.Shelf.Small.Wraps
import Derived.Shelf.Strings.Prefix
import Derived.Ground.SlgnProg
import Derived.Shelf.SlicesE.Clone
import Derived.Test.YtfohfljdgmlibaaProg
import Derived.Test.YtfohfljdgmlibaaW4
/-
  Plain facts: an append of anything that lies in memory, or of nothing (SpRows and SpA have them too, under other names).
-/
namespace Go.Proofs.Ytfohfljdgmlibaa
open Go.RowKit
set_option linter.unusedVariables false
set_option linter.unusedSimpArgs false
/-- An append, be there something to append or nothing. -/
theorem wp_append_src {P : Program} {w : World} {o : Oper} {a : Act} {K : Act → World → Prop} {Q : Exit → Act → World → Prop} (s x : Operand) (t : TypeId)
    (ho : o.op = .call { callee := .builtin .append, args := #[s, x], argTypes := #[t, t] })
    (base : Nat) (e : TypeId) (i : TypeInfo) (z : Value) (size bytes : Nat) (ht : P.underlying t = some (.slice e)) (hi : P.info? e = some i) (hz : i.zero = some z)
    (hsize : i.size = size) (hby : i.bytes = bytes) (hzs : z.cells.size = size) (hsz : 0 < size)
    (v : Value) (n : Nat) (xs : List Value) (hs : a.eval s = v) (hown : w.ownsRow base e size v n xs)
    (xa : Option Addr) (m c : Nat) (news : List Value) (hx : a.eval x = .slice xa m c) (hl : news.length = m * size) (hnews : 0 < m → ∃ ad, xa = some ad ∧ ∀ j u, news[j]? = some u → w.cell? (ad.add j) = some u) (h1 : ∀ u ∈ news, u.oneCell' = true)
    (h63 : n + m ≤ maxLen) (hbytes : (n + m) * bytes ≤ 140737488355328) (hbase : base ≤ w.heap.size)
    (h : ∀ a' c' w', w'.ownsRow base e size (.slice a' (n + m) c') (n + m) (xs ++ news) → w.grownBy w' v.ownBlock → K (a.put o.dst (.slice a' (n + m) c')) w') : o.wp P a w K Q := by
  by_cases hm : 0 < m
  · obtain ⟨ad, rfl, hnw⟩ := hnews hm
    exact wp_append_lies w s x t ho base e i z size bytes ht hi hz hsize hby hzs hsz v n xs hs hown ad m c news hx hl hnw h1 hm h63 hbytes hbase _ rfl (fun g cap w' k1 k2 _ _ => h _ _ w' k1 k2)
  · obtain rfl : m = 0 := by omega
    rw [Nat.zero_mul] at hl
    obtain rfl : news = [] := List.length_eq_zero_iff.1 hl
    have hv : ∃ a' c', v = .slice a' n c' ∧ n ≤ c' := by
      rcases hown.2 with ⟨rfl, rfl⟩ | ⟨g, cap, cur, rfl, _, _, hc, _⟩
      · exact ⟨none, 0, rfl, Nat.le_refl _⟩
      · exact ⟨_, cap, rfl, hc⟩
    obtain ⟨a', c', rfl, hc⟩ := hv
    have hsrc : Src P i.size t (.slice xa 0 c) 0 [] w := by
      cases xa with
      | none => exact Src.ofNil w ht c
      | some ad => exact Src.ofSlice w ht ad 0 c [] (by simp) (fun j u hj => by simp at hj) (fun u hu => by cases hu)
    have hr := run_append_nothing (P := P) w t t o.type e i ht hi a' n c' hc (.slice xa 0 c) hsrc
    unfold Oper.wp execOp
    simp only [ho, resolve, invoke, builtin, Sem.run_bind, Sem.run_pure, Result.andThen_ok, List.map_toArray, List.map_cons, List.map_nil, hs, hx, hr]
    exact h a' c' w (by rw [List.append_nil]; exact hown) ⟨rfl, rfl, rfl, Nat.le_refl _, fun _ _ _ => rfl⟩
/-- The same at a list of operations. -/
theorem wpList_append_src {P : Program} {w : World} {ops : Array Oper} {rest : List Oper} {o : Oper} {a : Act} {Q : Exit → Act → World → Prop} (hgd : o.guard = none) (s x : Operand) (t : TypeId)
    (ho : o.op = .call { callee := .builtin .append, args := #[s, x], argTypes := #[t, t] })
    (base : Nat) (e : TypeId) (i : TypeInfo) (z : Value) (size bytes : Nat) (ht : P.underlying t = some (.slice e)) (hi : P.info? e = some i) (hz : i.zero = some z)
    (hsize : i.size = size) (hby : i.bytes = bytes) (hzs : z.cells.size = size) (hsz : 0 < size)
    (v : Value) (n : Nat) (xs : List Value) (hs : a.eval s = v) (hown : w.ownsRow base e size v n xs)
    (xa : Option Addr) (m c : Nat) (news : List Value) (hx : a.eval x = .slice xa m c) (hl : news.length = m * size) (hnews : 0 < m → ∃ ad, xa = some ad ∧ ∀ j u, news[j]? = some u → w.cell? (ad.add j) = some u) (h1 : ∀ u ∈ news, u.oneCell' = true)
    (h63 : n + m ≤ maxLen) (hbytes : (n + m) * bytes ≤ 140737488355328) (hbase : base ≤ w.heap.size)
    (h : ∀ a' c' w', w'.ownsRow base e size (.slice a' (n + m) c') (n + m) (xs ++ news) → w.grownBy w' v.ownBlock → wpList P ops Q rest (a.put o.dst (.slice a' (n + m) c')) w') : wpList P ops Q (o :: rest) a w :=
  wpList_plain hgd fun _ hK => wp_append_src s x t ho base e i z size bytes ht hi hz hsize hby hzs hsz v n xs hs hown xa m c news hx hl hnews h1 h63 hbytes hbase fun a' c' w' h2 h3 => hK _ _ (h a' c' w' h2 h3)
/-- What an append reads of a row of numbers. -/
theorem row_src {w : World} {b off : Nat} {L : List Int} (h : ∀ j, j < L.length → w.cell? ⟨b, off + j, none⟩ = some (.int .i64 (L[j]?.getD 0))) : ∀ j u, (L.map (Value.int .i64))[j]? = some u → w.cell? ((⟨b, off, none⟩ : Addr).add j) = some u := by
  intro j u hu
  have hadd : (⟨b, off, none⟩ : Addr).add j = ⟨b, off + j, none⟩ := by unfold Addr.add; split <;> simp_all
  have hj : j < L.length := by
    rcases Nat.lt_or_ge j L.length with h' | h'
    · exact h'
    · rw [List.getElem?_eq_none (by rw [List.length_map]; exact h')] at hu; cases hu
  rw [hadd, h j hj]
  rw [List.getElem?_map, List.getElem?_eq_getElem hj] at hu
  rw [List.getElem?_eq_getElem hj]
  simpa using hu
theorem ints_one (L : List Int) : ∀ u ∈ L.map (Value.int .i64), u.oneCell' = true := by
  intro u hu
  obtain ⟨z, -, rfl⟩ := List.mem_map.1 hu
  rfl
end Go.Proofs.Ytfohfljdgmlibaa

/-
  Contracts of Go's own library at this program, laid by the shelf's plain mode: each is one application of a theorem of the library.
-/
namespace Go.Proofs
open Go.Shelf
def Try.laysSlE041_f42_ren : Go.Shelf.Ren := ⟨fun | 41 => 42 | n => n, fun | 22 => 44 | 23 => 2 | 4 => 4 | n => n, fun | n => n⟩
theorem Try.laysSlE041_f42 : Go.Proofs.SlLaysE0.n41 Try.prog Try.laysSlE041_f42_ren := {
  mixed := by kernel_rfl
  f41 := ⟨Try.f42.name, by decide, Try.func42.trans (congrArg some (by kernel_rfl))⟩
  t4 := Try.underlying4
  a4 := Try.isAgg4
  z4 := Try.sizeOf4
  v4 := Try.zeroValue4
  t22 := Try.underlying44
  a22 := Try.isAgg44
  z22 := Try.sizeOf44
  v22 := Try.zeroValue44 }
open Go.RowKit Go.Lib in
/-- slices.Clone: "Clone returns a copy of the slice. The elements are copied using assignment, so this is a shallow clone. The result may have additional unused capacity. The result preserves the nilness of s.": OF A SLICE THAT IS NOT nil IT RETURNS A SLICE THAT IS NOT nil, OF THE SAME CELLS, IN MEMORY OF THE CALL's OWN ('ownsRow': the how-to's 6f); below the heap's size at the call all is as it was. (LAID AT THE INSTANCE 'slices.Clone[[]int64,int64]': no walk: one application.) -/
theorem Try.slices_Clone (i0 : TypeInfo) (z : Value) (size bytes : Nat) (hi : Try.prog.info? 2 = some i0) (hz0 : i0.zero = some z) (hz1 : i0.size = size) (hz2 : i0.bytes = bytes) (hzs : z.cells.size = size) (hsz : 0 < size) (z23 : ∀ w, (Go.sizeOf 2).run Try.prog w = .ok size w) (b off n c : Nat) (news : List Value) (w : World) (hl : news.length = n * size) (hn : n ≤ maxLen) (hbig : n * bytes ≤ 140737488355328) (hc : ∀ j u, news[j]? = some u → w.cell? ⟨b, off + j, none⟩ = some u) (h1 : ∀ u ∈ news, u.oneCell' = true) :
    Calls Try.prog 42 #[.slice (some ⟨b, off, none⟩) n c] w fun e w' => ∃ v', e = .returned v' ∧ w'.ownsRow w.heap.size 2 size v' n news ∧ v' ≠ .slice none 0 0 ∧ Below w.heap.size w w' := AnyE.slices_Clone Try.laysSlE041_f42 i0 z size bytes hi hz0 hz1 hz2 hzs hsz z23 b off n c news w hl hn hbig hc h1
open Go.RowKit Go.Lib in
/-- The same at nil: nil comes back; the world is as it was; nothing is asked of the element's type. (LAID AT THE INSTANCE 'slices.Clone[[]int64,int64]': no walk: one application.) -/
theorem Try.slices_Clone_nil (n c : Nat) (w : World) :
    Calls Try.prog 42 #[.slice none n c] w fun e w' => e = .returned (.slice none 0 0) ∧ w' = w := AnyE.slices_Clone_nil Try.laysSlE041_f42 n c w
end Go.Proofs

/-
  Contracts: a copy of a row of numbers, and a row that is turned round where it lies (Go's own slices package).
-/
namespace Go.Proofs.Ytfohfljdgmlibaa
open Go.RowKit Go.Joins
set_option linter.unusedVariables false
set_option linter.unusedSimpArgs false
theorem rowAt_src {w : World} {a : Option Addr} {L : List Int} {B : Nat} (h : RowAt .i64 w a L B) (hp : 0 < L.length) : ∃ ad, a = some ad ∧ ∀ j u, (L.map (Value.int .i64))[j]? = some u → w.cell? (ad.add j) = some u := by
  obtain ⟨b, off, e, -, hc⟩ := h (fun e => by rw [e] at hp; simp at hp)
  exact ⟨_, e, row_src hc⟩
theorem i_clone (a : Option Addr) (n c : Nat) (L : List Int) (w : World) (hL : L.length = n) (hn : n ≤ 1000) (hr : RowAt .i64 w a L w.heap.size) (hs : ∀ x, a = some x → x.spot = none) :
    Calls Try.prog 42 #[.slice a n c] w fun e w' => ∃ ad cc, e = .returned (.slice ad n cc) ∧ w'.ownsRow w.heap.size 2 1 (.slice ad n cc) n (L.map (Value.int .i64)) ∧ Below w.heap.size w w' := by
  obtain ⟨i0, hi0, hz0, hz1, hz2⟩ := info_parts info64
  cases a with
  | none =>
    have h0 : n = 0 := by
      rcases Nat.eq_zero_or_pos n with h | h
      · exact h
      · obtain ⟨b, off, e, -⟩ := hr (fun e => by rw [e] at hL; simp at hL; omega)
        cases e
    have hLn : L = [] := List.length_eq_zero_iff.1 (by rw [hL]; exact h0)
    subst h0 hLn
    refine (Try.slices_Clone_nil 0 c w).mono ?_
    rintro e w' ⟨rfl, rfl⟩
    exact ⟨none, 0, rfl, World.ownsRow_nil _ _ _ _, Below.refl _ _⟩
  | some ad0 =>
    obtain ⟨b, off, sp⟩ := ad0
    have hsp : sp = none := hs _ rfl
    subst hsp
    refine (Try.slices_Clone i0 (.int .i64 0) 1 8 hi0 hz0 hz1 hz2 rfl (by decide) (fun W => by simp [Go.sizeOf, hi0, hz1, go_sem]; first | done | rfl | kernel_rfl) b off n c (L.map (Value.int .i64)) w (by rw [List.length_map, hL, Nat.mul_one]) (by unfold maxLen; omega) (by omega) (fun j u hu => ?_) (ints_one L)).mono ?_
    · by_cases h0 : L = []
      · subst h0; simp at hu
      · obtain ⟨b', off', e, -, hc⟩ := hr h0
        simp only [Option.some.injEq, Addr.mk.injEq] at e
        obtain ⟨rfl, rfl, -⟩ := e
        have h9 := row_src hc j u hu
        unfold Addr.add at h9
        split at h9 <;> simp_all
    · rintro e w' ⟨v', rfl, ho, -, hb⟩
      obtain ⟨ad, cc, rfl⟩ := gOwn_shape ho
      exact ⟨ad, cc, rfl, ho, hb⟩
/-- A row after so many places at both ends have been turned round. -/
def rvT (L : List Int) (t k : Nat) : Int := if k < t ∨ L.length - t ≤ k then L[L.length - 1 - k]?.getD 0 else L[k]?.getD 0
def rvL (L : List Int) (t : Nat) : List Int := (List.range L.length).map (rvT L t)
theorem rvL_len (L : List Int) (t : Nat) : (rvL L t).length = L.length := by simp [rvL]
theorem rvL_at {L : List Int} {t k : Nat} (h : k < L.length) : (rvL L t)[k]? = some (rvT L t k) := by
  unfold rvL
  rw [List.getElem?_map, List.getElem?_range h]
  rfl
theorem rvL_zero (L : List Int) : rvL L 0 = L := by
  apply List.ext_getElem?
  intro k
  by_cases h : k < L.length
  · rw [rvL_at h]
    unfold rvT
    rw [if_neg (by omega), List.getElem?_eq_getElem h]
    rfl
  · rw [List.getElem?_eq_none (by rw [rvL_len]; omega), List.getElem?_eq_none (by omega)]
theorem rvL_end {L : List Int} {t : Nat} (h : L.length ≤ 2 * t + 1) (ht : 2 * t ≤ L.length + 1) : rvL L t = L.reverse := by
  apply List.ext_getElem?
  intro k
  by_cases hk : k < L.length
  · rw [rvL_at hk, List.getElem?_reverse hk]
    unfold rvT
    have hk2 : L.length - 1 - k < L.length := by omega
    rw [List.getElem?_eq_getElem hk2]
    by_cases c : k < t ∨ L.length - t ≤ k
    · rw [if_pos c]; rfl
    · rw [if_neg c]
      have : L.length - 1 - k = k := by omega
      simp only [this, List.getElem?_eq_getElem hk, Option.getD_some]
  · rw [List.getElem?_eq_none (by rw [rvL_len]; omega), List.getElem?_eq_none (by simp; omega)]
theorem rvL_next {L : List Int} {t : Nat} (h : 2 * t + 1 < L.length) : (((rvL L t).map (Value.int .i64)).set t (.int .i64 (rvT L t (L.length - 1 - t)))).set (L.length - 1 - t) (.int .i64 (rvT L t t)) = (rvL L (t + 1)).map (Value.int .i64) := by
  apply List.ext_getElem?
  intro k
  simp only [List.getElem?_set, List.length_set, List.length_map, rvL_len]
  by_cases hk : k < L.length
  · rw [List.getElem?_map, List.getElem?_map, rvL_at hk, rvL_at hk]
    by_cases e1 : L.length - 1 - t = k
    · rw [if_pos e1, if_pos (by omega)]
      unfold rvT
      rw [if_neg (by omega), if_pos (by omega), show L.length - 1 - k = t by omega]
      rfl
    · rw [if_neg e1]
      by_cases e2 : t = k
      · rw [if_pos e2, if_pos (by omega)]
        unfold rvT
        rw [if_neg (by omega), if_pos (by omega), e2]
        rfl
      · rw [if_neg e2]
        unfold rvT
        by_cases c : k < t ∨ L.length - t ≤ k
        · rw [if_pos c, if_pos (by omega)]
        · rw [if_neg c, if_neg (by omega)]
  · rw [if_neg (by omega), if_neg (by omega), List.getElem?_eq_none (by simp [rvL_len]; omega), List.getElem?_eq_none (by simp [rvL_len]; omega)]
set_option maxRecDepth 100000 in
set_option maxHeartbeats 4000000 in
theorem i_reverse (B g n c : Nat) (L : List Int) (w : World) (hL : L.length = n) (hn : n ≤ 1000) (hB : B ≤ g) (hown : w.ownsRow B 2 1 (.slice (some ⟨g, 0, none⟩) n c) n (L.map (Value.int .i64))) :
    Calls Try.prog 43 #[.slice (some ⟨g, 0, none⟩) n c] w fun e w' => e = .returned (.tuple #[]) ∧ w'.ownsRow B 2 1 (.slice (some ⟨g, 0, none⟩) n c) n (L.reverse.map (Value.int .i64)) ∧ Below B w w' := by
  have HL := hide hL
  have HO : Hid (w.ownsRow B 2 1 (.slice (some ⟨g, 0, none⟩) n c) n ((rvL L 0).map (Value.int .i64))) := hide (by rw [rvL_zero]; exact hown)
  clear hown hL
  go_enter Try.func43, Try.ntmps43
  go_wp2
  go_loopw [2, 3] (fun v2 v3 wr => ∃ t : Nat, v2 = .int .i64 t ∧ v3 = .int .i64 ((n : Int) - 1 - t) ∧ 2 * t ≤ n + 1 ∧ Hid (wr.ownsRow B 2 1 (.slice (some ⟨g, 0, none⟩) n c) n ((rvL L t).map (Value.int .i64))) ∧ Hid (Below B w wr)) (fun v2 _ _ => n + 2 - (intOf v2).toNat)
  case atStart => exact ⟨0, rfl, by simp, by omega, HO, hide (Below.refl _ _)⟩
  case round =>
    clear HO
    obtain ⟨t, rfl, rfl, ht, HO, HB⟩ := hrel
    by_cases hlt : 2 * t + 1 < n
    · have hti : (t : Int) < (n : Int) - 1 - (t : Int) := by omega
      obtain ⟨j, hj⟩ : ∃ j : Nat, (n : Int) - 1 - (t : Int) = (j : Int) := ⟨n - 1 - t, by omega⟩
      have hjn : j = n - 1 - t := by omega
      have c1 : wr.cell? ⟨g, t, none⟩ = some (.int .i64 (rvT L t t)) := by
        rw [HO.out.cellAt t (by omega), List.getElem?_map, rvL_at (by rw [HL.out]; omega)]; rfl
      have c2 : wr.cell? ⟨g, j, none⟩ = some (.int .i64 (rvT L t j)) := by
        rw [HO.out.cellAt j (by omega), List.getElem?_map, rvL_at (by rw [HL.out]; omega)]; rfl
      have f1 := HO.out.frozenAt t
      have f2 := HO.out.frozenAt j
      have hst := hide ((HO.out.stored t (.int .i64 (rvT L t j))).1.stored j (.int .i64 (rvT L t t)))
      have HNX : Hid ((((rvL L t).map (Value.int .i64)).set t (.int .i64 (rvT L t j))).set j (.int .i64 (rvT L t t)) = (rvL L (t + 1)).map (Value.int .i64)) := hide (by
        have := rvL_next (L := L) (t := t) (by rw [HL.out]; exact hlt)
        rw [HL.out, ← hjn] at this
        exact this)
      have hne : t ≠ j := by omega
      rw [hj] at hti ⊢
      obtain ⟨x, hx⟩ : ∃ x, rvT L t t = x := ⟨_, rfl⟩
      obtain ⟨y, hy⟩ : ∃ y, rvT L t j = y := ⟨_, rfl⟩
      rw [hx] at c1 hst HNX
      rw [hy] at c2 hst HNX
      have hji : (j : Int) < (n : Int) := by omega
      have hj0 : (0 : Int) ≤ (j : Int) := by omega
      have ht0 : (0 : Int) ≤ (t : Int) := by omega
      have htn : (t : Int) < (n : Int) := by omega
      have HJ := hide hj
      clear hx hy hjn hj
      go_wp2
      go_region
      go_wp2
      go_roundw
      case rel =>
        refine ⟨t + 1, by go_num, by have := HJ.out; congr 1; omega, by omega, ?_, hide (((HB.out.setCell (p := ⟨g, t, none⟩) hB _).setCell (p := ⟨g, j, none⟩) hB _).drew)⟩
        have h9 := hst.out.1
        rw [HNX.out] at h9
        exact hide h9.drew
      case measure => simp [intOf]; omega
    · have hti : ¬ (t : Int) < (n : Int) - 1 - (t : Int) := by omega
      have HE : Hid (rvL L t = L.reverse) := hide (rvL_end (by rw [HL.out]; omega) (by rw [HL.out]; omega))
      rw [HE.out] at HO
      go_wp2
      go_end0
      exact ⟨rfl, by first | exact HO.out | (rw [← List.map_reverse]; exact HO.out), HB.out⟩
end Go.Proofs.Ytfohfljdgmlibaa
