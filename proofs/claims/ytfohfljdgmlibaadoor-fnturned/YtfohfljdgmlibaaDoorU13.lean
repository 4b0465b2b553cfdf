/-
  Texts put together: FiI, AppAny.
-/
import Derived.Test.YtfohfljdgmlibaaDoorU12
import Derived.Test.YtfohfljdgmlibaaDoorU1
import Derived.Deep.AppendLies
import Derived.Deep.Upon
/-
  Contracts: where rows of a model begin and end (the program's).
-/
namespace Go.Proofs.YtfohfljdgmlibaaDoor
open Go.RowKit Go.Joins
set_option linter.unusedVariables false
set_option linter.unusedSimpArgs false
theorem sorted_ext {L M : List Int} (h1 : L.Pairwise (· < ·)) (h2 : M.Pairwise (· < ·)) (h : ∀ x, x ∈ L ↔ x ∈ M) : L = M := by
  have hp : L.Perm M := (List.perm_ext_iff_of_nodup (lt_nodup h1) (lt_nodup h2)).2 h
  refine List.Perm.eq_of_pairwise (le := fun a b => a ≤ b) (fun a b _ _ h3 h4 => Int.le_antisymm h3 h4) (h1.imp fun h => Int.le_of_lt h) (h2.imp fun h => Int.le_of_lt h) hp
theorem bts_srt {x : Nat} {S : List Int} (h : BitS x S) (hS : ∀ z ∈ S, 0 ≤ z) : bts x = srtL S := by
  have hx : x < 18446744073709551616 := Nat.lt_of_lt_of_le h.1 (by decide)
  refine sorted_ext (bts_sorted (x + 1) x (by omega) hx) (srt_sorted S) (fun z => ?_)
  rw [srt_mem, bts_mem (x + 1) x (by omega) hx]
  constructor
  · rintro ⟨j, rfl, hj⟩; exact (h.2 j).1 hj
  · intro hz
    have := hS z hz
    exact ⟨z.toNat, by omega, (h.2 z.toNat).2 (by rw [Int.toNat_of_nonneg this]; exact hz)⟩
def foV (D : Pn) : List Int := if pkB D = true then srtL (ed D false (D.n - 1)) else []
def laV (D : Pn) : List Int := if pkB D = true then srtL (ed D true (D.n - 1)) else []
theorem lo_root {D : Pn} (h : pkB D = true) : Lo D (D.n - 1) := fun j hj => (pk_lo h j (by have := (pk_facts h).1; omega)).2
theorem ed_pos {D : Pn} {rev : Bool} (h : pkB D = true) : ∀ z ∈ ed D rev (D.n - 1), 0 ≤ z := fun z hz => (ed_range (D.n - 1 + 1) (D.n - 1) (by omega) (lo_root h) z hz).1
theorem tk_first {D : Pn} {a : Option Addr} {n cap : Nat} {b : Option Addr} {m c : Nat} {F : Nat → Nat} {e : Nat} (h : TkAns D a n cap b m c F e) : bts (F 40) = foV D ∧ F 40 < 18446744073709551616 := by
  unfold foV
  cases hpk : pkB D
  · obtain ⟨rfl, -⟩ := h.2 hpk
    exact ⟨rfl, by decide⟩
  · obtain ⟨-, -, -, -, hb, -⟩ := h.1 hpk
    rw [if_pos rfl]
    exact ⟨bts_srt hb (ed_pos hpk), Nat.lt_of_lt_of_le hb.1 (by decide)⟩
theorem mask_bit : ∀ q, q < 64 → (18446742974197923839 : Nat).testBit q = decide (q ≠ 40) := by decide
theorem last_bits {nul : Bool} {l : Nat} {S : List Int} (h : BitS l S) : thL nul l 1099511627776 &&& 18446742974197923839 = l := by
  apply Nat.eq_of_testBit_eq
  intro q
  rw [Nat.testBit_and]
  have h40 : (1099511627776 : Nat).testBit q = decide (40 = q) := by rw [show (1099511627776 : Nat) = 2 ^ 40 by decide, Nat.testBit_two_pow]
  by_cases hq : q < 64
  · rw [mask_bit q hq]
    by_cases e : q = 40
    · subst e
      have hl : l.testBit 40 = false := Nat.testBit_lt_two_pow (show l < 2 ^ 40 from h.1)
      rw [hl]; simp
    · rw [decide_eq_true e, Bool.and_true]
      cases nul
      · rfl
      · show (l ||| 1099511627776).testBit q = _
        rw [Nat.testBit_or, h40, decide_eq_false (fun h => e h.symm), Bool.or_false]
  · have h1 : (18446742974197923839 : Nat).testBit q = false := Nat.testBit_lt_two_pow (Nat.lt_of_lt_of_le (show (18446742974197923839 : Nat) < 2 ^ 64 by decide) (Nat.pow_le_pow_right (by decide) (by omega)))
    have h2 : l.testBit q = false := Nat.testBit_lt_two_pow (Nat.lt_of_lt_of_le (show l < 2 ^ 40 from h.1) (Nat.pow_le_pow_right (by decide) (by omega)))
    rw [h1, h2, Bool.and_false]
theorem tk_last {D : Pn} {a : Option Addr} {n cap : Nat} {b : Option Addr} {m c : Nat} {F : Nat → Nat} {e : Nat} (h : TkAns D a n cap b m c F e) : bts (e &&& 18446742974197923839) = laV D ∧ e < 18446744073709551616 ∧ e &&& 18446742974197923839 < 18446744073709551616 := by
  unfold laV
  cases hpk : pkB D
  · obtain ⟨-, rfl⟩ := h.2 hpk
    exact ⟨by simp [bts_zero], by decide, by decide⟩
  · obtain ⟨-, -, -, -, -, l, hl, rfl⟩ := h.1 hpk
    rw [if_pos rfl, last_bits hl]
    exact ⟨bts_srt hl (ed_pos hpk), Nat.lt_of_lt_of_le (thL_lt hl) (by decide), Nat.lt_of_lt_of_le hl.1 (by decide)⟩
/-- An answer of numbers in memory of its own. -/
def IntAns (L : List Int) (w : World) (r : Ending) (w' : World) : Prop := ∃ ad c, r = .returned (.slice ad L.length c) ∧ IntR w.heap.size w' ad c L ∧ Below w.heap.size w w'
set_option maxRecDepth 100000 in
set_option maxHeartbeats 4000000 in
theorem i_firstOf (D : Pn) (n : Nat) (a : Option Addr) (cap : Nat) (w : World) (hD : D.n = n) (hz : pnTot D ≤ 1048576) (hr : PnAt w a D w.heap.size) (hT : TzT w) :
    Calls Tryd.prog 13 #[.slice a n cap] w (IntAns (foV D) w) := by
  have hzz := tk_zero
  have hne := tkN_ne
  have CT := hide (i_tracks2 D n a cap w hD hz hr hT)
  have HT := hide hT
  clear hr hD hz hT
  go_enter Tryd.func13, Tryd.ntmps13
  go_wp2_with (first
    | (go_at_call 34; refine CT.out.mono ?_; rintro r w1 ⟨b9, m9, c9, F, e, rfl, hA, hb1⟩; have HA := hide (tk_first hA); have HB1 := hide hb1; obtain ⟨hsz, hzs⟩ := tk_fit b9 m9 c9 F e; have hall := tkC_one b9 m9 c9 F e; have HC := hide (cellsAt_new w1 (tkC (.slice b9 m9 c9) F e) 55); have f40 := (cellsAt_cell HC.out 41).trans (tkC_at (.slice b9 m9 c9) F e 40 (by decide)); obtain ⟨CS, hCS⟩ : ∃ CS, tkC (.slice b9 m9 c9) F e = CS := ⟨_, rfl⟩; have HCS := hide hCS; rw [hCS] at hsz hzs hall HC f40 ⊢; clear hA hb1 hCS)
    | (refine wpList_store_row rfl 55 _ _ rfl w1.heap.size CS rfl rfl 55 _ (heap_alloc_last w1 _) hsz hzs hall ?_; rw [World.setRow_alloc_new])
    | (go_at_call 43; refine (i_list (F 40) _ HA.out.2 (tzT_go HT.out (HB1.out.alloc HB1.out.size _) (Nat.le_refl _))).mono ?_; rintro r w3 ⟨ad3, c3, rfl, ho3, hb3⟩; have HO3 := hide ho3; have HB3 := hide ((HB1.out.alloc HB1.out.size _).trans (hb3.mono (HB1.out.alloc HB1.out.size _).size)); clear ho3 hb3))
  go_ret
  rw [← HA.out.1]
  exact ⟨ad3, c3, rfl, gOwn_lower HO3.out (HB1.out.alloc HB1.out.size _).size, HB3.out⟩
set_option maxRecDepth 100000 in
set_option maxHeartbeats 4000000 in
theorem i_lastOf (D : Pn) (n : Nat) (a : Option Addr) (cap : Nat) (w : World) (hD : D.n = n) (hz : pnTot D ≤ 1048576) (hr : PnAt w a D w.heap.size) (hT : TzT w) :
    Calls Tryd.prog 16 #[.slice a n cap] w (IntAns (laV D) w) := by
  have hzz := tk_zero
  have hne := tkN_ne
  have CT := hide (i_tracks2 D n a cap w hD hz hr hT)
  have CN := hide (fun (W : World) => i_only 40 W (by omega))
  have HT := hide hT
  clear hr hD hz hT
  go_enter Tryd.func16, Tryd.ntmps16
  go_wp2_with (first
    | (go_at_call 34; refine CT.out.mono ?_; rintro r w1 ⟨b9, m9, c9, F, e, rfl, hA, hb1⟩; have HA := hide (tk_last hA); have HB1 := hide hb1; obtain ⟨hsz, hzs⟩ := tk_fit b9 m9 c9 F e; have hall := tkC_one b9 m9 c9 F e; have HC := hide (cellsAt_new w1 (tkC (.slice b9 m9 c9) F e) 55); have f42 := (cellsAt_cell HC.out 42).trans (tkC_get (.slice b9 m9 c9) F e 42 (by decide)); have f43 : tkV (.slice b9 m9 c9) F e 42 = .int .u64 (e : Int) := rfl; rw [f43] at f42; clear f43; have hbn : bits .andNot .u64 (e : Int) 1099511627776 = ((e &&& 18446742974197923839 : Nat) : Int) := u64_andNot_nat e 1099511627776 HA.out.2.1 (by decide); obtain ⟨x9, hx9⟩ : ∃ x9, e &&& 18446742974197923839 = x9 := ⟨_, rfl⟩; rw [hx9] at hbn HA; obtain ⟨CS, hCS⟩ : ∃ CS, tkC (.slice b9 m9 c9) F e = CS := ⟨_, rfl⟩; have HCS := hide hCS; rw [hCS] at hsz hzs hall HC f42 ⊢; clear hA hb1 hCS hx9)
    | (go_at_call 35; refine (CN.out _).mono ?_; rintro r9 w9 ⟨rfl, h9⟩; rw [h9]; clear h9 w9)
    | (refine wpList_store_row rfl 55 _ _ rfl w1.heap.size CS rfl rfl 55 _ (heap_alloc_last w1 _) hsz hzs hall ?_; rw [World.setRow_alloc_new]))
  have hWb : Below w.heap.size w (w1.alloc (.cells CS 55)).drew := (HB1.out.alloc HB1.out.size _).drew
  have HWB := hide hWb
  clear hWb
  go_region_with (first
    | (go_at_call 35; refine (CN.out _).mono ?_; rintro r9 w9 ⟨rfl, h9⟩; rw [h9]; clear h9 w9)
    | (go_at_call 43; refine (i_list x9 _ HA.out.2.2 (tzT_go HT.out HWB.out (Nat.le_refl _))).mono ?_; rintro r w3 ⟨ad3, c3, rfl, ho3, hb3⟩; have HO3 := hide ho3; have HB3 := hide (HWB.out.trans (hb3.mono HWB.out.size)); clear ho3 hb3))
  all_goals
    go_wp2
    go_ret
    rw [← HA.out.1]
    exact ⟨ad3, c3, rfl, gOwn_lower HO3.out HWB.out.size, HB3.out⟩
end Go.Proofs.YtfohfljdgmlibaaDoor

/-
  Plain facts: an append of anything that lies in memory, or of nothing (SpRows and SpA have them too, under other names).
-/
namespace Go.Proofs.YtfohfljdgmlibaaDoor
open Go.RowKit
set_option linter.unusedVariables false
set_option linter.unusedSimpArgs false
/-- An append, be there something to append or nothing. -/
theorem wp_append_src {P : Program} {w : World} {o : Oper} {a : Act} {K : Act → World → Prop} {Q : Exit → Act → World → Prop} (s x : Operand) (t : TypeId)
    (ho : o.op = .call { callee := .builtin .append, args := #[s, x], argTypes := #[t, t] })
    (base : Nat) (e : TypeId) (i : TypeInfo) (z : Value) (size bytes : Nat) (ht : P.underlying t = some (.slice e)) (hi : P.info? e = some i) (hz : i.zero = some z)
    (hsize : i.size = size) (hby : i.bytes = bytes) (hzs : z.cells.size = size) (hsz : 0 < size)
    (v : Value) (n : Nat) (xs : List Value) (hs : a.eval s = v) (hown : w.ownsRow base e size v n xs)
    (xa : Option Addr) (m c : Nat) (news : List Value) (hx : a.eval x = .slice xa m c) (hl : news.length = m * size) (hnews : 0 < m → ∃ ad, xa = some ad ∧ ∀ j u, news[j]? = some u → w.cell? (ad.add j) = some u) (h1 : ∀ u ∈ news, u.oneCell' = true)
    (h63 : n + m ≤ maxLen) (hbytes : (n + m) * bytes ≤ 140737488355328) (hbase : base ≤ w.heap.size)
    (h : ∀ a' c' w', w'.ownsRow base e size (.slice a' (n + m) c') (n + m) (xs ++ news) → w.grownBy w' v.ownBlock → K (a.put o.dst (.slice a' (n + m) c')) w') : o.wp P a w K Q := by
  by_cases hm : 0 < m
  · obtain ⟨ad, rfl, hnw⟩ := hnews hm
    exact wp_append_lies w s x t ho base e i z size bytes ht hi hz hsize hby hzs hsz v n xs hs hown ad m c news hx hl hnw h1 hm h63 hbytes hbase _ rfl (fun g cap w' k1 k2 _ _ => h _ _ w' k1 k2)
  · obtain rfl : m = 0 := by omega
    rw [Nat.zero_mul] at hl
    obtain rfl : news = [] := List.length_eq_zero_iff.1 hl
    have hv : ∃ a' c', v = .slice a' n c' ∧ n ≤ c' := by
      rcases hown.2 with ⟨rfl, rfl⟩ | ⟨g, cap, cur, rfl, _, _, hc, _⟩
      · exact ⟨none, 0, rfl, Nat.le_refl _⟩
      · exact ⟨_, cap, rfl, hc⟩
    obtain ⟨a', c', rfl, hc⟩ := hv
    have hsrc : Src P i.size t (.slice xa 0 c) 0 [] w := by
      cases xa with
      | none => exact Src.ofNil w ht c
      | some ad => exact Src.ofSlice w ht ad 0 c [] (by simp) (fun j u hj => by simp at hj) (fun u hu => by cases hu)
    have hr := run_append_nothing (P := P) w t t o.type e i ht hi a' n c' hc (.slice xa 0 c) hsrc
    unfold Oper.wp execOp
    simp only [ho, resolve, invoke, builtin, Sem.run_bind, Sem.run_pure, Result.andThen_ok, List.map_toArray, List.map_cons, List.map_nil, hs, hx, hr]
    exact h a' c' w (by rw [List.append_nil]; exact hown) ⟨rfl, rfl, rfl, Nat.le_refl _, fun _ _ _ => rfl⟩
/-- The same at a list of operations. -/
theorem wpList_append_src {P : Program} {w : World} {ops : Array Oper} {rest : List Oper} {o : Oper} {a : Act} {Q : Exit → Act → World → Prop} (hgd : o.guard = none) (s x : Operand) (t : TypeId)
    (ho : o.op = .call { callee := .builtin .append, args := #[s, x], argTypes := #[t, t] })
    (base : Nat) (e : TypeId) (i : TypeInfo) (z : Value) (size bytes : Nat) (ht : P.underlying t = some (.slice e)) (hi : P.info? e = some i) (hz : i.zero = some z)
    (hsize : i.size = size) (hby : i.bytes = bytes) (hzs : z.cells.size = size) (hsz : 0 < size)
    (v : Value) (n : Nat) (xs : List Value) (hs : a.eval s = v) (hown : w.ownsRow base e size v n xs)
    (xa : Option Addr) (m c : Nat) (news : List Value) (hx : a.eval x = .slice xa m c) (hl : news.length = m * size) (hnews : 0 < m → ∃ ad, xa = some ad ∧ ∀ j u, news[j]? = some u → w.cell? (ad.add j) = some u) (h1 : ∀ u ∈ news, u.oneCell' = true)
    (h63 : n + m ≤ maxLen) (hbytes : (n + m) * bytes ≤ 140737488355328) (hbase : base ≤ w.heap.size)
    (h : ∀ a' c' w', w'.ownsRow base e size (.slice a' (n + m) c') (n + m) (xs ++ news) → w.grownBy w' v.ownBlock → wpList P ops Q rest (a.put o.dst (.slice a' (n + m) c')) w') : wpList P ops Q (o :: rest) a w :=
  wpList_plain hgd fun _ hK => wp_append_src s x t ho base e i z size bytes ht hi hz hsize hby hzs hsz v n xs hs hown xa m c news hx hl hnews h1 h63 hbytes hbase fun a' c' w' h2 h3 => hK _ _ (h a' c' w' h2 h3)
/-- What an append reads of a row of numbers. -/
theorem row_src {w : World} {b off : Nat} {L : List Int} (h : ∀ j, j < L.length → w.cell? ⟨b, off + j, none⟩ = some (.int .i64 (L[j]?.getD 0))) : ∀ j u, (L.map (Value.int .i64))[j]? = some u → w.cell? ((⟨b, off, none⟩ : Addr).add j) = some u := by
  intro j u hu
  have hadd : (⟨b, off, none⟩ : Addr).add j = ⟨b, off + j, none⟩ := by unfold Addr.add; split <;> simp_all
  have hj : j < L.length := by
    rcases Nat.lt_or_ge j L.length with h' | h'
    · exact h'
    · rw [List.getElem?_eq_none (by rw [List.length_map]; exact h')] at hu; cases hu
  rw [hadd, h j hj]
  rw [List.getElem?_map, List.getElem?_eq_getElem hj] at hu
  rw [List.getElem?_eq_getElem hj]
  simpa using hu
theorem ints_one (L : List Int) : ∀ u ∈ L.map (Value.int .i64), u.oneCell' = true := by
  intro u hu
  obtain ⟨z, -, rfl⟩ := List.mem_map.1 hu
  rfl
end Go.Proofs.YtfohfljdgmlibaaDoor
