/-
  Texts put together: DrDoc, AppAny.
-/
import Derived.Test.YtdepgkpfibmbgaaGreatDoorE15
import Derived.Test.YtdepgkpfibmbgaaGreatDoorE1
import Derived.Deep.AppendLies
import Derived.Deep.Upon
/-
  Contracts: the drawn document: whatever the code is, a row of items of its own, with what is hurt in it.
-/
namespace Go.Proofs.YtdepgkpfibmbgaaGreatDoor
open Go.RowKit Go.Joins
set_option linter.unusedVariables false
set_option linter.unusedSimpArgs false
set_option maxHeartbeats 1000000 in
theorem d_belowG (G : Nat) (a : Option Addr) (n cap : Nat) (zs : List Int) (m : Int) (w : World) (hm : 1 ≤ m) (hm' : m ≤ 256) (h : RdAt w G a n cap zs) :
    Calls Tryz.prog 45 #[.pointer (some ⟨G, 0, none⟩), .int .i64 m] w fun e w' => ∃ x : Int, 0 ≤ x ∧ x < m ∧ e = .returned (.int .i64 x) ∧ Drew G a n cap zs w w' := by
  by_cases h2 : 2 ≤ m
  · exact d_below G a n cap zs m w h2 hm' h
  · have h1 : m ≤ 1 := by omega
    have HH := hide h
    clear h
    go_enter Tryz.func45, Tryz.ntmps45
    go_wp2
    go_ret
    exact ⟨0, by omega, by omega, rfl, drew_refl HH.out⟩
def D1 (u : Int) (nm : ByteArray) : Dc := ⟨1, fun _ => u, fun _ => nm, fun _ => ⟨#[]⟩, fun _ => 0, fun _ _ => ⟨#[]⟩, fun _ _ => ⟨#[]⟩⟩
theorem drIt_one (w : World) (G : Nat) (u : Int) (nm : ByteArray) (hG : G < w.heap.size) (hn : nm.size ≤ 8) : DrIt (G + 1) (w.alloc (.cells #[.int .i64 u, .string nm, .string ⟨#[]⟩, .slice none 0 0] IT)) (some ⟨w.heap.size, 0, none⟩) 1 1 (D1 u nm) := by
  refine ⟨[.int .i64 u, .string nm, .string ⟨#[]⟩, .slice none 0 0], ⟨rfl, .inr ⟨w.heap.size, 1, _, rfl, hG, heap_alloc_new w _, Nat.le_refl _, by unfold maxLen; omega, rfl, rfl⟩⟩, rfl, fun j hj => ?_⟩
  have : j = 0 := by omega
  subst this
  exact ⟨none, 0, ⟨rfl, rfl, rfl, rfl⟩, fun h => absurd h (Nat.lt_irrefl _), Nat.le_refl _, hn, (show (0 : Nat) ≤ 8 from by omega), (show (0 : Nat) ≤ 8 from by omega), fun k hk => absurd hk (Nat.not_lt_zero _)⟩
def updU (D : Dc) (k : Nat) (y : Int) : Dc := ⟨D.n, fun j => if j = k then y else D.U j, D.NM, D.TX, D.AC, D.AN, D.AV⟩
def updN (D : Dc) (k : Nat) (y : ByteArray) : Dc := ⟨D.n, D.U, fun j => if j = k then y else D.NM j, D.TX, D.AC, D.AN, D.AV⟩
def updT (D : Dc) (k : Nat) (y : ByteArray) : Dc := ⟨D.n, D.U, D.NM, fun j => if j = k then y else D.TX j, D.AC, D.AN, D.AV⟩
section
variable {G : Nat} {a : Option Addr} {n cap : Nat} {zs : List Int} {w0 w : World} {g m c k : Nat} {D D' : Dc} {xs : List Value}
theorem gs_cell (h : GS G a n cap zs w0 w (some ⟨g, 0, none⟩) m c D) (i : Nat) (hi : i < m * 4) : (∃ v, w.cell? ⟨g, i, none⟩ = some v) ∧ w.frozen? ⟨g, i, none⟩ = false := by
  obtain ⟨xs, h1, h2⟩ := h.2.1
  refine ⟨?_, h1.frozenAt i⟩
  rw [h1.cellAt i (by omega)]
  exact ⟨_, List.getElem?_eq_getElem (by rw [h1.1]; omega)⟩
theorem gs_store (h : GS G a n cap zs w0 w (some ⟨g, 0, none⟩) m c D) (i : Nat) (v : Value) (hI : ∀ (W : World) (xs : List Value), xs.length = m * 4 → Its W xs m D → Its W (xs.set i v) m D') : GS G a n cap zs w0 (w.setCell ⟨g, i, none⟩ v) (some ⟨g, 0, none⟩) m c D' := by
  obtain ⟨h1, ⟨xs, h2, h3⟩, h4, h5⟩ := h
  have hg := grown_set w ⟨g, i, none⟩ v
  have hlt := h2.lt g rfl
  have hrow : ∀ k, some g = some k → k = g := fun k hk => by cases hk; rfl
  have hk : KeepA w (w.setCell ⟨g, i, none⟩ v) := keepA_own (keepA_refl w) h2 hg
  refine ⟨rd_grown h1 hg (fun k hk => by have := hrow k hk; omega), ⟨_, (h2.stored i v).1, hI _ _ h2.1 (its_keep h3 hk)⟩, ?_, keepA_trans h5 hk⟩
  exact h4.grown hg (Nat.le_of_lt (rd_lt h1)) (fun k hk => by have := hrow k hk; omega)
theorem its_U (y : Int) (hk : k < m) (W : World) (xs : List Value) (hl : xs.length = m * 4) (h : Its W xs m D) : Its W (xs.set (k * 4) (.int .i64 y)) m (updU D k y) := by
  refine ⟨h.1, fun j hj => ?_⟩
  obtain ⟨ad, cp, ⟨c0, c1, c2, c3⟩, h2⟩ := h.2 j hj
  refine ⟨ad, cp, ⟨?_, ?_, ?_, ?_⟩, h2⟩
  · by_cases e : j = k
    · subst e; rw [List.getElem?_set_self (by omega)]; show _ = some (Value.int .i64 (if j = j then y else D.U j)); rw [if_pos rfl]
    · rw [List.getElem?_set_ne (by omega)]; show _ = some (Value.int .i64 (if j = k then y else D.U j)); rw [if_neg e]; exact c0
  · rw [List.getElem?_set_ne (by omega)]; exact c1
  · rw [List.getElem?_set_ne (by omega)]; exact c2
  · rw [List.getElem?_set_ne (by omega)]; exact c3
theorem its_N (y : ByteArray) (hy : y.size ≤ 8) (hk : k < m) (W : World) (xs : List Value) (hl : xs.length = m * 4) (h : Its W xs m D) : Its W (xs.set (k * 4 + 1) (.string y)) m (updN D k y) := by
  refine ⟨h.1, fun j hj => ?_⟩
  obtain ⟨ad, cp, ⟨c0, c1, c2, c3⟩, h2, h3, s1, s2, s3⟩ := h.2 j hj
  refine ⟨ad, cp, ⟨?_, ?_, ?_, ?_⟩, h2, h3, ?_, s2, s3⟩
  · rw [List.getElem?_set_ne (by omega)]; exact c0
  · by_cases e : j = k
    · subst e; rw [List.getElem?_set_self (by omega)]; show _ = some (Value.string (if j = j then y else D.NM j)); rw [if_pos rfl]
    · rw [List.getElem?_set_ne (by omega)]; show _ = some (Value.string (if j = k then y else D.NM j)); rw [if_neg e]; exact c1
  · rw [List.getElem?_set_ne (by omega)]; exact c2
  · rw [List.getElem?_set_ne (by omega)]; exact c3
  · show (if j = k then y else D.NM j).size ≤ 8
    split
    · exact hy
    · exact s1
theorem its_T (y : ByteArray) (hy : y.size ≤ 8) (hk : k < m) (W : World) (xs : List Value) (hl : xs.length = m * 4) (h : Its W xs m D) : Its W (xs.set (k * 4 + 2) (.string y)) m (updT D k y) := by
  refine ⟨h.1, fun j hj => ?_⟩
  obtain ⟨ad, cp, ⟨c0, c1, c2, c3⟩, h2, h3, s1, s2, s3⟩ := h.2 j hj
  refine ⟨ad, cp, ⟨?_, ?_, ?_, ?_⟩, h2, h3, s1, ?_, s3⟩
  · rw [List.getElem?_set_ne (by omega)]; exact c0
  · rw [List.getElem?_set_ne (by omega)]; exact c1
  · by_cases e : j = k
    · subst e; rw [List.getElem?_set_self (by omega)]; show _ = some (Value.string (if j = j then y else D.TX j)); rw [if_pos rfl]
    · rw [List.getElem?_set_ne (by omega)]; show _ = some (Value.string (if j = k then y else D.TX j)); rw [if_neg e]; exact c2
  · rw [List.getElem?_set_ne (by omega)]; exact c3
  · show (if j = k then y else D.TX j).size ≤ 8
    split
    · exact hy
    · exact s2
end
end Go.Proofs.YtdepgkpfibmbgaaGreatDoor

/-
  Plain facts: an append of anything that lies in memory, or of nothing (SpRows and SpA have them too, under other names).
-/
namespace Go.Proofs.YtdepgkpfibmbgaaGreatDoor
open Go.RowKit
set_option linter.unusedVariables false
set_option linter.unusedSimpArgs false
/-- An append, be there something to append or nothing. -/
theorem wp_append_src {P : Program} {w : World} {o : Oper} {a : Act} {K : Act → World → Prop} {Q : Exit → Act → World → Prop} (s x : Operand) (t : TypeId)
    (ho : o.op = .call { callee := .builtin .append, args := #[s, x], argTypes := #[t, t] })
    (base : Nat) (e : TypeId) (i : TypeInfo) (z : Value) (size bytes : Nat) (ht : P.underlying t = some (.slice e)) (hi : P.info? e = some i) (hz : i.zero = some z)
    (hsize : i.size = size) (hby : i.bytes = bytes) (hzs : z.cells.size = size) (hsz : 0 < size)
    (v : Value) (n : Nat) (xs : List Value) (hs : a.eval s = v) (hown : w.ownsRow base e size v n xs)
    (xa : Option Addr) (m c : Nat) (news : List Value) (hx : a.eval x = .slice xa m c) (hl : news.length = m * size) (hnews : 0 < m → ∃ ad, xa = some ad ∧ ∀ j u, news[j]? = some u → w.cell? (ad.add j) = some u) (h1 : ∀ u ∈ news, u.oneCell' = true)
    (h63 : n + m ≤ maxLen) (hbytes : (n + m) * bytes ≤ 140737488355328) (hbase : base ≤ w.heap.size)
    (h : ∀ a' c' w', w'.ownsRow base e size (.slice a' (n + m) c') (n + m) (xs ++ news) → w.grownBy w' v.ownBlock → K (a.put o.dst (.slice a' (n + m) c')) w') : o.wp P a w K Q := by
  by_cases hm : 0 < m
  · obtain ⟨ad, rfl, hnw⟩ := hnews hm
    exact wp_append_lies w s x t ho base e i z size bytes ht hi hz hsize hby hzs hsz v n xs hs hown ad m c news hx hl hnw h1 hm h63 hbytes hbase _ rfl (fun g cap w' k1 k2 _ _ => h _ _ w' k1 k2)
  · obtain rfl : m = 0 := by omega
    rw [Nat.zero_mul] at hl
    obtain rfl : news = [] := List.length_eq_zero_iff.1 hl
    have hv : ∃ a' c', v = .slice a' n c' ∧ n ≤ c' := by
      rcases hown.2 with ⟨rfl, rfl⟩ | ⟨g, cap, cur, rfl, _, _, hc, _⟩
      · exact ⟨none, 0, rfl, Nat.le_refl _⟩
      · exact ⟨_, cap, rfl, hc⟩
    obtain ⟨a', c', rfl, hc⟩ := hv
    have hsrc : Src P i.size t (.slice xa 0 c) 0 [] w := by
      cases xa with
      | none => exact Src.ofNil w ht c
      | some ad => exact Src.ofSlice w ht ad 0 c [] (by simp) (fun j u hj => by simp at hj) (fun u hu => by cases hu)
    have hr := run_append_nothing (P := P) w t t o.type e i ht hi a' n c' hc (.slice xa 0 c) hsrc
    unfold Oper.wp execOp
    simp only [ho, resolve, invoke, builtin, Sem.run_bind, Sem.run_pure, Result.andThen_ok, List.map_toArray, List.map_cons, List.map_nil, hs, hx, hr]
    exact h a' c' w (by rw [List.append_nil]; exact hown) ⟨rfl, rfl, rfl, Nat.le_refl _, fun _ _ _ => rfl⟩
/-- The same at a list of operations. -/
theorem wpList_append_src {P : Program} {w : World} {ops : Array Oper} {rest : List Oper} {o : Oper} {a : Act} {Q : Exit → Act → World → Prop} (hgd : o.guard = none) (s x : Operand) (t : TypeId)
    (ho : o.op = .call { callee := .builtin .append, args := #[s, x], argTypes := #[t, t] })
    (base : Nat) (e : TypeId) (i : TypeInfo) (z : Value) (size bytes : Nat) (ht : P.underlying t = some (.slice e)) (hi : P.info? e = some i) (hz : i.zero = some z)
    (hsize : i.size = size) (hby : i.bytes = bytes) (hzs : z.cells.size = size) (hsz : 0 < size)
    (v : Value) (n : Nat) (xs : List Value) (hs : a.eval s = v) (hown : w.ownsRow base e size v n xs)
    (xa : Option Addr) (m c : Nat) (news : List Value) (hx : a.eval x = .slice xa m c) (hl : news.length = m * size) (hnews : 0 < m → ∃ ad, xa = some ad ∧ ∀ j u, news[j]? = some u → w.cell? (ad.add j) = some u) (h1 : ∀ u ∈ news, u.oneCell' = true)
    (h63 : n + m ≤ maxLen) (hbytes : (n + m) * bytes ≤ 140737488355328) (hbase : base ≤ w.heap.size)
    (h : ∀ a' c' w', w'.ownsRow base e size (.slice a' (n + m) c') (n + m) (xs ++ news) → w.grownBy w' v.ownBlock → wpList P ops Q rest (a.put o.dst (.slice a' (n + m) c')) w') : wpList P ops Q (o :: rest) a w :=
  wpList_plain hgd fun _ hK => wp_append_src s x t ho base e i z size bytes ht hi hz hsize hby hzs hsz v n xs hs hown xa m c news hx hl hnews h1 h63 hbytes hbase fun a' c' w' h2 h3 => hK _ _ (h a' c' w' h2 h3)
/-- What an append reads of a row of numbers. -/
theorem row_src {w : World} {b off : Nat} {L : List Int} (h : ∀ j, j < L.length → w.cell? ⟨b, off + j, none⟩ = some (.int .i64 (L[j]?.getD 0))) : ∀ j u, (L.map (Value.int .i64))[j]? = some u → w.cell? ((⟨b, off, none⟩ : Addr).add j) = some u := by
  intro j u hu
  have hadd : (⟨b, off, none⟩ : Addr).add j = ⟨b, off + j, none⟩ := by unfold Addr.add; split <;> simp_all
  have hj : j < L.length := by
    rcases Nat.lt_or_ge j L.length with h' | h'
    · exact h'
    · rw [List.getElem?_eq_none (by rw [List.length_map]; exact h')] at hu; cases hu
  rw [hadd, h j hj]
  rw [List.getElem?_map, List.getElem?_eq_getElem hj] at hu
  rw [List.getElem?_eq_getElem hj]
  simpa using hu
theorem ints_one (L : List Int) : ∀ u ∈ L.map (Value.int .i64), u.oneCell' = true := by
  intro u hu
  obtain ⟨z, -, rfl⟩ := List.mem_map.1 hu
  rfl
end Go.Proofs.YtdepgkpfibmbgaaGreatDoor
