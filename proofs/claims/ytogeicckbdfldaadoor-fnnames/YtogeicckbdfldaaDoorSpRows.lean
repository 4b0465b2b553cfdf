/-
  Plain facts: the items of a drawn document with more attributes; an append of anything that lies in memory.
-/
import Derived.Test.YtogeicckbdfldaaDoorDrDoc
import Derived.Deep.AppendLies
import Derived.Deep.Upon
namespace Go.Proofs.YtogeicckbdfldaaDoor
open Go.RowKit Go.Joins
set_option linter.unusedVariables false
set_option linter.unusedSimpArgs false
def SmallB (D : Dc) (j : Nat) : Prop := (D.NM j).size ≤ 8 ∧ (D.TX j).size ≤ 8 ∧ D.AC j ≤ 16 ∧ ∀ k, k < D.AC j → (D.AN j k).size ≤ 8 ∧ (D.AV j k).size ≤ 8
/-- The cells of a row are those of the items of D. -/
def ItsB (w : World) (xs : List Value) (m : Nat) (D : Dc) : Prop := D.n = m ∧ ∀ j, j < m → ∃ ad cp, (xs[j * 4]? = some (.int .i64 (D.U j)) ∧ xs[j * 4 + 1]? = some (.string (D.NM j)) ∧ xs[j * 4 + 2]? = some (.string (D.TX j)) ∧ xs[j * 4 + 3]? = some (.slice ad (D.AC j) cp)) ∧ AtD w ad (D.AC j) (D.AN j) (D.AV j) ∧ D.AC j ≤ cp ∧ SmallB D j
theorem its_keepB {w w' : World} {xs : List Value} {m : Nat} {D : Dc} (h : ItsB w xs m D) (k : KeepA w w') : ItsB w' xs m D := ⟨h.1, fun j hj => by
  obtain ⟨ad, cp, h1, h2, h3⟩ := h.2 j hj
  exact ⟨ad, cp, h1, atD_keep h2 k, h3⟩⟩
def DrItB (B : Nat) (w : World) (ad : Option Addr) (m c : Nat) (D : Dc) : Prop := ∃ xs, w.ownsRow B IT 4 (.slice ad m c) m xs ∧ ItsB w xs m D
theorem drIt_keptB {B m c : Nat} {w w' : World} {ad : Option Addr} {D : Dc} {row : Option Nat} (h : DrItB B w ad m c D) (hg : w.grownBy w' row) (hne : ∀ k, row = some k → (Value.slice ad m c).ownBlock ≠ some k) (hk : KeepA w w') : DrItB B w' ad m c D := by
  obtain ⟨xs, h1, h2⟩ := h
  refine ⟨xs, h1.kept hg ?_, its_keepB h2 hk⟩
  cases hv : (Value.slice ad m c).ownBlock with
  | none => exact .inl rfl
  | some k => exact .inr fun e => hne k e.symm (by rw [hv])
theorem drIt_belowB {B m c : Nat} {w w' : World} {ad : Option Addr} {D : Dc} (h : DrItB B w ad m c D) (hb : Below w.heap.size w w') : DrItB B w' ad m c D := by
  obtain ⟨xs, h1, h2⟩ := h
  exact ⟨xs, gOwn_after h1 hb, its_keepB h2 (keepA_below (keepA_refl w) hb)⟩
theorem drIt_ltB {B m c : Nat} {w : World} {ad : Option Addr} {D : Dc} (h : DrItB B w ad m c D) : ∀ k, (Value.slice ad m c).ownBlock = some k → B ≤ k ∧ k < w.heap.size := by
  obtain ⟨xs, h1, h2⟩ := h
  exact h1.lt
theorem drIt_cellsB {B m c : Nat} {w : World} {ad : Option Addr} {D : Dc} (h : DrItB B w ad m c D) (h0 : 0 < m) : ∃ g, ad = some ⟨g, 0, none⟩ ∧ B ≤ g ∧ g < w.heap.size ∧ DcRow w g 0 D w.heap.size := by
  obtain ⟨xs, h1, hn, hi⟩ := h
  rcases h1.2 with ⟨hv, h9⟩ | ⟨g, cp, cur, hv, hB, hh, rest⟩
  · omega
  · simp only [Value.slice.injEq] at hv
    obtain ⟨rfl, _, rfl⟩ := hv
    refine ⟨g, rfl, hB, (h1.lt g rfl).2, fun j hj => ?_⟩
    obtain ⟨ad', cp', ⟨c0, c1, c2, c3⟩, ha, hc, -⟩ := hi j (by omega)
    refine ⟨ad', cp', ⟨?_, ?_, ?_, ?_⟩, atD_at ha, hc⟩
    · rw [Nat.zero_add, h1.cellAt (j * 4) (by omega)]; exact c0
    · rw [Nat.zero_add, h1.cellAt (j * 4 + 1) (by omega)]; exact c1
    · rw [Nat.zero_add, h1.cellAt (j * 4 + 2) (by omega)]; exact c2
    · rw [Nat.zero_add, h1.cellAt (j * 4 + 3) (by omega)]; exact c3
theorem drIt_dcB {B m c : Nat} {w : World} {ad : Option Addr} {D : Dc} (h : DrItB B w ad m c D) : D.n = m ∧ DcAt w ad D w.heap.size := by
  have hn : D.n = m := by obtain ⟨xs, h1, hn, hi⟩ := h; exact hn
  refine ⟨hn, fun h0 => ?_⟩
  obtain ⟨g, e, -, hg, hr⟩ := drIt_cellsB h (by omega)
  exact ⟨g, 0, e, hg, hr⟩
theorem drIt_totB {B m c : Nat} {w : World} {ad : Option Addr} {D : Dc} (h : DrItB B w ad m c D) (hm : m ≤ 1000) : dcTot D ≤ 1048576 := by
  obtain ⟨xs, h1, hn, hi⟩ := h
  have h2 : ∀ j, j < D.n → itSz D j ≤ 1000 := fun j hj => by
    obtain ⟨ad', cp', -, -, -, s1, s2, s3, s4⟩ := hi j (by omega)
    have h3 := sumN_small (atSz (D.AN j) (D.AV j)) 16 (D.AC j) (fun k hk => by have := s4 k hk; unfold atSz; omega)
    unfold itSz atTot
    have : D.AC j * 16 ≤ 16 * 16 := Nat.mul_le_mul_right _ s3
    omega
  have h4 := sumN_small (itSz D) 1000 D.n h2
  have : D.n * 1000 ≤ 1000 * 1000 := Nat.mul_le_mul_right _ (by omega)
  unfold dcTot
  omega
/-- While the document grows. -/
def GSB (G : Nat) (a : Option Addr) (n cap : Nat) (zs : List Int) (w0 w : World) (ad : Option Addr) (m c : Nat) (D : Dc) : Prop := RdAt w G a n cap zs ∧ DrItB (G + 1) w ad m c D ∧ Below G w0 w ∧ KeepA w0 w
section
variable {G : Nat} {a : Option Addr} {n cap : Nat} {zs : List Int} {w0 w w1 w2 : World} {ad ad2 : Option Addr} {m c c2 : Nat} {D : Dc}
theorem gs_sizeB (h : GSB G a n cap zs w0 w ad m c D) : G < w.heap.size := rd_lt h.1
theorem gs_neB (h : GSB G a n cap zs w0 w ad m c D) : (Value.slice ad m c).ownBlock ≠ some G := fun e => by have := drIt_ltB h.2.1 G e; omega
theorem gs_drewB (h : GSB G a n cap zs w0 w ad m c D) (hd : Drew G a n cap zs w w1) : GSB G a n cap zs w0 w1 ad m c D :=
  ⟨hd.1, drIt_keptB h.2.1 hd.2 (fun k hk => by cases hk; exact gs_neB h) (keepA_drew (keepA_refl w) h.1 hd), below_drew h.2.2.1 hd (Nat.le_of_lt (gs_sizeB h)), keepA_drew h.2.2.2 h.1 hd⟩
theorem gs_belowB (h : GSB G a n cap zs w0 w ad m c D) (hb : Below w.heap.size w w1) : GSB G a n cap zs w0 w1 ad m c D :=
  ⟨rd_grown h.1 (grown_below hb) (fun k hk => by cases hk), drIt_belowB h.2.1 hb, h.2.2.1.trans (hb.mono (Nat.le_of_lt (gs_sizeB h))), keepA_below h.2.2.2 hb⟩
theorem gs_allocB (h : GSB G a n cap zs w0 w ad m c D) (o : Obj) : GSB G a n cap zs w0 (w.alloc o) ad m c D := gs_belowB h ((Below.refl _ _).alloc (Nat.le_refl _) o)
end
section
variable {G : Nat} {a : Option Addr} {n cap : Nat} {zs : List Int} {w0 w : World} {g m c k : Nat} {D D' : Dc} {xs : List Value}
theorem gs_cellB (h : GSB G a n cap zs w0 w (some ⟨g, 0, none⟩) m c D) (i : Nat) (hi : i < m * 4) : (∃ v, w.cell? ⟨g, i, none⟩ = some v) ∧ w.frozen? ⟨g, i, none⟩ = false := by
  obtain ⟨xs, h1, h2⟩ := h.2.1
  refine ⟨?_, h1.frozenAt i⟩
  rw [h1.cellAt i (by omega)]
  exact ⟨_, List.getElem?_eq_getElem (by rw [h1.1]; omega)⟩
theorem gs_storeB (h : GSB G a n cap zs w0 w (some ⟨g, 0, none⟩) m c D) (i : Nat) (v : Value) (hI : ∀ (W : World) (xs : List Value), xs.length = m * 4 → ItsB W xs m D → ItsB W (xs.set i v) m D') : GSB G a n cap zs w0 (w.setCell ⟨g, i, none⟩ v) (some ⟨g, 0, none⟩) m c D' := by
  obtain ⟨h1, ⟨xs, h2, h3⟩, h4, h5⟩ := h
  have hg := grown_set w ⟨g, i, none⟩ v
  have hlt := h2.lt g rfl
  have hrow : ∀ k, some g = some k → k = g := fun k hk => by cases hk; rfl
  have hk : KeepA w (w.setCell ⟨g, i, none⟩ v) := keepA_own (keepA_refl w) h2 hg
  refine ⟨rd_grown h1 hg (fun k hk => by have := hrow k hk; omega), ⟨_, (h2.stored i v).1, hI _ _ h2.1 (its_keepB h3 hk)⟩, ?_, keepA_trans h5 hk⟩
  exact h4.grown hg (Nat.le_of_lt (rd_lt h1)) (fun k hk => by have := hrow k hk; omega)
theorem its_NB (y : ByteArray) (hy : y.size ≤ 8) (hk : k < m) (W : World) (xs : List Value) (hl : xs.length = m * 4) (h : ItsB W xs m D) : ItsB W (xs.set (k * 4 + 1) (.string y)) m (updN D k y) := by
  refine ⟨h.1, fun j hj => ?_⟩
  obtain ⟨ad, cp, ⟨c0, c1, c2, c3⟩, h2, h3, s1, s2, s3⟩ := h.2 j hj
  refine ⟨ad, cp, ⟨?_, ?_, ?_, ?_⟩, h2, h3, ?_, s2, s3⟩
  · rw [List.getElem?_set_ne (by omega)]; exact c0
  · by_cases e : j = k
    · subst e; rw [List.getElem?_set_self (by omega)]; show _ = some (Value.string (if j = j then y else D.NM j)); rw [if_pos rfl]
    · rw [List.getElem?_set_ne (by omega)]; show _ = some (Value.string (if j = k then y else D.NM j)); rw [if_neg e]; exact c1
  · rw [List.getElem?_set_ne (by omega)]; exact c2
  · rw [List.getElem?_set_ne (by omega)]; exact c3
  · show (if j = k then y else D.NM j).size ≤ 8
    split
    · exact hy
    · exact s1
end

/-- Where no item has many attributes. -/
theorem gs_toB {G : Nat} {a : Option Addr} {n cap : Nat} {zs : List Int} {w0 w : World} {ad : Option Addr} {m c : Nat} {D : Dc} (h : GS G a n cap zs w0 w ad m c D) : GSB G a n cap zs w0 w ad m c D ∧ ∀ j, j < m → D.AC j ≤ 8 := by
  obtain ⟨h1, ⟨xs, h2, hn, hi⟩, h3, h4⟩ := h
  refine ⟨⟨h1, ⟨xs, h2, hn, fun j hj => ?_⟩, h3, h4⟩, fun j hj => ?_⟩
  · obtain ⟨ad', cp', k1, k2, k3, s1, s2, s3, s4⟩ := hi j hj
    exact ⟨ad', cp', k1, k2, k3, s1, s2, by omega, s4⟩
  · obtain ⟨ad', cp', k1, k2, k3, s1, s2, s3, s4⟩ := hi j hj
    exact s3
def updA (D : Dc) (k ac : Nat) (an av : Nat → ByteArray) : Dc := ⟨D.n, D.U, D.NM, D.TX, fun j => if j = k then ac else D.AC j, fun j => if j = k then an else D.AN j, fun j => if j = k then av else D.AV j⟩
theorem its_AB {m k : Nat} {D : Dc} (ad : Option Addr) (ac cp : Nat) (an av : Nat → ByteArray) (hac : ac ≤ 16) (hcp : ac ≤ cp) (hsm : ∀ j, j < ac → (an j).size ≤ 8 ∧ (av j).size ≤ 8) (hk : k < m) (W : World) (xs : List Value) (hl : xs.length = m * 4) (h : ItsB W xs m D) (ha : AtD W ad ac an av) : ItsB W (xs.set (k * 4 + 3) (.slice ad ac cp)) m (updA D k ac an av) := by
  refine ⟨h.1, fun j hj => ?_⟩
  obtain ⟨ad9, cp9, ⟨c0, c1, c2, c3⟩, h2, h3, s1, s2, s3, s4⟩ := h.2 j hj
  by_cases e : j = k
  · subst e
    refine ⟨ad, cp, ⟨?_, ?_, ?_, ?_⟩, ?_, ?_, s1, s2, ?_, ?_⟩
    · rw [List.getElem?_set_ne (by omega)]; exact c0
    · rw [List.getElem?_set_ne (by omega)]; exact c1
    · rw [List.getElem?_set_ne (by omega)]; exact c2
    · rw [List.getElem?_set_self (by omega)]; show _ = some (Value.slice ad (if j = j then ac else D.AC j) cp); rw [if_pos rfl]
    · show AtD W ad (if j = j then ac else D.AC j) (if j = j then an else D.AN j) (if j = j then av else D.AV j); simp only [if_pos]; exact ha
    · show (if j = j then ac else D.AC j) ≤ cp; rw [if_pos rfl]; exact hcp
    · show (if j = j then ac else D.AC j) ≤ 16; rw [if_pos rfl]; exact hac
    · show ∀ k, k < (if j = j then ac else D.AC j) → ((if j = j then an else D.AN j) k).size ≤ 8 ∧ ((if j = j then av else D.AV j) k).size ≤ 8; simp only [if_pos]; exact hsm
  · refine ⟨ad9, cp9, ⟨?_, ?_, ?_, ?_⟩, ?_, ?_, s1, s2, ?_, ?_⟩
    · rw [List.getElem?_set_ne (by omega)]; exact c0
    · rw [List.getElem?_set_ne (by omega)]; exact c1
    · rw [List.getElem?_set_ne (by omega)]; exact c2
    · rw [List.getElem?_set_ne (by omega)]; show _ = some (Value.slice ad9 (if j = k then ac else D.AC j) cp9); rw [if_neg e]; exact c3
    · show AtD W ad9 (if j = k then ac else D.AC j) (if j = k then an else D.AN j) (if j = k then av else D.AV j); simp only [if_neg e]; exact h2
    · show (if j = k then ac else D.AC j) ≤ cp9; rw [if_neg e]; exact h3
    · show (if j = k then ac else D.AC j) ≤ 16; rw [if_neg e]; exact s3
    · show ∀ k', k' < (if j = k then ac else D.AC j) → ((if j = k then an else D.AN j) k').size ≤ 8 ∧ ((if j = k then av else D.AV j) k').size ≤ 8; simp only [if_neg e]; exact s4
/-- An append, be there something to append or nothing. -/
theorem wp_append_any {P : Program} {w : World} {o : Oper} {a : Act} {K : Act → World → Prop} {Q : Exit → Act → World → Prop} (s x : Operand) (t : TypeId)
    (ho : o.op = .call { callee := .builtin .append, args := #[s, x], argTypes := #[t, t] })
    (base : Nat) (e : TypeId) (i : TypeInfo) (z : Value) (size bytes : Nat) (ht : P.underlying t = some (.slice e)) (hi : P.info? e = some i) (hz : i.zero = some z)
    (hsize : i.size = size) (hby : i.bytes = bytes) (hzs : z.cells.size = size) (hsz : 0 < size)
    (v : Value) (n : Nat) (xs : List Value) (hs : a.eval s = v) (hown : w.ownsRow base e size v n xs)
    (xa : Option Addr) (m c : Nat) (news : List Value) (hx : a.eval x = .slice xa m c) (hl : news.length = m * size) (hnews : 0 < m → ∃ ad, xa = some ad ∧ ∀ j u, news[j]? = some u → w.cell? (ad.add j) = some u) (h1 : ∀ u ∈ news, u.oneCell' = true)
    (h63 : n + m ≤ maxLen) (hbytes : (n + m) * bytes ≤ 140737488355328) (hbase : base ≤ w.heap.size)
    (h : ∀ a' c' w', w'.ownsRow base e size (.slice a' (n + m) c') (n + m) (xs ++ news) → w.grownBy w' v.ownBlock → K (a.put o.dst (.slice a' (n + m) c')) w') : o.wp P a w K Q := by
  by_cases hm : 0 < m
  · obtain ⟨ad, rfl, hnw⟩ := hnews hm
    exact wp_append_lies w s x t ho base e i z size bytes ht hi hz hsize hby hzs hsz v n xs hs hown ad m c news hx hl hnw h1 hm h63 hbytes hbase _ rfl (fun g cap w' k1 k2 _ _ => h _ _ w' k1 k2)
  · obtain rfl : m = 0 := by omega
    rw [Nat.zero_mul] at hl
    obtain rfl : news = [] := List.length_eq_zero_iff.1 hl
    have hv : ∃ a' c', v = .slice a' n c' ∧ n ≤ c' := by
      rcases hown.2 with ⟨rfl, rfl⟩ | ⟨g, cap, cur, rfl, _, _, hc, _⟩
      · exact ⟨none, 0, rfl, Nat.le_refl _⟩
      · exact ⟨_, cap, rfl, hc⟩
    obtain ⟨a', c', rfl, hc⟩ := hv
    have hsrc : Src P i.size t (.slice xa 0 c) 0 [] w := by
      cases xa with
      | none => exact Src.ofNil w ht c
      | some ad => exact Src.ofSlice w ht ad 0 c [] (by simp) (fun j u hj => by simp at hj) (fun u hu => by cases hu)
    have hr := run_append_nothing (P := P) w t t o.type e i ht hi a' n c' hc (.slice xa 0 c) hsrc
    unfold Oper.wp execOp
    simp only [ho, resolve, invoke, builtin, Sem.run_bind, Sem.run_pure, Result.andThen_ok, List.map_toArray, List.map_cons, List.map_nil, hs, hx, hr]
    exact h a' c' w (by rw [List.append_nil]; exact hown) ⟨rfl, rfl, rfl, Nat.le_refl _, fun _ _ _ => rfl⟩
theorem step_append_any {P : Program} {w : World} {ops : Array Oper} {o : Oper} {a : Act} {K : Act → World → Prop} {Q : Exit → Act → World → Prop} {E : Prop} (hgd : o.guard = none) (s x : Operand) (t : TypeId)
    (ho : o.op = .call { callee := .builtin .append, args := #[s, x], argTypes := #[t, t] })
    (base : Nat) (e : TypeId) (i : TypeInfo) (z : Value) (size bytes : Nat) (ht : P.underlying t = some (.slice e)) (hi : P.info? e = some i) (hz : i.zero = some z)
    (hsize : i.size = size) (hby : i.bytes = bytes) (hzs : z.cells.size = size) (hsz : 0 < size)
    (v : Value) (n : Nat) (xs : List Value) (hs : a.eval s = v) (hown : w.ownsRow base e size v n xs)
    (xa : Option Addr) (m c : Nat) (news : List Value) (hx : a.eval x = .slice xa m c) (hl : news.length = m * size) (hnews : 0 < m → ∃ ad, xa = some ad ∧ ∀ j u, news[j]? = some u → w.cell? (ad.add j) = some u) (h1 : ∀ u ∈ news, u.oneCell' = true)
    (h63 : n + m ≤ maxLen) (hbytes : (n + m) * bytes ≤ 140737488355328) (hbase : base ≤ w.heap.size)
    (h : ∀ a' c' w', w'.ownsRow base e size (.slice a' (n + m) c') (n + m) (xs ++ news) → w.grownBy w' v.ownBlock → K (a.put o.dst (.slice a' (n + m) c')) w') :
    if Region.wanted o (yielded ops a.tmps) = true then Oper.wp P o a w K Q else E := by
  have hw : Region.wanted o (yielded ops a.tmps) = true := by simp [Region.wanted, hgd]
  rw [if_pos hw]
  exact wp_append_any s x t ho base e i z size bytes ht hi hz hsize hby hzs hsz v n xs hs hown xa m c news hx hl hnews h1 h63 hbytes hbase h
end Go.Proofs.YtogeicckbdfldaaDoor
