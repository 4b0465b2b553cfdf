/-
  Texts put together: TkL, AppAny.
-/
import Derived.Test.YtfohfljdgmlibaaDoorQ3
import Derived.Test.YtfohfljdgmlibaaDoorQ5
import Derived.Test.YtfohfljdgmlibaaDoorQ1
import Derived.Deep.AppendLies
import Derived.Deep.Upon
/-
  Plain facts: what follows what, told by bits, while a model is gone through.
-/
namespace Go.Proofs.YtfohfljdgmlibaaDoor
open Go.RowKit Go.Joins
set_option linter.unusedVariables false
set_option linter.unusedSimpArgs false
/-- To what followed already has come R. -/
def LkB (F F' : Nat → Nat) (R : Int → Int → Prop) : Prop := ∀ p : Nat, p < 41 → F' p < 1099511627776 ∧ ∀ q : Nat, (F' p).testBit q = true ↔ ((F p).testBit q = true ∨ R p q)
theorem lkB_lt {F F' : Nat → Nat} {R : Int → Int → Prop} (h : LkB F F' R) : ∀ p, p < 41 → F' p < 18446744073709551616 := fun p hp => Nat.lt_of_lt_of_le (h p hp).1 (by decide)
theorem lkB_refl {F : Nat → Nat} {R : Int → Int → Prop} (h : ∀ p, p < 41 → F p < 1099511627776) (hR : ∀ p q : Nat, ¬ R p q) : LkB F F R := fun p hp => ⟨h p hp, fun q => ⟨.inl, fun h9 => h9.elim id (fun h8 => absurd h8 (hR p q))⟩⟩
theorem lkB_trans {F F1 F2 : Nat → Nat} {R1 R2 R : Int → Int → Prop} (h1 : LkB F F1 R1) (h2 : LkB F1 F2 R2) (hR : ∀ p q : Nat, R p q ↔ R1 p q ∨ R2 p q) : LkB F F2 R := fun p hp => ⟨(h2 p hp).1, fun q => by rw [(h2 p hp).2 q, (h1 p hp).2 q, hR p q, or_assoc]⟩
theorem lkB_congr {F F1 : Nat → Nat} {R R' : Int → Int → Prop} (h1 : LkB F F1 R) (hR : ∀ p q : Nat, R p q ↔ R' p q) : LkB F F1 R' := fun p hp => ⟨(h1 p hp).1, fun q => by rw [(h1 p hp).2 q, hR p q]⟩
theorem bits_mem {x : Nat} {S : List Int} (h : BitS x S) (p : Nat) : (p : Int) ∈ bts x ↔ (p : Int) ∈ S := by
  rw [bts_mem (x + 1) x (by omega) (Nat.lt_of_lt_of_le h.1 (by decide)), ← h.2 p]
  constructor
  · rintro ⟨j, e, hj⟩
    have : p = j := by omega
    subst this
    exact hj
  · intro hj; exact ⟨p, rfl, hj⟩
theorem lkB_link {F : Nat → Nat} {a t : Nat} {S T : List Int} (h : ∀ p, p < 41 → F p < 1099511627776) (ha : BitS a S) (ht : BitS t T) : LkB F (lkU F (bts a) t) (fun p q => p ∈ S ∧ q ∈ T) := fun p hp => by
  unfold lkU
  by_cases hm : (p : Int) ∈ bts a
  · rw [if_pos hm]
    refine ⟨or_lt40 (h p hp) ht.1, fun q => ?_⟩
    rw [Nat.testBit_or, Bool.or_eq_true, ht.2 q]
    have := (bits_mem ha p).1 hm
    exact ⟨fun h9 => h9.elim .inl (fun h8 => .inr ⟨this, h8⟩), fun h9 => h9.elim .inl (fun h8 => .inr h8.2)⟩
  · rw [if_neg hm]
    refine ⟨h p hp, fun q => ⟨.inl, fun h9 => h9.elim id (fun h8 => absurd ((bits_mem ha p).2 h8.1) hm)⟩⟩
/-- What has come of the first m kids of a row. -/
def SqR (D : Pn) (L : List Int) (p q : Int) : Prop := (∃ k ∈ L, lk D k.toNat p q) ∨ ∃ M b R, L = M ++ b :: R ∧ p ∈ seqE (fun k => ed D true k.toNat) (fun k => nl D k.toNat) M.reverse ∧ q ∈ ed D false b.toNat
theorem sqR_nil (D : Pn) (p q : Int) : ¬ SqR D [] p q := by
  rintro (⟨k, hk, -⟩ | ⟨M, b, R, e, -⟩)
  · exact absurd hk (List.not_mem_nil)
  · simp at e
theorem sqR_snoc (D : Pn) (L : List Int) (k : Int) (p q : Int) : SqR D (L ++ [k]) p q ↔ SqR D L p q ∨ (lk D k.toNat p q ∨ (p ∈ seqE (fun k => ed D true k.toNat) (fun k => nl D k.toNat) L.reverse ∧ q ∈ ed D false k.toNat)) := by
  constructor
  · rintro (⟨j, hj, h⟩ | ⟨M, b, R, e, h1, h2⟩)
    · rcases List.mem_append.1 hj with hj | hj
      · exact .inl (.inl ⟨j, hj, h⟩)
      · simp at hj; subst hj; exact .inr (.inl h)
    · rcases List.eq_nil_or_concat R with rfl | ⟨R', z, rfl⟩
      · have := List.append_inj' e (by simp)
        obtain ⟨rfl, e2⟩ := this
        simp at e2
        subst e2
        exact .inr (.inr ⟨h1, h2⟩)
      · have e2 : L ++ [k] = (M ++ b :: R') ++ [z] := by rw [e]; simp
        have := List.append_inj' e2 (by simp)
        exact .inl (.inr ⟨M, b, R', this.1, h1, h2⟩)
  · rintro ((⟨j, hj, h⟩ | ⟨M, b, R, e, h1, h2⟩) | (h | ⟨h1, h2⟩))
    · exact .inl ⟨j, List.mem_append_left _ hj, h⟩
    · exact .inr ⟨M, b, R ++ [k], by rw [e]; simp, h1, h2⟩
    · exact .inl ⟨k, by simp, h⟩
    · exact .inr ⟨L, k, [], rfl, h1, h2⟩
/-- The sets of a row: what one kid more makes of them. -/
theorem seq_next {g h : Int → List Int} {nul : Int → Bool} {L : List Int} {k : Int} {f l fk lk9 : Nat} (hf : BitS f (seqE g nul L)) (hl : BitS l (seqE h nul L.reverse)) (hfk : BitS fk (g k)) (hlk : BitS lk9 (h k)) :
    BitS (thF (L.all nul) f fk) (seqE g nul (L ++ [k])) ∧ BitS (thL (nul k) lk9 l) (seqE h nul (L ++ [k]).reverse) := by
  constructor
  · rw [seqE_snoc]
    unfold thF
    by_cases e : L.all nul = true
    · rw [if_pos e, if_pos e]; exact bitS_app hf hfk
    · rw [if_neg e, if_neg e, List.append_nil]; exact hf
  · rw [List.reverse_append]
    show BitS _ (seqE h nul (k :: L.reverse))
    rw [seqE]
    unfold thL
    by_cases e : nul k = true
    · rw [if_pos e, if_pos e]; exact bitS_app hlk hl
    · rw [if_neg e, if_neg e, List.append_nil]; exact hlk
theorem orr_next {g h : Int → List Int} {L : List Int} {k : Int} {f l fk lk9 : Nat} (hf : BitS f (seqE g (fun _ => true) L)) (hl : BitS l (seqE h (fun _ => true) L.reverse)) (hfk : BitS fk (g k)) (hlk : BitS lk9 (h k)) :
    BitS (f ||| fk) (seqE g (fun _ => true) (L ++ [k])) ∧ BitS (l ||| lk9) (seqE h (fun _ => true) (L ++ [k]).reverse) := by
  obtain ⟨h1, h2⟩ := seq_next hf hl hfk hlk
  unfold thF at h1
  unfold thL at h2
  rw [if_pos (by simp)] at h1
  rw [if_pos rfl] at h2
  exact ⟨h1, by rw [Nat.or_comm]; exact h2⟩
/-- The answer of a node, once its kids are done. -/
theorem lk_seq {D : Pn} {i : Nat} (hl : Lo D i) (hk : D.K i = 2) (p q : Int) : lk D i p q ↔ SqR D (D.KL i) p q ∨ (2 ≤ D.OC i ∧ p ∈ ed D true i ∧ q ∈ ed D false i) := by
  rw [lk_iff hl]
  unfold OwP SqR
  rw [← ow_prog (L := D.KL i) (nul := fun k => nl D k.toNat) (g := fun k => ed D true k.toNat) (h := fun k => ed D false k.toNat) (p := p) (q := q)]
  constructor
  · rintro ((h | ⟨-, h⟩) | h)
    · exact .inr h
    · exact .inl (.inr h)
    · exact .inl (.inl h)
  · rintro ((h | h) | h)
    · exact .inr h
    · exact .inl (.inr ⟨hk, h⟩)
    · exact .inl (.inl h)
theorem lk_other {D : Pn} {i : Nat} (hl : Lo D i) (hk : D.K i ≠ 2) (p q : Int) : lk D i p q ↔ (∃ k ∈ D.KL i, lk D k.toNat p q) ∨ (2 ≤ D.OC i ∧ p ∈ ed D true i ∧ q ∈ ed D false i) := by
  rw [lk_iff hl]
  unfold OwP
  constructor
  · rintro ((h | ⟨h, -⟩) | h)
    · exact .inr h
    · exact absurd h hk
    · exact .inl h
  · rintro (h | h)
    · exact .inr h
    · exact .inl (.inl h)
theorem ed_seq {D : Pn} {i : Nat} {rev : Bool} (hl : Lo D i) (hk : D.K i = 2) : ed D rev i = seqE (fun k => ed D rev k.toNat) (fun k => nl D k.toNat) (ordL rev (D.KL i)) := by
  rw [ed_eq hl]
  unfold bdE
  rw [if_pos (.inl hk)]
  have : (fun j : Int => decide (D.K i ≠ 2) || nl D j.toNat) = fun k => nl D k.toNat := by
    funext j
    rw [decide_eq_false (by simp [hk])]
    rfl
  exact congrArg (fun z => seqE (fun k => ed D rev k.toNat) z (ordL rev (D.KL i))) this
theorem ed_or {D : Pn} {i : Nat} {rev : Bool} (hl : Lo D i) (hk : D.K i = 3) : ed D rev i = seqE (fun k => ed D rev k.toNat) (fun _ => true) (ordL rev (D.KL i)) := by
  rw [ed_eq hl]
  unfold bdE
  rw [if_pos (.inr hk)]
  have : (fun j : Int => decide (D.K i ≠ 2) || nl D j.toNat) = fun _ => true := by
    funext j
    rw [decide_eq_true (by rw [hk]; decide)]
    rfl
  exact congrArg (fun z => seqE (fun k => ed D rev k.toNat) z (ordL rev (D.KL i))) this
theorem ed_leaf {D : Pn} {i : Nat} {rev : Bool} (hl : Lo D i) (hk : D.K i = 1 ∨ D.K i = 4) : ed D rev i = [(i : Int)] := by
  rw [ed_eq hl]
  unfold bdE
  rw [if_neg (by omega)]
end Go.Proofs.YtfohfljdgmlibaaDoor

/-
  Plain facts: an append of anything that lies in memory, or of nothing (SpRows and SpA have them too, under other names).
-/
namespace Go.Proofs.YtfohfljdgmlibaaDoor
open Go.RowKit
set_option linter.unusedVariables false
set_option linter.unusedSimpArgs false
/-- An append, be there something to append or nothing. -/
theorem wp_append_src {P : Program} {w : World} {o : Oper} {a : Act} {K : Act → World → Prop} {Q : Exit → Act → World → Prop} (s x : Operand) (t : TypeId)
    (ho : o.op = .call { callee := .builtin .append, args := #[s, x], argTypes := #[t, t] })
    (base : Nat) (e : TypeId) (i : TypeInfo) (z : Value) (size bytes : Nat) (ht : P.underlying t = some (.slice e)) (hi : P.info? e = some i) (hz : i.zero = some z)
    (hsize : i.size = size) (hby : i.bytes = bytes) (hzs : z.cells.size = size) (hsz : 0 < size)
    (v : Value) (n : Nat) (xs : List Value) (hs : a.eval s = v) (hown : w.ownsRow base e size v n xs)
    (xa : Option Addr) (m c : Nat) (news : List Value) (hx : a.eval x = .slice xa m c) (hl : news.length = m * size) (hnews : 0 < m → ∃ ad, xa = some ad ∧ ∀ j u, news[j]? = some u → w.cell? (ad.add j) = some u) (h1 : ∀ u ∈ news, u.oneCell' = true)
    (h63 : n + m ≤ maxLen) (hbytes : (n + m) * bytes ≤ 140737488355328) (hbase : base ≤ w.heap.size)
    (h : ∀ a' c' w', w'.ownsRow base e size (.slice a' (n + m) c') (n + m) (xs ++ news) → w.grownBy w' v.ownBlock → K (a.put o.dst (.slice a' (n + m) c')) w') : o.wp P a w K Q := by
  by_cases hm : 0 < m
  · obtain ⟨ad, rfl, hnw⟩ := hnews hm
    exact wp_append_lies w s x t ho base e i z size bytes ht hi hz hsize hby hzs hsz v n xs hs hown ad m c news hx hl hnw h1 hm h63 hbytes hbase _ rfl (fun g cap w' k1 k2 _ _ => h _ _ w' k1 k2)
  · obtain rfl : m = 0 := by omega
    rw [Nat.zero_mul] at hl
    obtain rfl : news = [] := List.length_eq_zero_iff.1 hl
    have hv : ∃ a' c', v = .slice a' n c' ∧ n ≤ c' := by
      rcases hown.2 with ⟨rfl, rfl⟩ | ⟨g, cap, cur, rfl, _, _, hc, _⟩
      · exact ⟨none, 0, rfl, Nat.le_refl _⟩
      · exact ⟨_, cap, rfl, hc⟩
    obtain ⟨a', c', rfl, hc⟩ := hv
    have hsrc : Src P i.size t (.slice xa 0 c) 0 [] w := by
      cases xa with
      | none => exact Src.ofNil w ht c
      | some ad => exact Src.ofSlice w ht ad 0 c [] (by simp) (fun j u hj => by simp at hj) (fun u hu => by cases hu)
    have hr := run_append_nothing (P := P) w t t o.type e i ht hi a' n c' hc (.slice xa 0 c) hsrc
    unfold Oper.wp execOp
    simp only [ho, resolve, invoke, builtin, Sem.run_bind, Sem.run_pure, Result.andThen_ok, List.map_toArray, List.map_cons, List.map_nil, hs, hx, hr]
    exact h a' c' w (by rw [List.append_nil]; exact hown) ⟨rfl, rfl, rfl, Nat.le_refl _, fun _ _ _ => rfl⟩
/-- The same at a list of operations. -/
theorem wpList_append_src {P : Program} {w : World} {ops : Array Oper} {rest : List Oper} {o : Oper} {a : Act} {Q : Exit → Act → World → Prop} (hgd : o.guard = none) (s x : Operand) (t : TypeId)
    (ho : o.op = .call { callee := .builtin .append, args := #[s, x], argTypes := #[t, t] })
    (base : Nat) (e : TypeId) (i : TypeInfo) (z : Value) (size bytes : Nat) (ht : P.underlying t = some (.slice e)) (hi : P.info? e = some i) (hz : i.zero = some z)
    (hsize : i.size = size) (hby : i.bytes = bytes) (hzs : z.cells.size = size) (hsz : 0 < size)
    (v : Value) (n : Nat) (xs : List Value) (hs : a.eval s = v) (hown : w.ownsRow base e size v n xs)
    (xa : Option Addr) (m c : Nat) (news : List Value) (hx : a.eval x = .slice xa m c) (hl : news.length = m * size) (hnews : 0 < m → ∃ ad, xa = some ad ∧ ∀ j u, news[j]? = some u → w.cell? (ad.add j) = some u) (h1 : ∀ u ∈ news, u.oneCell' = true)
    (h63 : n + m ≤ maxLen) (hbytes : (n + m) * bytes ≤ 140737488355328) (hbase : base ≤ w.heap.size)
    (h : ∀ a' c' w', w'.ownsRow base e size (.slice a' (n + m) c') (n + m) (xs ++ news) → w.grownBy w' v.ownBlock → wpList P ops Q rest (a.put o.dst (.slice a' (n + m) c')) w') : wpList P ops Q (o :: rest) a w :=
  wpList_plain hgd fun _ hK => wp_append_src s x t ho base e i z size bytes ht hi hz hsize hby hzs hsz v n xs hs hown xa m c news hx hl hnews h1 h63 hbytes hbase fun a' c' w' h2 h3 => hK _ _ (h a' c' w' h2 h3)
/-- What an append reads of a row of numbers. -/
theorem row_src {w : World} {b off : Nat} {L : List Int} (h : ∀ j, j < L.length → w.cell? ⟨b, off + j, none⟩ = some (.int .i64 (L[j]?.getD 0))) : ∀ j u, (L.map (Value.int .i64))[j]? = some u → w.cell? ((⟨b, off, none⟩ : Addr).add j) = some u := by
  intro j u hu
  have hadd : (⟨b, off, none⟩ : Addr).add j = ⟨b, off + j, none⟩ := by unfold Addr.add; split <;> simp_all
  have hj : j < L.length := by
    rcases Nat.lt_or_ge j L.length with h' | h'
    · exact h'
    · rw [List.getElem?_eq_none (by rw [List.length_map]; exact h')] at hu; cases hu
  rw [hadd, h j hj]
  rw [List.getElem?_map, List.getElem?_eq_getElem hj] at hu
  rw [List.getElem?_eq_getElem hj]
  simpa using hu
theorem ints_one (L : List Int) : ∀ u ∈ L.map (Value.int .i64), u.oneCell' = true := by
  intro u hu
  obtain ⟨z, -, rfl⟩ := List.mem_map.1 hu
  rfl
end Go.Proofs.YtfohfljdgmlibaaDoor
