/-
  Texts put together: TrM, RmA.
-/
import Derived.Test.YtfohfljdgmlibaaDoorU16
import Derived.Test.YtfohfljdgmlibaaDoorU2
import Derived.Deep.AppendLies
/-
  Plain facts on trees of model nodes, of no program: what rows of names they take; turned round.
-/
namespace Go.Proofs.YtfohfljdgmlibaaDoor
set_option linter.unusedVariables false
set_option linter.unusedSimpArgs false
/-- A model's node with all below it: kind, name, how often, kids. -/
inductive Tr where
  | nd : Int → ByteArray → Int → List Tr → Tr
/- Turned round. -/
mutual
def mir : Tr → Tr
  | .nd k nm oc ks => .nd k nm oc (if k = 2 then (mirs ks).reverse else mirs ks)
def mirs : List Tr → List Tr
  | [] => []
  | t :: ts => mir t :: mirs ts
end
theorem mirs_map : ∀ ts : List Tr, mirs ts = ts.map mir
  | [] => rfl
  | t :: ts => by rw [mirs, mirs_map ts]; rfl
mutual
theorem mir_mir : ∀ t : Tr, mir (mir t) = t
  | .nd k nm oc ks => by
    have h := mirs_mirs ks
    rw [mirs_map, mirs_map] at h
    rw [mir, mir]
    by_cases e : k = 2
    · rw [if_pos e, if_pos e, mirs_map, mirs_map, List.map_reverse, List.reverse_reverse, h]
    · rw [if_neg e, if_neg e, mirs_map, mirs_map, h]
theorem mirs_mirs : ∀ ts : List Tr, mirs (mirs ts) = ts
  | [] => rfl
  | t :: ts => by rw [mirs, mirs, mir_mir t, mirs_mirs ts]
end
/-- A name leads there. -/
def mtT (k : Int) (nm s : ByteArray) : Prop := k = 4 ∨ (k = 1 ∧ nm.toList = s.toList)
/- The cells that a tree leads to from a cell. -/
mutual
def enT (W : List ByteArray) : Tr → Nat → Nat → Prop
  | .nd k nm oc ks => rep oc (fun a b => (k = 2 ∧ chT W ks a b) ∨ (k = 3 ∧ anT W ks a b) ∨ ((k = 1 ∨ k = 4) ∧ b = a + 1 ∧ a < W.length ∧ mtT k nm (W[a]?.getD ⟨#[]⟩)))
def chT (W : List ByteArray) : List Tr → Nat → Nat → Prop
  | [], a, b => a = b
  | t :: ts, a, b => ∃ c, enT W t a c ∧ chT W ts c b
def anT (W : List ByteArray) : List Tr → Nat → Nat → Prop
  | [], a, b => False
  | t :: ts, a, b => enT W t a b ∨ anT W ts a b
end
theorem chT_append {W : List ByteArray} : ∀ (xs ys : List Tr) (a b : Nat), chT W (xs ++ ys) a b ↔ ∃ c, chT W xs a c ∧ chT W ys c b
  | [], ys, a, b => by
    rw [List.nil_append]
    constructor
    · intro h; exact ⟨a, by rw [chT], h⟩
    · rintro ⟨c, h1, h2⟩
      rw [chT] at h1
      rw [h1]; exact h2
  | x :: xs, ys, a, b => by
    rw [List.cons_append, chT]
    constructor
    · rintro ⟨c, h1, h2⟩
      obtain ⟨d, h3, h4⟩ := (chT_append xs ys c b).1 h2
      exact ⟨d, by rw [chT]; exact ⟨c, h1, h3⟩, h4⟩
    · rintro ⟨d, h1, h4⟩
      rw [chT] at h1
      obtain ⟨c, h1, h3⟩ := h1
      exact ⟨c, h1, (chT_append xs ys c b).2 ⟨d, h3, h4⟩⟩
theorem anT_iff {W : List ByteArray} : ∀ (xs : List Tr) (a b : Nat), anT W xs a b ↔ ∃ t ∈ xs, enT W t a b
  | [], a, b => by rw [anT]; simp
  | x :: xs, a, b => by rw [anT, anT_iff xs]; simp
/-- The same relation from behind: cells counted from the end. -/
def rvR (N : Nat) (R : Nat → Nat → Prop) (a b : Nat) : Prop := a ≤ N ∧ b ≤ N ∧ R (N - b) (N - a)
theorem St.last {R : Nat → Nat → Prop} {a b c : Nat} (h : St R a b) (k : R b c) : St R a c := h.trans (.step k (.refl _))
theorem st_in {R : Nat → Nat → Prop} {N : Nat} (hR : ∀ a b, R a b → a ≤ N ∧ b ≤ N) {a b : Nat} (h : St R a b) (ha : a ≤ N) : b ≤ N := by
  induction h with
  | refl => exact ha
  | step h1 _ ih => exact ih (hR _ _ h1).2
theorem st_rev {R Q : Nat → Nat → Prop} {N : Nat} (hR : ∀ a b, a ≤ N → b ≤ N → (R a b ↔ Q (N - b) (N - a))) (hin : ∀ a b, R a b → a ≤ N → b ≤ N) {a b : Nat} (h : St R a b) (ha : a ≤ N) : St Q (N - b) (N - a) := by
  induction h with
  | refl => exact .refl _
  | step h1 h2 ih =>
    have hb := hin _ _ h1 ha
    exact (ih hb).last ((hR _ _ ha hb).1 h1)
theorem st_le9 {R : Nat → Nat → Prop} (h9 : ∀ a b, R a b → a ≤ b) {a b : Nat} (h : St R a b) : a ≤ b := by
  induction h with
  | refl => exact Nat.le_refl _
  | step h1 _ ih => have := h9 _ _ h1; omega
theorem rep_le {oc : Int} {R : Nat → Nat → Prop} (h9 : ∀ a b, R a b → a ≤ b) {a b : Nat} (h : rep oc R a b) : a ≤ b := by
  rcases h with ⟨-, h⟩ | ⟨-, h | h⟩ | ⟨-, h⟩ | ⟨-, c, h1, h2⟩
  · exact h9 _ _ h
  · omega
  · exact h9 _ _ h
  · exact st_le9 h9 h
  · have := h9 _ _ h1
    have := st_le9 h9 h2
    omega
mutual
theorem enT_le {W : List ByteArray} : ∀ (t : Tr) (a b : Nat), enT W t a b → a ≤ b
  | .nd k nm oc ks, a, b, h => by
    rw [enT] at h
    refine rep_le (fun a b h => ?_) h
    rcases h with ⟨-, h⟩ | ⟨-, h⟩ | ⟨-, h, -⟩
    · exact chT_le ks a b h
    · exact anT_le ks a b h
    · omega
theorem chT_le {W : List ByteArray} : ∀ (ts : List Tr) (a b : Nat), chT W ts a b → a ≤ b
  | [], a, b, h => by rw [chT] at h; omega
  | t :: ts, a, b, h => by
    rw [chT] at h
    obtain ⟨c, h1, h2⟩ := h
    have := enT_le t a c h1
    have := chT_le ts c b h2
    omega
theorem anT_le {W : List ByteArray} : ∀ (ts : List Tr) (a b : Nat), anT W ts a b → a ≤ b
  | [], a, b, h => by rw [anT] at h; exact h.elim
  | t :: ts, a, b, h => by
    rw [anT] at h
    rcases h with h | h
    · exact enT_le t a b h
    · exact anT_le ts a b h
end
theorem st_in2 {R : Nat → Nat → Prop} {N : Nat} (hR : ∀ a b, R a b → a ≤ N → b ≤ N) {a b : Nat} (h : St R a b) (ha : a ≤ N) : b ≤ N := by
  induction h with
  | refl => exact ha
  | step h1 _ ih => exact ih (hR _ _ h1 ha)
theorem rep_in {oc : Int} {R : Nat → Nat → Prop} {N : Nat} (hR : ∀ a b, R a b → a ≤ N → b ≤ N) {a b : Nat} (h : rep oc R a b) (ha : a ≤ N) : b ≤ N := by
  rcases h with ⟨-, h⟩ | ⟨-, h | h⟩ | ⟨-, h⟩ | ⟨-, c, h1, h2⟩
  · exact hR _ _ h ha
  · omega
  · exact hR _ _ h ha
  · exact st_in2 hR h ha
  · exact st_in2 hR h2 (hR _ _ h1 ha)
mutual
theorem enT_in {W : List ByteArray} : ∀ (t : Tr) (a b : Nat), enT W t a b → a ≤ W.length → b ≤ W.length
  | .nd k nm oc ks, a, b, h, ha => by
    rw [enT] at h
    refine rep_in (fun a b h ha => ?_) h ha
    rcases h with ⟨-, h⟩ | ⟨-, h⟩ | ⟨-, h, h2, -⟩
    · exact chT_in ks a b h ha
    · exact anT_in ks a b h ha
    · omega
theorem chT_in {W : List ByteArray} : ∀ (ts : List Tr) (a b : Nat), chT W ts a b → a ≤ W.length → b ≤ W.length
  | [], a, b, h, ha => by rw [chT] at h; omega
  | t :: ts, a, b, h, ha => by
    rw [chT] at h
    obtain ⟨c, h1, h2⟩ := h
    exact chT_in ts c b h2 (enT_in t a c h1 ha)
theorem anT_in {W : List ByteArray} : ∀ (ts : List Tr) (a b : Nat), anT W ts a b → a ≤ W.length → b ≤ W.length
  | [], a, b, h, ha => by rw [anT] at h; exact h.elim
  | t :: ts, a, b, h, ha => by
    rw [anT] at h
    rcases h with h | h
    · exact enT_in t a b h ha
    · exact anT_in ts a b h ha
end
theorem st_turn {R Q : Nat → Nat → Prop} {N : Nat} (hin : ∀ a b, R a b → a ≤ N → b ≤ N) (hR : ∀ a b, R a b → a ≤ N → Q (N - b) (N - a)) {a b : Nat} (h : St R a b) (ha : a ≤ N) : St Q (N - b) (N - a) := by
  induction h with
  | refl => exact .refl _
  | step h1 h2 ih => exact (ih (hin _ _ h1 ha)).last (hR _ _ h1 ha)
theorem st_head {Q : Nat → Nat → Prop} {x y z : Nat} (h : St Q x y) (k : Q y z) : ∃ d, Q x d ∧ St Q d z := by
  cases h with
  | refl => exact ⟨z, k, .refl _⟩
  | step h1 h2 => exact ⟨_, h1, h2.last k⟩
theorem rep_turn {oc : Int} {R Q : Nat → Nat → Prop} {N : Nat} (hin : ∀ a b, R a b → a ≤ N → b ≤ N) (hR : ∀ a b, R a b → a ≤ N → Q (N - b) (N - a)) {a b : Nat} (h : rep oc R a b) (ha : a ≤ N) : rep oc Q (N - b) (N - a) := by
  rcases h with ⟨h0, h⟩ | ⟨h0, h | h⟩ | ⟨h0, h⟩ | ⟨h0, c, h1, h2⟩
  · exact .inl ⟨h0, hR _ _ h ha⟩
  · exact .inr (.inl ⟨h0, .inl (by rw [h])⟩)
  · exact .inr (.inl ⟨h0, .inr (hR _ _ h ha)⟩)
  · exact .inr (.inr (.inl ⟨h0, st_turn hin hR h ha⟩))
  · exact .inr (.inr (.inr ⟨h0, st_head (st_turn hin hR h2 (hin _ _ h1 ha)) (hR _ _ h1 ha)⟩))
theorem mtT_rev {W : List ByteArray} {k : Int} {nm : ByteArray} {a : Nat} (ha : a < W.length) (h : mtT k nm (W[a]?.getD ⟨#[]⟩)) : mtT k nm ((W.reverse)[W.length - (a + 1)]?.getD ⟨#[]⟩) := by
  rw [List.getElem?_reverse (by omega), show W.length - 1 - (W.length - (a + 1)) = a by omega]
  exact h
mutual
theorem enT_turn {W : List ByteArray} : ∀ (t : Tr) (a b : Nat), enT W t a b → a ≤ W.length → enT W.reverse (mir t) (W.length - b) (W.length - a)
  | .nd k nm oc ks, a, b, h, ha => by
    rw [enT] at h
    rw [mir, enT]
    refine rep_turn (fun a b h ha => ?_) (fun a b h ha => ?_) h ha
    · rcases h with ⟨-, h⟩ | ⟨-, h⟩ | ⟨-, h, h2, -⟩
      · exact chT_in ks a b h ha
      · exact anT_in ks a b h ha
      · omega
    · rcases h with ⟨h0, h⟩ | ⟨h0, h⟩ | ⟨h0, h, h2, h3⟩
      · refine .inl ⟨h0, ?_⟩
        rw [if_pos h0]
        exact chT_turn ks a b h ha
      · refine .inr (.inl ⟨h0, ?_⟩)
        rw [if_neg (by omega)]
        exact anT_turn ks a b h ha
      · refine .inr (.inr ⟨h0, by omega, by rw [List.length_reverse]; omega, ?_⟩)
        rw [h]
        exact mtT_rev h2 h3
theorem chT_turn {W : List ByteArray} : ∀ (ts : List Tr) (a b : Nat), chT W ts a b → a ≤ W.length → chT W.reverse (mirs ts).reverse (W.length - b) (W.length - a)
  | [], a, b, h, ha => by rw [chT] at h; rw [mirs, List.reverse_nil, chT, h]
  | t :: ts, a, b, h, ha => by
    rw [chT] at h
    obtain ⟨c, h1, h2⟩ := h
    rw [mirs, List.reverse_cons, chT_append]
    refine ⟨_, chT_turn ts c b h2 (enT_in t a c h1 ha), ?_⟩
    rw [chT]
    exact ⟨_, enT_turn t a c h1 ha, by rw [chT]⟩
theorem anT_turn {W : List ByteArray} : ∀ (ts : List Tr) (a b : Nat), anT W ts a b → a ≤ W.length → anT W.reverse (mirs ts) (W.length - b) (W.length - a)
  | [], a, b, h, ha => by rw [anT] at h; exact h.elim
  | t :: ts, a, b, h, ha => by
    rw [anT] at h
    rw [mirs, anT]
    rcases h with h | h
    · exact .inl (enT_turn t a b h ha)
    · exact .inr (anT_turn ts a b h ha)
end
/-- A row is taken just if the row from behind is taken by the tree turned round. -/
theorem enT_mir {W : List ByteArray} (t : Tr) : enT W.reverse (mir t) 0 W.length ↔ enT W t 0 W.length := by
  constructor
  · intro h
    have h1 := enT_turn (W := W.reverse) (mir t) 0 W.length h (Nat.zero_le _)
    rw [List.reverse_reverse, mir_mir, List.length_reverse, Nat.sub_self, Nat.sub_zero] at h1
    exact h1
  · intro h
    have h1 := enT_turn t 0 W.length h (Nat.zero_le _)
    rw [Nat.sub_self, Nat.sub_zero] at h1
    exact h1
end Go.Proofs.YtfohfljdgmlibaaDoor

/-
  Plain facts on the reader of models: where it lies, the row of nodes that it makes, what stays as it was.
-/
namespace Go.Proofs.YtfohfljdgmlibaaDoor
open Go.RowKit Go.Joins
set_option linter.unusedVariables false
set_option linter.unusedSimpArgs false
/-- All that was there is as it was, but blocks of S. -/
structure Kp (S : Nat → Prop) (w w' : World) : Prop where
  os : w'.os = w.os
  tape : w'.tape = w.tape
  output : w'.output = w.output
  size : w.heap.size ≤ w'.heap.size
  block : ∀ k, k < w.heap.size → ¬ S k → w'.heap[k]? = w.heap[k]?
theorem Kp.refl (S : Nat → Prop) (w : World) : Kp S w w := ⟨rfl, rfl, rfl, Nat.le_refl _, fun _ _ _ => rfl⟩
theorem Kp.trans {S T : Nat → Prop} {w w1 w2 : World} (h : Kp S w w1) (k : Kp T w1 w2) (hT : ∀ j, j < w.heap.size → T j → S j) : Kp S w w2 :=
  ⟨k.os.trans h.os, k.tape.trans h.tape, k.output.trans h.output, Nat.le_trans h.size k.size, fun j hj hs => (k.block j (Nat.lt_of_lt_of_le hj h.size) (fun ht => hs (hT j hj ht))).trans (h.block j hj hs)⟩
theorem kp_grown {S : Nat → Prop} {w w' : World} {row : Option Nat} (h : w.grownBy w' row) (hS : ∀ k, row = some k → S k) : Kp S w w' :=
  ⟨h.os, h.tape, h.output, h.size, fun k hk hs => h.block k hk (fun e => hs (hS k e.symm))⟩
theorem kp_set {S : Nat → Prop} (w : World) (p : Addr) (v : Value) (h : S p.block) : Kp S w (w.setCell p v) :=
  ⟨rfl, rfl, rfl, by rw [heap_setCell_size]; exact Nat.le_refl _, fun k hk hs => heap_setCell_far _ _ _ _ (fun e => hs (by rw [← e]; exact h))⟩
theorem kp_alloc {S : Nat → Prop} (w : World) (o : Obj) : Kp S w (w.alloc o) := kp_grown (World.grownBy_alloc w o none) (fun k hk => by cases hk)
theorem kp_drew {S : Nat → Prop} (w : World) : Kp S w w.drew := ⟨rfl, rfl, rfl, Nat.le_refl _, fun _ _ _ => rfl⟩
theorem kp_drewN {S : Nat → Prop} (w : World) (q : Nat) : Kp S w (w.drewN q) := ⟨rfl, rfl, rfl, Nat.le_refl _, fun _ _ _ => rfl⟩
theorem kp_below {S : Nat → Prop} {B : Nat} {w w' : World} (h : Kp S w w') (hB : B ≤ w.heap.size) (hS : ∀ k, S k → B ≤ k) : Below B w w' :=
  ⟨h.os, h.tape, h.output, h.size, fun k hk => h.block k (Nat.lt_of_lt_of_le hk hB) (fun hs => by have := hS k hs; omega)⟩
theorem own_kp {S : Nat → Prop} {w w' : World} {B e z n : Nat} {v : Value} {xs : List Value} (h : w.ownsRow B e z v n xs) (k : Kp S w w') (hS : ∀ j, v.ownBlock = some j → ¬ S j) : w'.ownsRow B e z v n xs := by
  obtain ⟨hl, h⟩ := h
  refine ⟨hl, ?_⟩
  rcases h with h | ⟨g, cap, cur, hv, hg, hh, h1, h2, h3, h4⟩
  · exact .inl h
  · exact .inr ⟨g, cap, cur, hv, hg, (k.block g (Array.getElem?_eq_some_iff.1 hh).1 (hS g (by rw [hv]; rfl))).trans hh, h1, h2, h3, h4⟩
/-- The block of a row has the type of its cells. -/
theorem own_type {w : World} {B e z n k : Nat} {v : Value} {xs : List Value} (h : w.ownsRow B e z v n xs) (hk : v.ownBlock = some k) : ∃ cur, w.heap[k]? = some (.cells cur e (0, 0)) := by
  rcases h.2 with ⟨rfl, -⟩ | ⟨g, cap, cur, hv, -, hh, -⟩
  · cases hk
  · rw [hv] at hk
    have : g = k := by simpa [Value.ownBlock] using hk
    subst this
    exact ⟨cur, hh⟩
theorem type_ne {w : World} {B e z n k : Nat} {v : Value} {xs : List Value} (h : w.ownsRow B e z v n xs) (hk : v.ownBlock = some k) {cs : Array Value} {t : TypeId} {fr : Nat × Nat} {R : Nat} (hR : w.heap[R]? = some (.cells cs t fr)) (ht : e ≠ t) : k ≠ R := by
  rintro rfl
  obtain ⟨cur, hc⟩ := own_type h hk
  rw [hc] at hR
  simp only [Option.some.injEq, Obj.cells.injEq] at hR
  exact ht hR.2.1
theorem own_ne {w : World} {B e z n k B' e' z' n' k' : Nat} {v v' : Value} {xs xs' : List Value} (h : w.ownsRow B e z v n xs) (hk : v.ownBlock = some k) (h' : w.ownsRow B' e' z' v' n' xs') (hk' : v'.ownBlock = some k') (ht : e ≠ e') : k ≠ k' := by
  obtain ⟨cur, hc⟩ := own_type h' hk'
  exact type_ne h hk hc ht
/-- A row of nodes: what its cells hold, the kids of each in a block of S. -/
def PIts (S : Nat → Prop) (w : World) (xs : List Value) (m : Nat) (D : Pn) : Prop := D.n = m ∧ ∀ j, j < m → ∃ ad cp, (xs[j * 4]? = some (.int .i64 (D.K j)) ∧ xs[j * 4 + 1]? = some (.string (D.NM j)) ∧ xs[j * 4 + 2]? = some (.slice ad (D.KL j).length cp) ∧ xs[j * 4 + 3]? = some (.int .i64 (D.OC j))) ∧
  w.ownsRow 0 2 1 (.slice ad (D.KL j).length cp) (D.KL j).length ((D.KL j).map (Value.int .i64)) ∧ (∀ k, (Value.slice ad (D.KL j).length cp).ownBlock = some k → S k) ∧ (D.NM j).size ≤ 20000 ∧ (D.KL j).length ≤ 100
/-- The block of a node's kids; no two nodes have one. -/
def kbk (xs : List Value) (j : Nat) : Option Nat := match xs[j * 4 + 2]? with
  | some v => v.ownBlock
  | none => none
def Dj (xs : List Value) (m : Nat) : Prop := ∀ i j k, i < m → j < m → i ≠ j → kbk xs i = some k → kbk xs j ≠ some k
theorem kbk_of {xs : List Value} {j : Nat} {v : Value} (h : xs[j * 4 + 2]? = some v) : kbk xs j = v.ownBlock := by unfold kbk; rw [h]
def PO (B : Nat) (S : Nat → Prop) (w : World) (ad : Option Addr) (m c : Nat) (D : Pn) : Prop := ∃ xs, w.ownsRow B 34 4 (.slice ad m c) m xs ∧ PIts S w xs m D ∧ Dj xs m
theorem dj_push {xs : List Value} {m : Nat} (h : Dj xs m) (hl : xs.length = m * 4) (a b v d : Value) (hv : ∀ j k, j < m → kbk xs j = some k → v.ownBlock ≠ some k) : Dj (xs ++ [a, b, v, d]) (m + 1) := by
  have e1 : ∀ j, j < m → kbk (xs ++ [a, b, v, d]) j = kbk xs j := fun j hj => by unfold kbk; rw [List.getElem?_append_left (by omega)]
  have e2 : kbk (xs ++ [a, b, v, d]) m = v.ownBlock := kbk_of (by rw [List.getElem?_append_right (by omega), hl]; simp)
  intro i j k hi hj hne hk
  by_cases c1 : i < m
  · rw [e1 i c1] at hk
    by_cases c2 : j < m
    · rw [e1 j c2]; exact h i j k c1 c2 hne hk
    · have : j = m := by omega
      subst this
      rw [e2]; exact hv i k c1 hk
  · have : i = m := by omega
    subst this
    rw [e2] at hk
    rw [e1 j (by omega)]
    intro e
    exact hv j k (by omega) e hk
theorem pits_kp {S T : Nat → Prop} {w w' : World} {xs : List Value} {m : Nat} {D : Pn} (h : PIts S w xs m D) (k : Kp T w w') (hT : ∀ B' z n v ys j, w.ownsRow B' 2 z v n ys → v.ownBlock = some j → S j → ¬ T j) : PIts S w' xs m D := by
  refine ⟨h.1, fun j hj => ?_⟩
  obtain ⟨ad, cp, h1, h2, h3, h4⟩ := h.2 j hj
  exact ⟨ad, cp, h1, own_kp h2 k (fun i hi => hT _ _ _ _ _ i h2 hi (h3 i hi)), h3, h4⟩
theorem pits_imp {S T : Nat → Prop} {w : World} {xs : List Value} {m : Nat} {D : Pn} (h : PIts S w xs m D) (hT : ∀ k, k < w.heap.size → S k → T k) : PIts T w xs m D := by
  refine ⟨h.1, fun j hj => ?_⟩
  obtain ⟨ad, cp, h1, h2, h3, h4⟩ := h.2 j hj
  exact ⟨ad, cp, h1, h2, fun k hk => hT k (h2.lt k hk).2 (h3 k hk), h4⟩
def pushN (D : Pn) (k : Int) (nm : ByteArray) (L : List Int) (oc : Int) : Pn := ⟨D.n + 1, fun j => if j < D.n then D.K j else k, fun j => if j < D.n then D.NM j else nm, fun j => if j < D.n then D.KL j else L, fun j => if j < D.n then D.OC j else oc⟩
theorem pits_push {S : Nat → Prop} {w : World} {xs : List Value} {m : Nat} {D : Pn} (h : PIts S w xs m D) (hl : xs.length = m * 4) (k : Int) (nm : ByteArray) (L : List Int) (oc : Int) (ad : Option Addr) (cp : Nat)
    (h2 : w.ownsRow 0 2 1 (.slice ad L.length cp) L.length (L.map (Value.int .i64))) (h3 : ∀ j, (Value.slice ad L.length cp).ownBlock = some j → S j) (h4 : nm.size ≤ 20000) (h5 : L.length ≤ 100) :
    PIts S w (xs ++ [.int .i64 k, .string nm, .slice ad L.length cp, .int .i64 oc]) (m + 1) (pushN D k nm L oc) := by
  obtain ⟨hn, h⟩ := h
  refine ⟨by show D.n + 1 = _; omega, fun j hj => ?_⟩
  by_cases e : j < m
  · obtain ⟨ad', cp', ⟨a0, a1, a2, a3⟩, b2, b3, b4⟩ := h j e
    have e' : j < D.n := by omega
    simp only [pushN, if_pos e']
    refine ⟨ad', cp', ⟨?_, ?_, ?_, ?_⟩, b2, b3, b4⟩
    all_goals (rw [List.getElem?_append_left (by omega)]; assumption)
  · have ej : j = m := by omega
    subst ej
    have e' : ¬ j < D.n := by omega
    simp only [pushN, if_neg e']
    refine ⟨ad, cp, ⟨?_, ?_, ?_, ?_⟩, h2, h3, h4, h5⟩
    all_goals (rw [List.getElem?_append_right (by omega), hl]; simp)
theorem po_imp {B : Nat} {S T : Nat → Prop} {w : World} {ad : Option Addr} {m c : Nat} {D : Pn} (h : PO B S w ad m c D) (hT : ∀ k, k < w.heap.size → S k → T k) : PO B T w ad m c D := by
  obtain ⟨xs, h1, h2, h3⟩ := h
  exact ⟨xs, h1, pits_imp h2 hT, h3⟩
theorem po_nil (B : Nat) (S : Nat → Prop) (w : World) : PO B S w none 0 0 ⟨0, fun _ => 0, fun _ => ⟨#[]⟩, fun _ => [], fun _ => 0⟩ := ⟨[], World.ownsRow_nil _ _ _ _, ⟨rfl, fun j hj => absurd hj (Nat.not_lt_zero _)⟩, fun i _ _ hi => absurd hi (Nat.not_lt_zero _)⟩
/-- What stands apart from the row of nodes stays it. -/
theorem po_kp {B : Nat} {S T : Nat → Prop} {w w' : World} {ad : Option Addr} {m c : Nat} {D : Pn} (h : PO B S w ad m c D) (k : Kp T w w') (h1 : ∀ j, (Value.slice ad m c).ownBlock = some j → ¬ T j) (hT : ∀ B' z n v ys j, w.ownsRow B' 2 z v n ys → v.ownBlock = some j → S j → ¬ T j) : PO B S w' ad m c D := by
  obtain ⟨xs, h2, h3, h4⟩ := h
  exact ⟨xs, own_kp h2 k h1, pits_kp h3 k hT, h4⟩
/-- As an argument. -/
theorem po_at {B : Nat} {S : Nat → Prop} {w : World} {ad : Option Addr} {m c : Nat} {D : Pn} (h : PO B S w ad m c D) : D.n = m ∧ PnAt w ad D w.heap.size := by
  obtain ⟨xs, h1, ⟨hn, h2⟩, -⟩ := h
  refine ⟨hn, fun h0 => ?_⟩
  rcases h1.2 with ⟨-, hz⟩ | ⟨g, cap, cur, hv, -, hh, -⟩
  · omega
  · simp only [Value.slice.injEq] at hv
    obtain ⟨rfl, -, rfl⟩ := hv
    refine ⟨g, 0, rfl, (Array.getElem?_eq_some_iff.1 hh).1, fun j hj => ?_⟩
    obtain ⟨ad, cp, ⟨a0, a1, a2, a3⟩, b2, -⟩ := h2 j (by omega)
    refine ⟨ad, cp, ?_, own_rowAt9 b2, ?_⟩
    · unfold PnCells
      rw [Nat.zero_add]
      exact ⟨(h1.cellAt _ (by omega)).trans a0, (h1.cellAt _ (by omega)).trans a1, (h1.cellAt _ (by omega)).trans a2, (h1.cellAt _ (by omega)).trans a3⟩
    · rcases b2.2 with ⟨hv, hz⟩ | ⟨g', cap', cur', hv, -, -, hc, -⟩
      · omega
      · simp only [Value.slice.injEq] at hv
        omega
theorem sumN_bound (f : Nat → Nat) (q : Nat) : ∀ m, (∀ j, j < m → f j ≤ q) → sumN f m ≤ q * m
  | 0, _ => Nat.le_refl _
  | m + 1, h => by
    have h1 := sumN_bound f q m (fun j hj => h j (by omega))
    have h2 := h m (by omega)
    show sumN f m + f m ≤ q * (m + 1)
    rw [Nat.mul_add]
    omega
theorem po_tot {B : Nat} {S : Nat → Prop} {w : World} {ad : Option Addr} {m c : Nat} {D : Pn} (h : PO B S w ad m c D) (hm : m ≤ 50) : pnTot D ≤ 1048576 := by
  obtain ⟨xs, -, ⟨hn, h2⟩, -⟩ := h
  have h9 := sumN_bound (pnSz D) 20100 m (fun j hj => by
    obtain ⟨ad, cp, -, -, -, h4, h5⟩ := h2 j hj
    show (D.NM j).size + (D.KL j).length ≤ 20100
    omega)
  unfold pnTot
  rw [hn]
  omega
/-- The reader lies in block R. -/
def L8 (w : World) (R : Nat) (s : ByteArray) (p : Nat) (bd : Bool) (ad : Option Addr) (m c : Nat) : Prop := w.heap[R]? = some (.cells #[.string s, .int .i64 p, .bool bd, .slice ad m c] 105 (0, 0))
theorem l8_cells {w : World} {R : Nat} {s : ByteArray} {p : Nat} {bd : Bool} {ad : Option Addr} {m c : Nat} (h : L8 w R s p bd ad m c) : w.cell? ⟨R, 0, none⟩ = some (.string s) ∧ w.cell? ⟨R, 1, none⟩ = some (.int .i64 p) ∧ w.cell? ⟨R, 2, none⟩ = some (.bool bd) ∧ w.cell? ⟨R, 3, none⟩ = some (.slice ad m c) := by
  have e : ∀ i, w.cell? ⟨R, i, none⟩ = (#[.string s, .int .i64 p, .bool bd, .slice ad m c] : Array Value)[i]? := fun i => by rw [cell_of_row w R i _ _ (0, 0) h]
  exact ⟨e 0, e 1, e 2, e 3⟩
theorem l8_frozen {w : World} {R : Nat} {s : ByteArray} {p : Nat} {bd : Bool} {ad : Option Addr} {m c : Nat} (h : L8 w R s p bd ad m c) (i : Nat) : w.frozen? ⟨R, i, none⟩ = false := frozen_of_row w R i _ _ h
theorem l8_lt {w : World} {R : Nat} {s : ByteArray} {p : Nat} {bd : Bool} {ad : Option Addr} {m c : Nat} (h : L8 w R s p bd ad m c) : R < w.heap.size := (Array.getElem?_eq_some_iff.1 h).1
theorem l8_kp {S : Nat → Prop} {w w' : World} {R : Nat} {s : ByteArray} {p : Nat} {bd : Bool} {ad : Option Addr} {m c : Nat} (h : L8 w R s p bd ad m c) (k : Kp S w w') (hS : ¬ S R) : L8 w' R s p bd ad m c := (k.block R (l8_lt h) hS).trans h
theorem l8_p {w : World} {R : Nat} {s : ByteArray} {p : Nat} {bd : Bool} {ad : Option Addr} {m c : Nat} (h : L8 w R s p bd ad m c) (p' : Nat) : L8 (w.setCell ⟨R, 1, none⟩ (.int .i64 p')) R s p' bd ad m c := heap_setCell_same w R 1 _ _ (.int .i64 p') h
theorem l8_b {w : World} {R : Nat} {s : ByteArray} {p : Nat} {bd : Bool} {ad : Option Addr} {m c : Nat} (h : L8 w R s p bd ad m c) (b' : Bool) : L8 (w.setCell ⟨R, 2, none⟩ (.bool b')) R s p b' ad m c := heap_setCell_same w R 2 _ _ (.bool b') h
theorem l8_o {w : World} {R : Nat} {s : ByteArray} {p : Nat} {bd : Bool} {ad : Option Addr} {m c : Nat} (h : L8 w R s p bd ad m c) (ad' : Option Addr) (m' c' : Nat) : L8 (w.setCell ⟨R, 3, none⟩ (.slice ad' m' c')) R s p bd ad' m' c' := heap_setCell_same w R 3 _ _ (.slice ad' m' c') h
end Go.Proofs.YtfohfljdgmlibaaDoor
