/-
  Plain facts on the names of attributes, of no program's run: which are left out, what their prefixes are bound to, and the row of those that are told.
-/
import Derived.Test.YtogeicckbdfldaaDoorQnL
import Derived.Test.YtogeicckbdfldaaDoorBnL
namespace Go.Proofs.YtogeicckbdfldaaDoor
open Go.RowKit Go.Joins
set_option linter.unusedVariables false
set_option linter.unusedSimpArgs false
abbrev QL := List (ByteArray × ByteArray)
def qsk (nm : ByteArray) : Bool := (bdK nm).isSome
def qsp (D : Dc) (x : Int) (nm : ByteArray) : ByteArray := if (spl nm).1.toList.isEmpty = true then ⟨#[]⟩ else bnV D x (spl nm).1
def qok (D : Dc) (x : Int) (nm : ByteArray) : Bool := (spl nm).1.toList.isEmpty || bnK D x (spl nm).1
def qA (L : QL) (j : Nat) : ByteArray := (L[j]?.getD (⟨#[]⟩, ⟨#[]⟩)).1
def qB (L : QL) (j : Nat) : ByteArray := (L[j]?.getD (⟨#[]⟩, ⟨#[]⟩)).2
def qdup (L : QL) (x y : ByteArray) : Bool := anyQ L.length (qA L) (qB L) x y
/-- The names of the first k attributes at x; none: one has none, or two are one. -/
def qn (D : Dc) (x : Int) (N : Nat → ByteArray) : Nat → Option QL
  | 0 => some []
  | k + 1 => match qn D x N k with
    | none => none
    | some L => if qsk (N k) = true then some L else if qok D x (N k) = true then (if qdup L (qsp D x (N k)) (spl (N k)).2.1 = true then none else some (L ++ [(qsp D x (N k), (spl (N k)).2.1)])) else none
section
variable {D : Dc} {x : Int} {N : Nat → ByteArray} {k : Nat} {L : QL}
theorem qn_skip (h : qn D x N k = some L) (hs : qsk (N k) = true) : qn D x N (k + 1) = some L := by
  rw [qn, h]; dsimp only; rw [if_pos hs]
theorem qn_bad (h : qn D x N k = some L) (hs : qsk (N k) = false) (ho : qok D x (N k) = false) : qn D x N (k + 1) = none := by
  rw [qn, h]; dsimp only; rw [if_neg (by rw [hs]; decide), if_neg (by rw [ho]; decide)]
theorem qn_dup (h : qn D x N k = some L) (hs : qsk (N k) = false) (ho : qok D x (N k) = true) (hd : qdup L (qsp D x (N k)) (spl (N k)).2.1 = true) : qn D x N (k + 1) = none := by
  rw [qn, h]; dsimp only; rw [if_neg (by rw [hs]; decide), if_pos ho, if_pos hd]
theorem qn_put (h : qn D x N k = some L) (hs : qsk (N k) = false) (ho : qok D x (N k) = true) (hd : qdup L (qsp D x (N k)) (spl (N k)).2.1 = false) : qn D x N (k + 1) = some (L ++ [(qsp D x (N k), (spl (N k)).2.1)]) := by
  rw [qn, h]; dsimp only; rw [if_neg (by rw [hs]; decide), if_pos ho, if_neg (by rw [hd]; decide)]
theorem qn_none (h : qn D x N k = none) : ∀ m, k ≤ m → qn D x N m = none
  | 0, hm => by
    have : k = 0 := by omega
    subst this; exact h
  | m + 1, hm => by
    by_cases e : k = m + 1
    · subst e; exact h
    · rw [qn, qn_none h m (by omega)]
theorem qn_len : ∀ (k : Nat) (L : QL), qn D x N k = some L → L.length ≤ k
  | 0, L, h => by rw [qn] at h; cases h; exact Nat.le_refl _
  | k + 1, L, h => by
    rw [qn] at h
    cases hk : qn D x N k with
    | none => rw [hk] at h; cases h
    | some L' =>
      rw [hk] at h
      dsimp only at h
      have := qn_len k L' hk
      split at h
      · cases h; omega
      · split at h
        · split at h
          · cases h
          · cases h; simp; omega
        · cases h
end
theorem pairs_put {xs : List Value} {L : QL} {m : Nat} (h : PairsS xs m (qA L) (qB L)) (hl : xs.length = m * 2) (hm : L.length = m) (q : ByteArray × ByteArray) : PairsS (xs ++ [.string q.1, .string q.2]) (m + 1) (qA (L ++ [q])) (qB (L ++ [q])) := by
  intro j hj
  by_cases e : j = m
  · subst e
    have e1 : (L ++ [q])[j]? = some q := by rw [List.getElem?_append_right (by omega)]; simp [hm]
    unfold qA qB
    rw [e1, List.getElem?_append_right (by omega), List.getElem?_append_right (by omega), hl, show j * 2 - j * 2 = 0 by omega, show j * 2 + 1 - j * 2 = 1 by omega]
    exact ⟨rfl, rfl⟩
  · obtain ⟨h1, h2⟩ := h j (by omega)
    have e1 : (L ++ [q])[j]? = L[j]? := List.getElem?_append_left (by omega)
    unfold qA at h1
    unfold qB at h2
    unfold qA qB
    rw [e1, List.getElem?_append_left (by omega), List.getElem?_append_left (by omega)]
    exact ⟨h1, h2⟩
theorem own_put {B m c2 : Nat} {w2 : World} {ad2 : Option Addr} {xs : List Value} {L : QL} (hp : PairsS xs m (qA L) (qB L)) (hl : xs.length = m * 2) (hm : L.length = m) (q : ByteArray × ByteArray)
    (ho : w2.ownsRow B 41 2 (.slice ad2 (m + 1) c2) (m + 1) (xs ++ [.string q.1, .string q.2])) : OwnQ B w2 ad2 (m + 1) c2 (qA (L ++ [q])) (qB (L ++ [q])) := ⟨_, ho, pairs_put hp hl hm q⟩
/-- What is left out, as the specification asks it. -/
theorem skip_spec {nm : ByteArray} (h : (spl nm).2.2 = true) : qsk nm = (((spl nm).1.toList == [120, 109, 108, 110, 115]) || ((spl nm).1.toList.isEmpty && ((spl nm).2.1.toList == [120, 109, 108, 110, 115]))) := by
  unfold qsk bdK
  cases f1 : ((spl nm).1.toList == [120, 109, 108, 110, 115])
  · rw [if_neg (by decide)]
    rcases colon_cases nm with hc | ⟨k, hc, hk⟩
    · have hn : nameB nm = true := by
        cases hb : nameB nm
        · rw [spl_b hc hb] at h; cases h
        · rfl
      rw [spl_a hc hn]
      have e0 : (noText : ByteArray).toList.isEmpty = true := by rw [ByteArray.toList_eq]; rfl
      dsimp only
      rw [e0]
      cases f2 : (nm.toList == [120, 109, 108, 110, 115])
      · rfl
      · rfl
    · have f2 : (nm.toList == [120, 109, 108, 110, 115]) = false := by
        cases f2 : (nm.toList == [120, 109, 108, 110, 115])
        · rfl
        · rw [beq_iff_eq, ByteArray.toList_eq] at f2
          unfold colon at hc
          rw [f2] at hc
          have : Lib.indexByte [120, 109, 108, 110, 115] 58 = -1 := by decide
          rw [this] at hc
          omega
      have f3 : (spl nm).1.toList.isEmpty = false := by
        cases h1 : nameB (nm.extract 0 k)
        · rw [spl_d hc (.inl h1)] at h; cases h
        · cases h2 : nameB (nm.extract (k + 1) nm.size)
          · rw [spl_d hc (.inr h2)] at h; cases h
          · rw [spl_c hc h1 h2]
            dsimp only
            rw [List.isEmpty_eq_false_iff]
            intro e
            rw [ByteArray.toList_eq] at e
            have : (nm.extract 0 k).size = 0 := by
              have h9 : (nm.extract 0 k).data.toList.length = 0 := by rw [e]; rfl
              simpa using h9
            rw [nameB_none _ this] at h1
            cases h1
      rw [f2, f3]
      rfl
  · rfl
/-- An answer of names. -/
def QAns (o : Option QL) (w : World) (e : Ending) (w' : World) : Prop := Below w.heap.size w w' ∧
  ((o = none ∧ e = .returned (.tuple #[.slice none 0 0, .bool false])) ∨ ∃ L ad c, o = some L ∧ e = .returned (.tuple #[.slice ad L.length c, .bool true]) ∧ OwnQ w.heap.size w' ad L.length c (qA L) (qB L))
theorem infoQ : (Tryd.prog.info? 41).map (fun i => (i.zero, i.size, i.bytes)) = some (some (.agg #[.string ⟨#[]⟩, .string ⟨#[]⟩]), 2, 32) := by kernel_rfl
end Go.Proofs.YtogeicckbdfldaaDoor
