/-
  Texts put together: FdM, KyM, KyEq.
-/
import Derived.Test.YtdepgkpfibmbgaaGreatDoorF3
import Derived.Lib.IndexMore
/-
  Fields: which texts are fields, the names and the attribute that one tells. No step of the program in this text.
-/
namespace Go.Proofs.YtdepgkpfibmbgaaGreatDoor
open Go.RowKit
set_option linter.unusedVariables false
set_option linter.unusedSimpArgs false
/-- A text around the first byte c of it. -/
def ct1 (c : UInt8) : List UInt8 → List UInt8 × List UInt8 × Bool
  | [] => ([], [], false)
  | b :: l => if b = c then ([], l, true) else (b :: (ct1 c l).1, (ct1 c l).2.1, (ct1 c l).2.2)
theorem idy_cons (c b : UInt8) (l : List UInt8) : Lib.index (b :: l) [c] = if b = c then 0 else if Lib.index l [c] == -1 then -1 else Lib.index l [c] + 1 := by
  show (if [c].isPrefixOf (b :: l) then (0 : Int) else if Lib.index l [c] == -1 then -1 else Lib.index l [c] + 1) = _
  by_cases h : b = c
  · subst h; simp [List.isPrefixOf]
  · have h2 : (c == b) = false := by rw [beq_eq_false_iff_ne]; exact fun e => h e.symm
    simp [List.isPrefixOf, h, h2]
theorem idy_ge (c : UInt8) : ∀ l, -1 ≤ Lib.index l [c]
  | [] => by simp [Lib.index]
  | b :: l => by
    have := idy_ge c l
    rw [idy_cons]
    split
    · omega
    · split
      · omega
      · omega
theorem ct1_eq (c : UInt8) : ∀ l, Lib.cut l [c] = ct1 c l
  | [] => by simp [Lib.cut, ct1, Lib.index]
  | b :: l => by
    have ih := ct1_eq c l
    have hg := idy_ge c l
    unfold Lib.cut at ih ⊢
    rw [idy_cons]
    unfold ct1
    by_cases h : b = c
    · rw [if_pos h, if_pos h]; simp
    · rw [if_neg h, if_neg h, ← ih]
      by_cases h1 : Lib.index l [c] = -1
      · rw [h1]; simp
      · have h2 : (Lib.index l [c] == -1) = false := by rw [beq_eq_false_iff_ne]; exact h1
        obtain ⟨n, hn⟩ : ∃ n : Nat, Lib.index l [c] = n := ⟨(Lib.index l [c]).toNat, by omega⟩
        rw [h2, hn]
        have e1 : (0 : Int) ≤ (n : Int) + 1 := by omega
        have e2 : (0 : Int) ≤ (n : Int) := by omega
        have e3 : ((n : Int) + 1).toNat = n + 1 := by omega
        have e4 : ((n : Int)).toNat = n := by omega
        simp only [Bool.false_eq_true, if_false, if_pos e1, if_pos e2, e3, e4, List.length_cons, List.length_nil, List.take_succ_cons, Nat.zero_add]
        rw [show n + 1 + 1 = (n + 1) + 1 from rfl, List.drop_succ_cons]
theorem ct1_at (c : UInt8) : ∀ (l : List UInt8) (k : Nat), (∀ j, j < k → l[j]? ≠ some c) → l[k]? = some c → ct1 c l = (l.take k, l.drop (k + 1), true)
  | [], k, h1, h => by simp at h
  | b :: l, 0, h1, h => by
    simp at h
    unfold ct1
    rw [if_pos h]; simp
  | b :: l, k + 1, h1, h => by
    have hb : b ≠ c := by have := h1 0 (by omega); simpa using this
    have ih := ct1_at c l k (fun j hj => by have := h1 (j + 1) (by omega); simpa using this) (by simpa using h)
    unfold ct1
    rw [if_neg hb, ih]; simp
theorem ct1_none (c : UInt8) : ∀ (l : List UInt8), (∀ b ∈ l, b ≠ c) → ct1 c l = (l, [], false)
  | [], _ => rfl
  | b :: l, h => by
    have ih := ct1_none c l (fun x hx => h x (List.mem_cons_of_mem _ hx))
    unfold ct1
    rw [if_neg (h b (by simp)), ih]
theorem ct1_sz (c : UInt8) : ∀ l, (ct1 c l).1.length ≤ l.length ∧ (ct1 c l).2.1.length ≤ l.length
  | [] => by simp [ct1]
  | b :: l => by
    have := ct1_sz c l
    unfold ct1
    split <;> simp <;> omega
/-- A byte that no name has. -/
theorem name_no64 {l : List UInt8} (h : (64 : UInt8) ∈ l) : nameL l = false := by
  unfold nameL
  obtain ⟨k, hk, e⟩ := List.mem_iff_getElem.1 h
  have hs : k < (⟨l.toArray⟩ : ByteArray).size := by show k < l.toArray.size; simpa using hk
  have e2 : ((⟨l.toArray⟩ : ByteArray)[k]) = 64 := by
    show (l.toArray)[k]'(by simpa using hk) = 64
    simpa using e
  by_cases h0 : k = 0
  · subst h0
    exact nameB_first _ (by omega) (by rw [e2]; decide)
  · exact nameB_more _ k (by omega) hs (by rw [e2]; decide)
theorem sg_mem {c : UInt8} (hc : c ≠ 47) : ∀ (l cur : List UInt8), (c ∈ l ∨ c ∈ cur) → ∃ p ∈ sg cur l, c ∈ p
  | [], cur, h => by
    rcases h with h | h
    · simp at h
    · exact ⟨cur, by simp [sg], h⟩
  | b :: t, cur, h => by
    by_cases hb : b = 47
    · subst hb
      rw [sg_sign]
      rcases h with h | h
      · rcases List.mem_cons.1 h with h | h
        · exact absurd h hc
        · obtain ⟨p, hp, hm⟩ := sg_mem hc t [] (.inl h)
          exact ⟨p, List.mem_cons_of_mem _ hp, hm⟩
      · exact ⟨cur, by simp, h⟩
    · rw [sg_more hb]
      refine sg_mem hc t (cur ++ [b]) ?_
      rcases h with h | h
      · rcases List.mem_cons.1 h with h | h
        · exact .inr (by simp [h])
        · exact .inl h
      · exact .inr (by simp [h])
theorem all_no64 {l : List UInt8} (h : (64 : UInt8) ∈ l) : allN l = false := by
  obtain ⟨p, hp, hm⟩ := sg_mem (c := 64) (by decide) l [] (.inl h)
  unfold allN
  rw [List.all_eq_false]
  exact ⟨p, hp, by rw [name_no64 hm]; decide⟩
theorem sg_ne (l : List UInt8) : ∀ cur, sg cur l ≠ [] := by
  induction l with
  | nil => intro cur; simp [sg]
  | cons c t ih =>
    intro cur
    by_cases h : c = 47
    · subst h; rw [sg_sign]; simp
    · rw [sg_more h]; exact ih _
/-- What begins with // has a name that is empty. -/
theorem all_deep {l : List UInt8} (h : deepL l = true) : allN l = false := by
  have hp : ([47, 47] : List UInt8) <+: l := List.isPrefixOf_iff_prefix.1 h
  obtain ⟨r, rfl⟩ := hp
  show allN (47 :: (47 :: r)) = false
  unfold allN
  rw [sg_sign, List.all_cons]
  have : nameL [] = false := by decide
  rw [this]; rfl
theorem all_size : ∀ (l cur : List UInt8), (sg cur l).all nameL = true → cur.length + l.length + 1 ≤ 41 * (sg cur l).length
  | [], cur, h => by
    simp [sg] at h ⊢
    have : cur.length ≤ 40 := by
      rcases Nat.lt_or_ge 40 cur.length with h2 | h2
      · exfalso
        have h3 : nameL cur = false := nameB_long _ (by show 40 < cur.toArray.size; simpa using h2)
        exact absurd (h.symm.trans h3) (by decide)
      · exact h2
    omega
  | b :: t, cur, h => by
    by_cases hb : b = 47
    · subst hb
      rw [sg_sign] at h ⊢
      rw [List.all_cons, Bool.and_eq_true] at h
      have ih := all_size t [] h.2
      have : cur.length ≤ 40 := by
        rcases Nat.lt_or_ge 40 cur.length with h2 | h2
        · exfalso
          have h3 : nameL cur = false := nameB_long _ (by show 40 < cur.toArray.size; simpa using h2)
          exact absurd (h.1.symm.trans h3) (by decide)
        · exact h2
      simp at ih ⊢
      omega
    · rw [sg_more hb] at h ⊢
      have ih := all_size t (cur ++ [b]) h
      simp at ih ⊢
      omega
/-- A path that does not begin anywhere. -/
def pathF (l : List UInt8) : Bool := allN l && decide (cntN l ≤ 6)
theorem pathF_size {l : List UInt8} (h : pathF l = true) : l.length ≤ 245 := by
  unfold pathF at h
  rw [Bool.and_eq_true, decide_eq_true_iff] at h
  have := all_size l [] h.1
  have h2 := h.2
  unfold cntN at h2
  simp at this
  omega
theorem pathF_shallow {l : List UInt8} (h : pathF l = true) : deepL l = false ∧ restL l = l := by
  unfold pathF at h
  rw [Bool.and_eq_true] at h
  have hd : deepL l = false := by
    cases hd : deepL l
    · rfl
    · rw [all_deep hd] at h; simp at h
  refine ⟨hd, ?_⟩
  unfold restL Lib.trimPrefix
  rw [if_neg]
  show ¬ deepL l = true
  rw [hd]; decide
/-- The program's way. -/
theorem pathF_route (s : ByteArray) : (routeB s && !deepL s.data.toList) = pathF s.data.toList := by
  cases hd : deepL s.data.toList
  · have hr : restL s.data.toList = s.data.toList := by
      unfold restL Lib.trimPrefix
      rw [if_neg]
      show ¬ deepL s.data.toList = true
      rw [hd]; decide
    have hp : pathF s.data.toList = true → s.size ≤ 20000 := fun h => by
      have := pathF_size h
      simp at this
      omega
    unfold routeB
    rw [hr]
    by_cases h : s.size ≤ 20000
    · rw [decide_eq_true h]
      unfold pathF
      cases allN s.data.toList <;> simp
    · rw [decide_eq_false h]
      cases hq : pathF s.data.toList
      · simp
      · exact absurd (hp hq) h
  · unfold pathF
    rw [all_deep hd]
    simp
/-- The specification's way. -/
theorem pathF_steps (s : ByteArray) : (allN (restS s).data.toList && decide (cntN (restS s).data.toList ≤ 6) && !deepS s) = pathF s.data.toList := by
  cases hd : deepS s
  · have hr : restS s = s := by unfold restS; rw [if_neg (by rw [hd]; decide)]
    rw [hr]
    unfold pathF
    simp
  · unfold pathF
    have : deepL s.data.toList = true := by
      unfold deepS at hd
      rw [Bool.and_eq_true] at hd
      exact hd.2
    rw [all_deep this]
    simp
theorem pathF_restS {s : ByteArray} (h : pathF s.data.toList = true) : restS s = s ∧ deepS s = false := by
  have hd : deepS s = false := by
    unfold deepS
    rw [(pathF_shallow h).1]; simp
  exact ⟨by unfold restS; rw [if_neg (by rw [hd]; decide)], hd⟩
/-- The names and the attribute that a field tells. -/
def fld (l : List UInt8) : Option (List (List UInt8) × List UInt8) :=
  if l = [46] then some ([], []) else
  if (ct1 64 l).2.2 = true then
    if nameL (ct1 64 l).2.1 = true then
      if (ct1 64 l).1 = [] then some ([], (ct1 64 l).2.1) else
      if Lib.hasSuffix (ct1 64 l).1 [47] = true then
        if pathF (Lib.trimSuffix (ct1 64 l).1 [47]) = true then some (sg [] (Lib.trimSuffix (ct1 64 l).1 [47]), (ct1 64 l).2.1) else none
      else none
    else none
  else if pathF l = true then some (sg [] l, []) else none
theorem fld_dot : fld [46] = some ([], []) := rfl
theorem fld_down {l : List UInt8} (h0 : l ≠ [46]) (h : (ct1 64 l).2.2 = false) : fld l = if pathF l = true then some (sg [] l, []) else none := by
  unfold fld; rw [if_neg h0, if_neg (by rw [h]; decide)]
theorem fld_name {l : List UInt8} (h : (ct1 64 l).2.2 = true) (hn : nameL (ct1 64 l).2.1 = false) : fld l = none := by
  have h0 : l ≠ [46] := fun e => by subst e; exact absurd h (by decide)
  unfold fld; rw [if_neg h0, if_pos h, if_neg (by rw [hn]; decide)]
theorem fld_here {l : List UInt8} (h : (ct1 64 l).2.2 = true) (hn : nameL (ct1 64 l).2.1 = true) (he : (ct1 64 l).1 = []) : fld l = some ([], (ct1 64 l).2.1) := by
  have h0 : l ≠ [46] := fun e => by subst e; exact absurd h (by decide)
  unfold fld; rw [if_neg h0, if_pos h, if_pos hn, if_pos he]
theorem fld_bare {l : List UInt8} (h : (ct1 64 l).2.2 = true) (hn : nameL (ct1 64 l).2.1 = true) (he : (ct1 64 l).1 ≠ []) (hp : Lib.hasSuffix (ct1 64 l).1 [47] = false) : fld l = none := by
  have h0 : l ≠ [46] := fun e => by subst e; exact absurd h (by decide)
  unfold fld; rw [if_neg h0, if_pos h, if_pos hn, if_neg he, if_neg (by rw [hp]; decide)]
theorem fld_up {l : List UInt8} (h : (ct1 64 l).2.2 = true) (hn : nameL (ct1 64 l).2.1 = true) (he : (ct1 64 l).1 ≠ []) (hp : Lib.hasSuffix (ct1 64 l).1 [47] = true) :
    fld l = if pathF (Lib.trimSuffix (ct1 64 l).1 [47]) = true then some (sg [] (Lib.trimSuffix (ct1 64 l).1 [47]), (ct1 64 l).2.1) else none := by
  have h0 : l ≠ [46] := fun e => by subst e; exact absurd h (by decide)
  unfold fld; rw [if_neg h0, if_pos h, if_pos hn, if_neg he, if_pos hp]
/-- The last byte 64 of a text's first k ones: -1, or its place. -/
def LastA (l : List UInt8) (k : Nat) (a : Int) : Prop := (a = -1 ∧ ∀ j, j < k → l[j]? ≠ some 64) ∨ (∃ n : Nat, a = n ∧ n < k ∧ l[n]? = some 64 ∧ ∀ j, n < j → j < k → l[j]? ≠ some 64)
theorem lastA_zero (l : List UInt8) : LastA l 0 (-1) := .inl ⟨rfl, fun j h => by omega⟩
theorem lastA_yes {l : List UInt8} {k : Nat} {a : Int} (h : LastA l k a) (hk : l[k]? = some 64) : LastA l (k + 1) k := .inr ⟨k, rfl, by omega, hk, fun j h1 h2 => by omega⟩
theorem lastA_no {l : List UInt8} {k : Nat} {a : Int} (h : LastA l k a) (hk : l[k]? ≠ some 64) : LastA l (k + 1) a := by
  rcases h with ⟨e, h⟩ | ⟨n, e, h1, h2, h⟩
  · refine .inl ⟨e, fun j hj => ?_⟩
    by_cases e : j = k
    · subst e; exact hk
    · exact h j (by omega)
  · refine .inr ⟨n, e, by omega, h2, fun j hj hj2 => ?_⟩
    by_cases e : j = k
    · subst e; exact hk
    · exact h j hj (by omega)
theorem lastA_range {l : List UInt8} {k : Nat} {a : Int} (h : LastA l k a) : -1 ≤ a ∧ a < k := by
  rcases h with ⟨e, h⟩ | ⟨n, e, h1, h2, h⟩ <;> omega
theorem last_none {l : List UInt8} (h : LastA l l.length (-1)) : ct1 64 l = (l, [], false) := by
  rcases h with ⟨e, h⟩ | ⟨n, e, h1, h2, h⟩
  · refine ct1_none 64 l fun b hb e => ?_
    obtain ⟨k, hk, e2⟩ := List.mem_iff_getElem.1 hb
    exact h k hk (by rw [List.getElem?_eq_getElem hk, e2, e])
  · omega
/-- The first place of a byte. -/
theorem first_at {l : List UInt8} {n : Nat} (h : l[n]? = some 64) : ∃ k, k ≤ n ∧ l[k]? = some 64 ∧ ∀ j, j < k → l[j]? ≠ some 64 := by
  induction n using Nat.strongRecOn with
  | ind n ih =>
    by_cases hh : ∃ j, j < n ∧ l[j]? = some 64
    · obtain ⟨j, hj, e⟩ := hh
      obtain ⟨k, h1, h2, h3⟩ := ih j hj e
      exact ⟨k, by omega, h2, h3⟩
    · exact ⟨n, Nat.le_refl _, h, fun j hj e => hh ⟨j, hj, e⟩⟩
theorem suf47 (h : List UInt8) (n : Nat) (hn : h.length = n + 1) : (Lib.hasSuffix h [47] = true ↔ h[n]? = some 47) ∧ (Lib.hasSuffix h [47] = true → Lib.trimSuffix h [47] = h.take n) := by
  obtain ⟨a, b, rfl⟩ : ∃ a b, h = a ++ [b] := ⟨h.dropLast, h.getLast (fun e => by rw [e] at hn; simp at hn), (List.dropLast_concat_getLast _).symm⟩
  have ha : a.length = n := by simp at hn; exact hn
  have e : Lib.hasSuffix (a ++ [b]) [47] = true ↔ b = 47 := by
    unfold Lib.hasSuffix
    rw [List.isSuffixOf_iff_suffix]
    constructor
    · rintro ⟨t, ht⟩
      have := (List.append_inj' ht rfl).2
      simp at this
      exact this.symm
    · rintro rfl
      exact ⟨a, rfl⟩
  refine ⟨?_, fun h => ?_⟩
  · rw [e, ← ha]
    simp
  · unfold Lib.trimSuffix
    rw [if_pos h]
    simp [ha]
/-- The specification's way: the last byte 64. -/
def fldS (l : List UInt8) (n : Nat) : Option (List (List UInt8) × List UInt8) :=
  if nameL (l.drop (n + 1)) = true then
    if n = 0 then some ([], l.drop 1) else
    if l[n - 1]? = some 47 then (if pathF (l.take (n - 1)) = true then some (sg [] (l.take (n - 1)), l.drop (n + 1)) else none) else none
  else none
theorem fld_last {l : List UInt8} {n : Nat} (h : LastA l l.length n) : fld l = fldS l n := by
  rcases h with ⟨e, h⟩ | ⟨m, e, h1, h2, h⟩
  · omega
  have e : m = n := by omega
  subst e
  obtain ⟨k, hk, hk2, hk3⟩ := first_at h2
  have hc := ct1_at 64 l k hk3 hk2
  have a1 : (ct1 64 l).1 = l.take k := by rw [hc]
  have a2 : (ct1 64 l).2.1 = l.drop (k + 1) := by rw [hc]
  have a3 : (ct1 64 l).2.2 = true := by rw [hc]
  have hkl : k < l.length := by omega
  by_cases e : k = m
  · subst e
    unfold fldS
    cases hn : nameL (l.drop (k + 1))
    · rw [fld_name a3 (by rw [a2]; exact hn)]; rfl
    · rw [if_pos rfl]
      by_cases h0 : k = 0
      · subst h0
        rw [fld_here a3 (by rw [a2]; exact hn) (by rw [a1]; rfl), if_pos rfl, a2]
      · have hne : (ct1 64 l).1 ≠ [] := by
          rw [a1]; intro e
          have := congrArg List.length e
          rw [List.length_take, List.length_nil] at this
          omega
        obtain ⟨q, rfl⟩ : ∃ q, k = q + 1 := ⟨k - 1, by omega⟩
        have hs := suf47 (l.take (q + 1)) q (by simp; omega)
        have hg : (l.take (q + 1))[q]? = l[q]? := by simp
        rw [hg] at hs
        rw [if_neg h0, Nat.add_sub_cancel]
        by_cases h7 : l[q]? = some 47
        · have hs1 := hs.1.2 h7
          have hs2 := hs.2 hs1
          have ht : (l.take (q + 1)).take q = l.take q := by rw [List.take_take]; congr 1; omega
          rw [fld_up a3 (by rw [a2]; exact hn) hne (by rw [a1]; exact hs1), if_pos h7, a1, hs2, ht, a2]
        · have hs1 : Lib.hasSuffix (l.take (q + 1)) [47] = false := by
            cases hh : Lib.hasSuffix (l.take (q + 1)) [47]
            · rfl
            · exact absurd (hs.1.1 hh) h7
          rw [fld_bare a3 (by rw [a2]; exact hn) hne (by rw [a1]; exact hs1), if_neg h7]
  · have hm : (64 : UInt8) ∈ l.drop (k + 1) := by
      rw [List.mem_iff_getElem?]
      refine ⟨m - (k + 1), ?_⟩
      rw [List.getElem?_drop]
      rw [show k + 1 + (m - (k + 1)) = m by omega]
      exact h2
    rw [fld_name a3 (by rw [a2]; exact name_no64 hm)]
    unfold fldS
    split
    · rw [if_neg (by omega)]
      split
      · rename_i h7
        have hp : pathF (l.take (m - 1)) = false := by
          have : (64 : UInt8) ∈ l.take (m - 1) := by
            have hkm : k ≠ m - 1 := fun e => by rw [← e, hk2] at h7; exact absurd h7 (by decide)
            rw [List.mem_iff_getElem?]
            refine ⟨k, ?_⟩
            rw [List.getElem?_take_of_lt (by omega)]
            exact hk2
          unfold pathF
          rw [all_no64 this]; rfl
        rw [hp]; rfl
      · rfl
    · rfl
theorem fld_small {l : List UInt8} {x : List (List UInt8) × List UInt8} (h : fld l = some x) : l.length ≤ 20000 := by
  rcases Nat.lt_or_ge 20000 l.length with hb | hb
  · exfalso
    unfold fld at h
    have h0 : l ≠ [46] := fun e => by subst e; simp at hb
    rw [if_neg h0] at h
    split at h
    · rename_i h3
      split at h
      · rename_i hn
        have hn2 : (ct1 64 l).2.1.length ≤ 40 := by
          rcases Nat.lt_or_ge 40 (ct1 64 l).2.1.length with h2 | h2
          · exfalso
            have h3 : nameL (ct1 64 l).2.1 = false := nameB_long _ (by show 40 < (ct1 64 l).2.1.toArray.size; simpa using h2)
            exact absurd (hn.symm.trans h3) (by decide)
          · exact h2
        have hl : ∀ l, (ct1 64 l).2.2 = true → l.length = (ct1 64 l).1.length + 1 + (ct1 64 l).2.1.length := by
          intro l
          induction l with
          | nil => intro h; simp [ct1] at h
          | cons b t ih =>
            intro h
            unfold ct1 at h ⊢
            split
            · simp; omega
            · rename_i hb
              rw [if_neg hb] at h
              have := ih h
              simp
              omega
        have hl := hl l h3
        split at h
        · rename_i he
          rw [he] at hl
          simp at hl
          omega
        · split at h
          · rename_i hs
            split at h
            · rename_i hp
              have := pathF_size hp
              have h5 : (ct1 64 l).1.length ≤ (Lib.trimSuffix (ct1 64 l).1 [47]).length + 1 := by
                unfold Lib.trimSuffix
                rw [if_pos hs]
                simp
                omega
              omega
            · cases h
          · cases h
      · cases h
    · split at h
      · rename_i hp
        have := pathF_size hp
        omega
      · cases h
  · exact hb
end Go.Proofs.YtdepgkpfibmbgaaGreatDoor

/-
  Keys: which rows of keys are right. No step of the program in this text.
-/
namespace Go.Proofs.YtdepgkpfibmbgaaGreatDoor
open Go.RowKit
set_option linter.unusedVariables false
set_option linter.unusedSimpArgs false
theorem ba_eq (a b : ByteArray) : (a.toList == b.toList) = true ↔ a = b := by
  rw [ByteArray.toList_eq, ByteArray.toList_eq, beq_iff_eq]
  constructor
  · intro h
    obtain ⟨⟨a⟩⟩ := a
    obtain ⟨⟨b⟩⟩ := b
    simp at h
    rw [h]
  · intro h; rw [h]
theorem ba_ne {a b : ByteArray} (h : (a.toList == b.toList) = false) : a ≠ b := fun e => by
  rw [(ba_eq a b).2 e] at h; cases h
/-- A key, by itself, is right but for what it refers to. -/
def KeyOne (x : Ky) : Prop := nameB x.nm = true ∧ (1 ≤ x.kd ∧ x.kd ≤ 3) ∧ nameB x.on = true ∧ routeB x.pa = true ∧ (1 ≤ x.fl.length ∧ x.fl.length ≤ 4) ∧ ∀ j, j < x.fl.length → (fld (x.fl[j]?.getD ⟨#[]⟩).data.toList).isSome = true
/-- Key j is one that key i may refer to. -/
def RefAt (L : List Ky) (j i : Nat) : Prop := (kyA L j).nm = (kyA L i).re ∧ (kyA L j).kd ≠ 3 ∧ (kyA L j).fl.length = (kyA L i).fl.length ∧ (kyA L j).on = (kyA L i).on
/-- Key i is right, the ones ahead of it being so. -/
def KeyAt (L : List Ky) (i : Nat) : Prop := KeyOne (kyA L i) ∧ (∀ j, j < i → (kyA L j).nm ≠ (kyA L i).nm) ∧ ((kyA L i).kd = 3 → ∃ j, j < i ∧ RefAt L j i) ∧ ((kyA L i).kd ≠ 3 → (kyA L i).re = ⟨#[]⟩)
def KeysP (L : List Ky) : Prop := L.length ≤ 10 ∧ ∀ i, i < L.length → KeyAt L i
theorem keys_one {L : List Ky} {i : Nat} (hi : i < L.length) (h : ¬ KeyOne (kyA L i)) : ¬ KeysP L := fun H => h (H.2 i hi).1
theorem keys_twice {L : List Ky} {i j : Nat} (hi : i < L.length) (hj : j < i) (h : (kyA L j).nm = (kyA L i).nm) : ¬ KeysP L := fun H => (H.2 i hi).2.1 j hj h
theorem keys_ref {L : List Ky} {i : Nat} (hi : i < L.length) (h3 : (kyA L i).kd = 3) (h : ¬ ∃ j, j < i ∧ RefAt L j i) : ¬ KeysP L := fun H => h ((H.2 i hi).2.2.1 h3)
theorem keys_no {L : List Ky} {i : Nat} (hi : i < L.length) (h3 : (kyA L i).kd ≠ 3) (h : (kyA L i).re ≠ ⟨#[]⟩) : ¬ KeysP L := fun H => h ((H.2 i hi).2.2.2 h3)
theorem ref_step {L : List Ky} {i j : Nat} {B C D : Bool} (hB : B = true ↔ ∃ q, q < j ∧ RefAt L q i) (hC : C = true ↔ RefAt L j i) (hD : D = (B || C)) : D = true ↔ ∃ q, q < j + 1 ∧ RefAt L q i := by
  rw [hD, Bool.or_eq_true, hB, hC]
  constructor
  · rintro (⟨q, h1, h2⟩ | h)
    · exact ⟨q, by omega, h2⟩
    · exact ⟨j, by omega, h⟩
  · rintro ⟨q, h1, h2⟩
    by_cases e : q = j
    · subst e; exact .inr h2
    · exact .inl ⟨q, by omega, h2⟩
theorem ref_zero (L : List Ky) (i : Nat) : (false = true) ↔ ∃ q, q < 0 ∧ RefAt L q i := by
  constructor
  · intro h; cases h
  · rintro ⟨q, h, -⟩; omega
/-- No key that is right is called nothing. -/
theorem ref_none {L : List Ky} {i : Nat} (h : ∀ q, q < i → KeyAt L q) (hr : (kyA L i).re = ⟨#[]⟩) : ¬ ∃ q, q < i ∧ RefAt L q i := by
  rintro ⟨q, h1, h2, -⟩
  have hn := (h q h1).1.1
  rw [h2, hr] at hn
  exact absurd hn (by decide)
/-- What is said of a row of keys. -/
def KysAns (L : List Ky) (w : World) (e : Ending) (w' : World) : Prop := Below w.heap.size w w' ∧ ∃ B : Bool, e = .returned (.bool B) ∧ (B = true ↔ KeysP L)
theorem kys_no {L : List Ky} {w w' : World} (hb : Below w.heap.size w w') (h : ¬ KeysP L) : KysAns L w (.returned (.bool false)) w' := ⟨hb, false, rfl, by constructor; (intro h; cases h); (intro h2; exact absurd h2 h)⟩
theorem kys_yes {L : List Ky} {w w' : World} (hb : Below w.heap.size w w') (h : KeysP L) : KysAns L w (.returned (.bool true)) w' := ⟨hb, true, rfl, ⟨fun _ => h, fun _ => rfl⟩⟩
end Go.Proofs.YtdepgkpfibmbgaaGreatDoor

/-
  Contracts of the laws' helpers on rows of keys: a copy in new memory.
-/
namespace Go.Proofs.YtdepgkpfibmbgaaGreatDoor
open Go.RowKit Go.Joins
set_option linter.unusedVariables false
set_option linter.unusedSimpArgs false
/-- Cells lie in block G. -/
def KdAt (w : World) (G : Nat) (cs : Array Value) : Prop := ∃ T, w.heap[G]? = some (.cells cs T (0, 0))
section
variable {w w1 : World} {G : Nat} {cs : Array Value}
theorem kd_lt (h : KdAt w G cs) : G < w.heap.size := by
  obtain ⟨T, h⟩ := h
  exact (Array.getElem?_eq_some_iff.1 h).1
theorem kd_go (h : KdAt w G cs) (hb : Below w.heap.size w w1) : KdAt w1 G cs := by
  have hl := kd_lt h
  obtain ⟨T, h⟩ := h
  exact ⟨T, (hb.block G hl).trans h⟩
theorem kd_new (w : World) (cs : Array Value) (T : TypeId) : KdAt (w.alloc (.cells cs T)) w.heap.size cs := ⟨T, heap_alloc_new w _⟩
theorem kd_cell (h : KdAt w G cs) (i : Nat) : w.cell? ⟨G, i, none⟩ = cs[i]? := by
  obtain ⟨T, h⟩ := h
  exact cell_of_row w G i _ T (0, 0) h
theorem kd_frozen (h : KdAt w G cs) (i : Nat) : w.frozen? ⟨G, i, none⟩ = false := by
  obtain ⟨T, h⟩ := h
  simp [World.frozen?, h]
theorem kd_far (h : KdAt w G cs) (p : Addr) (v : Value) (hne : p.block ≠ G) : KdAt (w.setCell p v) G cs := by
  obtain ⟨T, h⟩ := h
  exact ⟨T, by rw [heap_setCell_far _ _ _ _ hne]; exact h⟩
theorem kd_set (h : KdAt w G cs) (i : Nat) (v : Value) : KdAt (w.setCell ⟨G, i, none⟩ v) G (cs.setIfInBounds i v) := by
  obtain ⟨T, h⟩ := h
  exact ⟨T, heap_setCell_same w G i _ _ v h⟩
end
theorem kd_three {w w2 : World} {c1 c2 c3 : Array Value} {T U V : TypeId} (hb : Below (((w.alloc (.cells c1 T)).alloc (.cells c2 U)).alloc (.cells c3 V)).heap.size (((w.alloc (.cells c1 T)).alloc (.cells c2 U)).alloc (.cells c3 V)) w2) :
    KdAt w2 w.heap.size c1 ∧ KdAt w2 (w.heap.size + 1) c2 ∧ KdAt w2 (w.heap.size + 1 + 1) c3 ∧ Below w.heap.size w w2 := by
  have h1 := kd_new w c1 T
  have h2 := kd_new (w.alloc (.cells c1 T)) c2 U
  have h3 := kd_new ((w.alloc (.cells c1 T)).alloc (.cells c2 U)) c3 V
  have st : ∀ (x : World) (o : Obj), Below x.heap.size x (x.alloc o) := fun x o => (Below.refl _ _).alloc (Nat.le_refl _) _
  refine ⟨kd_go (kd_go (kd_go h1 (st _ _)) (st _ _)) hb, ?_, ?_, ?_⟩
  · have := kd_go (kd_go h2 (st _ _)) hb
    simpa using this
  · have := kd_go h3 hb
    simpa using this
  · refine ((((Below.refl w.heap.size w).alloc (Nat.le_refl _) _).alloc (by simp) _).alloc (by simp; omega) _).trans (hb.mono (by simp; omega))
theorem tx_set {w : World} {g : Nat} {L : List ByteArray} {B : Nat} (h : TxAt w (some ⟨g, 0, none⟩) L B) (p : Addr) (v : Value) (hne : p.block ≠ g) : TxAt (w.setCell p v) (some ⟨g, 0, none⟩) L B := fun h0 => by
  obtain ⟨b, off, e, hb, hc⟩ := h h0
  simp only [Option.some.injEq, Addr.mk.injEq] at e
  obtain ⟨rfl, rfl, -⟩ := e
  exact ⟨g, 0, rfl, hb, fun j hj => by rw [World.cell?_setCell_far _ _ _ _ hne]; exact hc j hj⟩
end Go.Proofs.YtdepgkpfibmbgaaGreatDoor
