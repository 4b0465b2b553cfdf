/-
  Plain facts: the model turned round is right, takes rows from behind, and turned again it is as it was.
-/
import Derived.Test.YtfohfljdgmlibaaV15
namespace Go.Proofs.Ytfohfljdgmlibaa
set_option linter.unusedVariables false
set_option linter.unusedSimpArgs false
/- How deep a tree is. -/
mutual
def dT : Tr → Nat
  | .nd k nm oc ks => dTs ks + 1
def dTs : List Tr → Nat
  | [] => 0
  | t :: ts => max (dT t) (dTs ts)
end
theorem dTs_append : ∀ xs ys : List Tr, dTs (xs ++ ys) = max (dTs xs) (dTs ys)
  | [], ys => by rw [List.nil_append, dTs]; omega
  | x :: xs, ys => by rw [List.cons_append, dTs, dTs, dTs_append xs ys]; omega
theorem dTs_rev : ∀ xs : List Tr, dTs xs.reverse = dTs xs
  | [] => rfl
  | x :: xs => by rw [List.reverse_cons, dTs_append, dTs_rev xs, dTs, dTs, dTs]; omega
mutual
theorem dT_mir : ∀ t : Tr, dT (mir t) = dT t
  | .nd k nm oc ks => by
    rw [mir, dT, dT]
    split
    · rw [dTs_rev, dTs_mirs ks]
    · rw [dTs_mirs ks]
theorem dTs_mirs : ∀ ts : List Tr, dTs (mirs ts) = dTs ts
  | [] => by rw [mirs]
  | t :: ts => by rw [mirs, dTs, dTs, dT_mir t, dTs_mirs ts]
end
theorem mx_dTs {D : Pn} : ∀ ks : List Int, (∀ k ∈ ks, dq D k.toNat = dT (tre D k.toNat)) → mx (dq D) ks = dTs (ks.map fun k => tre D k.toNat)
  | [], _ => by rw [List.map_nil, dTs]; rfl
  | k :: ks, h => by
    rw [List.map_cons, dTs, ← mx_dTs ks (fun j hj => h j (List.mem_cons_of_mem _ hj)), ← h k (List.mem_cons_self ..)]
    show (k :: ks).foldl _ 0 = _
    rw [List.foldl_cons, mx_init]
    omega
theorem dq_tre {D : Pn} : ∀ (m i : Nat), i < m → Lo D i → dq D i = dT (tre D i)
  | 0, i, hm, hl => by omega
  | m + 1, i, hm, hl => by
    rw [dq_eq hl, tre_eq hl, dT, mx_dTs]
    intro k hk
    have := hl i (Nat.le_refl _) k hk
    exact dq_tre m k.toNat (by omega) (lo_less hl (by omega))
/- All nodes are right by themselves. -/
mutual
def okT : Tr → Prop
  | .nd k nm oc ks => ndB k nm ks.length oc = true ∧ okTs ks
def okTs : List Tr → Prop
  | [] => True
  | t :: ts => okT t ∧ okTs ts
end
theorem okTs_iff : ∀ ts : List Tr, okTs ts ↔ ∀ t ∈ ts, okT t
  | [] => by rw [okTs]; simp
  | t :: ts => by rw [okTs, okTs_iff ts]; simp
theorem mirs_len : ∀ ts : List Tr, (mirs ts).length = ts.length
  | ts => by rw [mirs_map, List.length_map]
mutual
theorem ok_mir : ∀ t : Tr, okT t → okT (mir t)
  | .nd k nm oc ks, h => by
    rw [okT] at h
    rw [mir, okT]
    have h2 := ok_mirs ks h.2
    split
    · rw [List.length_reverse, mirs_len, okTs_iff]
      refine ⟨h.1, fun t ht => ?_⟩
      exact (okTs_iff _).1 h2 t (List.mem_reverse.1 ht)
    · rw [mirs_len]; exact ⟨h.1, h2⟩
theorem ok_mirs : ∀ ts : List Tr, okTs ts → okTs (mirs ts)
  | [], h => by rw [mirs]; exact h
  | t :: ts, h => by
    rw [okTs] at h
    rw [mirs, okTs]
    exact ⟨ok_mir t h.1, ok_mirs ts h.2⟩
end
theorem flF_len : ∀ (ts : List Tr) (O : Pn) (L : List Int), (flF ts O L).2.length = L.length + ts.length
  | [], O, L => by rw [flF]; rfl
  | t :: ts, O, L => by rw [flF, flF_len ts, List.length_append, List.length_cons, List.length_cons]; simp; omega
mutual
theorem fl_ok : ∀ (t : Tr) (O D' : Pn), okT t → Ext (fl t O) D' → ∀ j, O.n ≤ j → j < (fl t O).n → nodeB D' j = true
  | .nd k nm oc ks, O, D', h, hE, j, hj1, hj2 => by
    rw [okT] at h
    rw [fl] at hE hj2
    have hj3 : j < (flF ks O []).1.n + 1 := hj2
    by_cases e : j < (flF ks O []).1.n
    · exact flF_ok ks O [] D' h.2 ((ext_push ..).trans hE) j hj1 e
    · obtain ⟨a, b, c, d⟩ := push_at hE
      rw [show j = (flF ks O []).1.n by omega]
      unfold nodeB
      rw [a, b, c, d, flF_len]
      simpa using h.1
theorem flF_ok : ∀ (ts : List Tr) (O : Pn) (L : List Int) (D' : Pn), okTs ts → Ext (flF ts O L).1 D' → ∀ j, O.n ≤ j → j < (flF ts O L).1.n → nodeB D' j = true
  | [], O, L, D', h, hE, j, hj1, hj2 => by rw [flF] at hj2; exact absurd (show j < O.n from hj2) (by omega)
  | t :: ts, O, L, D', h, hE, j, hj1, hj2 => by
    rw [okTs] at h
    rw [flF] at hE hj2
    by_cases e : j < (fl t O).n
    · exact fl_ok t O D' h.1 ((ext_flF ts _ _).trans hE) j hj1 e
    · exact flF_ok ts _ _ D' h.2 hE j (by omega) hj2
end
theorem tre_ok {D : Pn} : ∀ (m i : Nat), i < m → Lo D i → (∀ j, j ≤ i → nodeB D j = true) → okT (tre D i)
  | 0, i, hm, hl, h => by omega
  | m + 1, i, hm, hl, h => by
    rw [tre_eq hl, okT, List.length_map, okTs_iff]
    refine ⟨h i (Nat.le_refl _), fun t ht => ?_⟩
    obtain ⟨k, hk, rfl⟩ := List.mem_map.1 ht
    have := hl i (Nat.le_refl _) k hk
    exact tre_ok m k.toNat (by omega) (lo_less hl (by omega)) (fun j hj => h j (by omega))
/-- The rows of a model's tree are the model's. -/
theorem flF_snoc (t : Tr) : ∀ (ts : List Tr) (O : Pn) (L : List Int), flF (ts ++ [t]) O L = (fl t (flF ts O L).1, (flF ts O L).2 ++ [((fl t (flF ts O L).1).n : Int) - 1])
  | [], O, L => by rw [List.nil_append, flF, flF, flF]
  | s :: ts, O, L => by rw [List.cons_append, flF, flF, flF_snoc t ts]
theorem flF_back {D : Pn} {i : Nat} (ih : ∀ j c, j < i → tr D j = some c → ∀ O, O.n = c → Ext O D → Ext (fl (tre D j) O) D ∧ (fl (tre D j) O).n = j + 1) : ∀ (ks : List Int) (a f : Nat), a ≤ i → fd (tr D) ks a = some f → ∀ O, O.n = f → Ext O D → Ext (flF (ks.reverse.map fun k => tre D k.toNat) O []).1 D ∧ (flF (ks.reverse.map fun k => tre D k.toNat) O []).1.n = a ∧ (flF (ks.reverse.map fun k => tre D k.toNat) O []).2 = ks.reverse
  | [], a, f, ha, h, O, hO, hE => by
    simp [fd] at h
    rw [List.reverse_nil, List.map_nil, flF]
    exact ⟨hE, by rw [hO, h], rfl⟩
  | k :: ks, a, f, ha, h, O, hO, hE => by
    by_cases hc : 0 < a ∧ k = (a : Int) - 1
    · cases hg : tr D (a - 1) with
      | none => rw [fd_none hc hg] at h; cases h
      | some c =>
        have hca := tr_le hg
        rw [fd_yes hc hg] at h
        obtain ⟨h1, h2, h3⟩ := flF_back ih ks c f (by omega) h O hO hE
        rw [List.reverse_cons, List.map_append, List.map_cons, List.map_nil, flF_snoc]
        have hk : k.toNat = a - 1 := by omega
        obtain ⟨h4, h5⟩ := ih (a - 1) c (by omega) hg _ h2 h1
        rw [hk]
        refine ⟨h4, by rw [h5]; omega, ?_⟩
        show _ ++ [_] = _
        rw [h3, h5]
        congr 2
        omega
    · rw [fd_no hc] at h; cases h
theorem fl_back {D : Pn} : ∀ (m i c : Nat), i < m → i < D.n → LoN D → tr D i = some c → ∀ O, O.n = c → Ext O D → Ext (fl (tre D i) O) D ∧ (fl (tre D i) O).n = i + 1
  | 0, i, c, hm, hi, hl, ht, O, hO, hE => by omega
  | m + 1, i, c, hm, hi, hl, ht, O, hO, hE => by
    rw [tre_eq (hl.lo hi), fl]
    rw [tr_eq] at ht
    obtain ⟨h1, h2, h3⟩ := flF_back (D := D) (i := i) (fun j c hj hc => fl_back m j c (by omega) (by omega) hl hc) _ i c (Nat.le_refl _) ht O hO hE
    rw [List.reverse_reverse] at h1 h2 h3
    refine ⟨⟨?_, fun j hj => ?_⟩, ?_⟩
    · show (flF _ O []).1.n + 1 ≤ D.n
      rw [h2]; exact hi
    · have hj' : j < (flF ((D.KL i).map fun k => tre D k.toNat) O []).1.n + 1 := hj
      by_cases e : j < (flF ((D.KL i).map fun k => tre D k.toNat) O []).1.n
      · obtain ⟨a, b, c, d⟩ := h1.2 j e
        exact ⟨a.trans (if_pos e).symm, b.trans (if_pos e).symm, c.trans (if_pos e).symm, d.trans (if_pos e).symm⟩
      · have ej : j = i := by omega
        subst ej
        exact ⟨(if_neg e).symm, (if_neg e).symm, ((if_neg e).trans h3).symm, (if_neg e).symm⟩
    · show (flF _ O []).1.n + 1 = _
      rw [h2]
end Go.Proofs.Ytfohfljdgmlibaa
