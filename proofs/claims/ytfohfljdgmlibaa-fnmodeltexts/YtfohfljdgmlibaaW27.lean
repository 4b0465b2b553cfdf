/-
  Texts put together: TrC, RtN.
-/
import Derived.Test.YtfohfljdgmlibaaW26
import Derived.Test.YtfohfljdgmlibaaW25
import Derived.Test.YtfohfljdgmlibaaW17
/-
  Plain facts: the model turned round is right, takes rows from behind, and turned again it is as it was.
-/
namespace Go.Proofs.Ytfohfljdgmlibaa
set_option linter.unusedVariables false
set_option linter.unusedSimpArgs false
/- How deep a tree is. -/
mutual
def dT : Tr → Nat
  | .nd k nm oc ks => dTs ks + 1
def dTs : List Tr → Nat
  | [] => 0
  | t :: ts => max (dT t) (dTs ts)
end
theorem dTs_append : ∀ xs ys : List Tr, dTs (xs ++ ys) = max (dTs xs) (dTs ys)
  | [], ys => by rw [List.nil_append, dTs]; omega
  | x :: xs, ys => by rw [List.cons_append, dTs, dTs, dTs_append xs ys]; omega
theorem dTs_rev : ∀ xs : List Tr, dTs xs.reverse = dTs xs
  | [] => rfl
  | x :: xs => by rw [List.reverse_cons, dTs_append, dTs_rev xs, dTs, dTs, dTs]; omega
mutual
theorem dT_mir : ∀ t : Tr, dT (mir t) = dT t
  | .nd k nm oc ks => by
    rw [mir, dT, dT]
    split
    · rw [dTs_rev, dTs_mirs ks]
    · rw [dTs_mirs ks]
theorem dTs_mirs : ∀ ts : List Tr, dTs (mirs ts) = dTs ts
  | [] => by rw [mirs]
  | t :: ts => by rw [mirs, dTs, dTs, dT_mir t, dTs_mirs ts]
end
theorem mx_dTs {D : Pn} : ∀ ks : List Int, (∀ k ∈ ks, dq D k.toNat = dT (tre D k.toNat)) → mx (dq D) ks = dTs (ks.map fun k => tre D k.toNat)
  | [], _ => by rw [List.map_nil, dTs]; rfl
  | k :: ks, h => by
    rw [List.map_cons, dTs, ← mx_dTs ks (fun j hj => h j (List.mem_cons_of_mem _ hj)), ← h k (List.mem_cons_self ..)]
    show (k :: ks).foldl _ 0 = _
    rw [List.foldl_cons, mx_init]
    omega
theorem dq_tre {D : Pn} : ∀ (m i : Nat), i < m → Lo D i → dq D i = dT (tre D i)
  | 0, i, hm, hl => by omega
  | m + 1, i, hm, hl => by
    rw [dq_eq hl, tre_eq hl, dT, mx_dTs]
    intro k hk
    have := hl i (Nat.le_refl _) k hk
    exact dq_tre m k.toNat (by omega) (lo_less hl (by omega))
/- All nodes are right by themselves. -/
mutual
def okT : Tr → Prop
  | .nd k nm oc ks => ndB k nm ks.length oc = true ∧ okTs ks
def okTs : List Tr → Prop
  | [] => True
  | t :: ts => okT t ∧ okTs ts
end
theorem okTs_iff : ∀ ts : List Tr, okTs ts ↔ ∀ t ∈ ts, okT t
  | [] => by rw [okTs]; simp
  | t :: ts => by rw [okTs, okTs_iff ts]; simp
theorem mirs_len : ∀ ts : List Tr, (mirs ts).length = ts.length
  | ts => by rw [mirs_map, List.length_map]
mutual
theorem ok_mir : ∀ t : Tr, okT t → okT (mir t)
  | .nd k nm oc ks, h => by
    rw [okT] at h
    rw [mir, okT]
    have h2 := ok_mirs ks h.2
    split
    · rw [List.length_reverse, mirs_len, okTs_iff]
      refine ⟨h.1, fun t ht => ?_⟩
      exact (okTs_iff _).1 h2 t (List.mem_reverse.1 ht)
    · rw [mirs_len]; exact ⟨h.1, h2⟩
theorem ok_mirs : ∀ ts : List Tr, okTs ts → okTs (mirs ts)
  | [], h => by rw [mirs]; exact h
  | t :: ts, h => by
    rw [okTs] at h
    rw [mirs, okTs]
    exact ⟨ok_mir t h.1, ok_mirs ts h.2⟩
end
theorem flF_len : ∀ (ts : List Tr) (O : Pn) (L : List Int), (flF ts O L).2.length = L.length + ts.length
  | [], O, L => by rw [flF]; rfl
  | t :: ts, O, L => by rw [flF, flF_len ts, List.length_append, List.length_cons, List.length_cons]; simp; omega
mutual
theorem fl_ok : ∀ (t : Tr) (O D' : Pn), okT t → Ext (fl t O) D' → ∀ j, O.n ≤ j → j < (fl t O).n → nodeB D' j = true
  | .nd k nm oc ks, O, D', h, hE, j, hj1, hj2 => by
    rw [okT] at h
    rw [fl] at hE hj2
    have hj3 : j < (flF ks O []).1.n + 1 := hj2
    by_cases e : j < (flF ks O []).1.n
    · exact flF_ok ks O [] D' h.2 ((ext_push ..).trans hE) j hj1 e
    · obtain ⟨a, b, c, d⟩ := push_at hE
      rw [show j = (flF ks O []).1.n by omega]
      unfold nodeB
      rw [a, b, c, d, flF_len]
      simpa using h.1
theorem flF_ok : ∀ (ts : List Tr) (O : Pn) (L : List Int) (D' : Pn), okTs ts → Ext (flF ts O L).1 D' → ∀ j, O.n ≤ j → j < (flF ts O L).1.n → nodeB D' j = true
  | [], O, L, D', h, hE, j, hj1, hj2 => by rw [flF] at hj2; exact absurd (show j < O.n from hj2) (by omega)
  | t :: ts, O, L, D', h, hE, j, hj1, hj2 => by
    rw [okTs] at h
    rw [flF] at hE hj2
    by_cases e : j < (fl t O).n
    · exact fl_ok t O D' h.1 ((ext_flF ts _ _).trans hE) j hj1 e
    · exact flF_ok ts _ _ D' h.2 hE j (by omega) hj2
end
theorem tre_ok {D : Pn} : ∀ (m i : Nat), i < m → Lo D i → (∀ j, j ≤ i → nodeB D j = true) → okT (tre D i)
  | 0, i, hm, hl, h => by omega
  | m + 1, i, hm, hl, h => by
    rw [tre_eq hl, okT, List.length_map, okTs_iff]
    refine ⟨h i (Nat.le_refl _), fun t ht => ?_⟩
    obtain ⟨k, hk, rfl⟩ := List.mem_map.1 ht
    have := hl i (Nat.le_refl _) k hk
    exact tre_ok m k.toNat (by omega) (lo_less hl (by omega)) (fun j hj => h j (by omega))
/-- The rows of a model's tree are the model's. -/
theorem flF_snoc (t : Tr) : ∀ (ts : List Tr) (O : Pn) (L : List Int), flF (ts ++ [t]) O L = (fl t (flF ts O L).1, (flF ts O L).2 ++ [((fl t (flF ts O L).1).n : Int) - 1])
  | [], O, L => by rw [List.nil_append, flF, flF, flF]
  | s :: ts, O, L => by rw [List.cons_append, flF, flF, flF_snoc t ts]
theorem flF_back {D : Pn} {i : Nat} (ih : ∀ j c, j < i → tr D j = some c → ∀ O, O.n = c → Ext O D → Ext (fl (tre D j) O) D ∧ (fl (tre D j) O).n = j + 1) : ∀ (ks : List Int) (a f : Nat), a ≤ i → fd (tr D) ks a = some f → ∀ O, O.n = f → Ext O D → Ext (flF (ks.reverse.map fun k => tre D k.toNat) O []).1 D ∧ (flF (ks.reverse.map fun k => tre D k.toNat) O []).1.n = a ∧ (flF (ks.reverse.map fun k => tre D k.toNat) O []).2 = ks.reverse
  | [], a, f, ha, h, O, hO, hE => by
    simp [fd] at h
    rw [List.reverse_nil, List.map_nil, flF]
    exact ⟨hE, by rw [hO, h], rfl⟩
  | k :: ks, a, f, ha, h, O, hO, hE => by
    by_cases hc : 0 < a ∧ k = (a : Int) - 1
    · cases hg : tr D (a - 1) with
      | none => rw [fd_none hc hg] at h; cases h
      | some c =>
        have hca := tr_le hg
        rw [fd_yes hc hg] at h
        obtain ⟨h1, h2, h3⟩ := flF_back ih ks c f (by omega) h O hO hE
        rw [List.reverse_cons, List.map_append, List.map_cons, List.map_nil, flF_snoc]
        have hk : k.toNat = a - 1 := by omega
        obtain ⟨h4, h5⟩ := ih (a - 1) c (by omega) hg _ h2 h1
        rw [hk]
        refine ⟨h4, by rw [h5]; omega, ?_⟩
        show _ ++ [_] = _
        rw [h3, h5]
        congr 2
        omega
    · rw [fd_no hc] at h; cases h
theorem fl_back {D : Pn} : ∀ (m i c : Nat), i < m → i < D.n → LoN D → tr D i = some c → ∀ O, O.n = c → Ext O D → Ext (fl (tre D i) O) D ∧ (fl (tre D i) O).n = i + 1
  | 0, i, c, hm, hi, hl, ht, O, hO, hE => by omega
  | m + 1, i, c, hm, hi, hl, ht, O, hO, hE => by
    rw [tre_eq (hl.lo hi), fl]
    rw [tr_eq] at ht
    obtain ⟨h1, h2, h3⟩ := flF_back (D := D) (i := i) (fun j c hj hc => fl_back m j c (by omega) (by omega) hl hc) _ i c (Nat.le_refl _) ht O hO hE
    rw [List.reverse_reverse] at h1 h2 h3
    refine ⟨⟨?_, fun j hj => ?_⟩, ?_⟩
    · show (flF _ O []).1.n + 1 ≤ D.n
      rw [h2]; exact hi
    · have hj' : j < (flF ((D.KL i).map fun k => tre D k.toNat) O []).1.n + 1 := hj
      by_cases e : j < (flF ((D.KL i).map fun k => tre D k.toNat) O []).1.n
      · obtain ⟨a, b, c, d⟩ := h1.2 j e
        exact ⟨a.trans (if_pos e).symm, b.trans (if_pos e).symm, c.trans (if_pos e).symm, d.trans (if_pos e).symm⟩
      · have ej : j = i := by omega
        subst ej
        exact ⟨(if_neg e).symm, (if_neg e).symm, ((if_neg e).trans h3).symm, (if_neg e).symm⟩
    · show (flF _ O []).1.n + 1 = _
      rw [h2]
end Go.Proofs.Ytfohfljdgmlibaa

/-
  Plain facts: a right tree's text is read as that tree, and what is read as a right tree is its text.
-/
namespace Go.Proofs.Ytfohfljdgmlibaa
set_option linter.unusedVariables false
set_option linter.unusedSimpArgs false
mutual
def txT : Tr → List UInt8
  | .nd k nm oc ks => bdP k nm (txTs ks) ++ sgP oc
def txTs : List Tr → List (List UInt8)
  | [] => []
  | t :: ts => txT t :: txTs ts
end
theorem join_two (a b sep : List UInt8) (r : List (List UInt8)) : Lib.join (a :: b :: r) sep = a ++ (sep ++ Lib.join (b :: r) sep) := by
  rw [Lib.join_cons, Lib.join_cons]
  unfold Lib.joinTail
  simp
/-- Nothing goes on there. -/
def StopP (v : List UInt8) : Prop := v.head? ≠ some 63 ∧ v.head? ≠ some 42 ∧ v.head? ≠ some 43 ∧ ∀ c, v.head? = some c → nmC c = false
theorem stop_mark {c : UInt8} {v : List UInt8} (h : c = 41 ∨ c = 44 ∨ c = 124) : StopP (c :: v) := by
  rcases h with rfl | rfl | rfl
  all_goals exact ⟨by simp, by simp, by simp, fun c hc => by simp at hc; subst hc; decide⟩
theorem stop_nil : StopP [] := ⟨by simp, by simp, by simp, fun c hc => by simp at hc⟩
theorem oc_sg {oc : Int} {v : List UInt8} (h : 0 ≤ oc ∧ oc ≤ 3) (hv : StopP v) : ocP oc (sgP oc ++ v) v := by
  have : oc = 0 ∨ oc = 1 ∨ oc = 2 ∨ oc = 3 := by omega
  rcases this with rfl | rfl | rfl | rfl
  · exact .inr (.inr (.inr ⟨rfl, rfl, hv.1, hv.2.1, hv.2.2.1⟩))
  · exact .inl ⟨rfl, rfl⟩
  · exact .inr (.inl ⟨rfl, rfl⟩)
  · exact .inr (.inr (.inl ⟨rfl, rfl⟩))
theorem sg_oc {oc : Int} {x v : List UInt8} (h : ocP oc x v) : x = sgP oc ++ v := by
  rcases h with ⟨rfl, rfl⟩ | ⟨rfl, rfl⟩ | ⟨rfl, rfl⟩ | ⟨rfl, rfl, -⟩ <;> rfl
/-- What a name's bytes are. -/
theorem name_all {nm : ByteArray} (h : nameB nm = true) : nm.data.toList ≠ [] ∧ (∀ c ∈ nm.data.toList, nmC c = true) ∧ ∀ c, nm.data.toList.head? = some c → firstB (c.toNat : Int) = true := by
  unfold nameB at h
  simp only [Bool.and_eq_true, decide_eq_true_eq, List.all_eq_true, List.mem_range, Bool.or_eq_true, beq_iff_eq] at h
  obtain ⟨h1, h2, h3, h4⟩ := h
  have hl : nm.data.toList.length = nm.size := by simp
  have hat : ∀ j, j < nm.size → ∀ c, nm.data.toList[j]? = some c → at8 nm j = (c.toNat : Int) := fun j hj c hc => by unfold at8; rw [hc]; rfl
  have hf : ∀ c : Int, firstB c = true → moreB c = true := fun c hc => by
    unfold firstB at hc; unfold moreB
    simp at hc ⊢
    omega
  refine ⟨fun e => by rw [e] at hl; simp at hl; omega, fun c hc => ?_, fun c hc => ?_⟩
  · obtain ⟨j, hj, e⟩ := List.getElem_of_mem hc
    have hj2 : j < nm.size := by omega
    have h5 := hat j hj2 c (by rw [List.getElem?_eq_getElem hj, e])
    unfold nmC
    rw [← h5]
    rcases h4 j hj2 with rfl | h6
    · exact hf _ h3
    · exact h6
  · rw [List.head?_eq_getElem?] at hc
    rw [← hat 0 (by omega) c hc]
    exact h3
theorem tw_stop {a v : List UInt8} (ha : ∀ c ∈ a, nmC c = true) (hv : ∀ c, v.head? = some c → nmC c = false) : (a ++ v).takeWhile nmC = a ∧ (a ++ v).dropWhile nmC = v := by
  induction a with
  | nil =>
    cases v with
    | nil => exact ⟨rfl, rfl⟩
    | cons c v =>
      have := hv c rfl
      simp [List.takeWhile_cons, List.dropWhile_cons, this]
  | cons c a ih =>
    have h1 := ha c (List.mem_cons_self ..)
    obtain ⟨h2, h3⟩ := ih (fun d hd => ha d (List.mem_cons_of_mem _ hd))
    simp only [List.cons_append, List.takeWhile_cons, List.dropWhile_cons, h1, if_true, h2, h3]
    exact ⟨trivial, trivial⟩
theorem stop_sg {oc : Int} {v : List UInt8} (hv : StopP v) : ∀ c, (sgP oc ++ v).head? = some c → nmC c = false := by
  intro c hc
  unfold sgP at hc
  split at hc
  · simp at hc; subst hc; decide
  · split at hc
    · simp at hc; subst hc; decide
    · split at hc
      · simp at hc; subst hc; decide
      · exact hv.2.2.2 c hc
theorem ndB_oc {k oc : Int} {nm : ByteArray} {n : Nat} (h : ndB k nm n oc = true) : 0 ≤ oc ∧ oc ≤ 3 := by
  unfold ndB at h
  simp only [Bool.and_eq_true, decide_eq_true_eq] at h
  exact h.1
theorem ndB_kind {k oc : Int} {nm : ByteArray} {n : Nat} (h : ndB k nm n oc = true) : (k = 1 ∧ nameB nm = true ∧ n = 0) ∨ (k = 4 ∧ nm = ⟨#[]⟩ ∧ n = 0) ∨ (k = 2 ∧ nm = ⟨#[]⟩) ∨ (k = 3 ∧ nm = ⟨#[]⟩ ∧ 2 ≤ n) := by
  have he : nm.toList.isEmpty = true → nm = ⟨#[]⟩ := fun e => by
    rw [List.isEmpty_iff] at e
    exact ba_ext (by rw [← ByteArray.toList_eq, e])
  unfold ndB at h
  rw [Bool.and_eq_true] at h
  have h2 := h.2
  split at h2
  · rw [Bool.and_eq_true, decide_eq_true_eq] at h2
    rename_i e; exact .inl ⟨e, h2.1, h2.2⟩
  · split at h2
    · rw [Bool.and_eq_true, decide_eq_true_eq] at h2
      rename_i e; exact .inr (.inl ⟨e, he h2.1, h2.2⟩)
    · split at h2
      · rename_i e; exact .inr (.inr (.inl ⟨e, he h2⟩))
      · split at h2
        · rw [Bool.and_eq_true, decide_eq_true_eq] at h2
          rename_i e; exact .inr (.inr (.inr ⟨e, he h2.1, h2.2⟩))
        · cases h2
/-- No right tree's text begins with ). -/
theorem tx_head : ∀ (t : Tr) (v : List UInt8), okT t → (txT t ++ v).head? ≠ some 41
  | .nd k nm oc ks, v, h => by
    rw [okT] at h
    rw [txT]
    rcases ndB_kind h.1 with ⟨rfl, h1, -⟩ | ⟨rfl, -, -⟩ | ⟨rfl, -⟩ | ⟨rfl, -, -⟩
    · obtain ⟨h2, -, h3⟩ := name_all h1
      unfold bdP
      rw [if_pos rfl]
      cases e : nm.data.toList with
      | nil => exact absurd e h2
      | cons c r =>
        intro h9
        simp at h9
        subst h9
        have := h3 41 (by rw [e]; rfl)
        revert this
        decide
    all_goals
      unfold bdP
      simp
mutual
theorem rd_tx : ∀ (t : Tr) (v : List UInt8), okT t → StopP v → rdP t (txT t ++ v) v
  | .nd k nm oc ks, v, h, hv => by
    rw [okT] at h
    rw [rdP, txT, List.append_assoc]
    refine ⟨sgP oc ++ v, oc_sg (ndB_oc h.1) hv, ?_⟩
    rcases ndB_kind h.1 with ⟨rfl, h1, h2⟩ | ⟨rfl, rfl, h2⟩ | ⟨rfl, rfl⟩ | ⟨rfl, rfl, h2⟩
    · obtain rfl := List.length_eq_zero_iff.1 h2
      obtain ⟨k1, k2, k3⟩ := name_all h1
      have hb : bdP 1 nm (txTs []) = nm.data.toList := rfl
      rw [hb]
      obtain ⟨e1, e2⟩ := tw_stop k2 (stop_sg (oc := oc) hv)
      have hh : ∀ c : UInt8, firstB (c.toNat : Int) = false → (nm.data.toList ++ (sgP oc ++ v)).head? ≠ some c := fun c hc h9 => by
        cases e : nm.data.toList with
        | nil => exact k1 e
        | cons d r =>
          rw [e] at h9
          simp at h9
          subst h9
          rw [k3 d (by rw [e]; rfl)] at hc
          cases hc
      exact .inr (.inr (.inr ⟨rfl, rfl, hh 40 (by decide), hh 35 (by decide), e1.symm, e2.symm⟩))
    · obtain rfl := List.length_eq_zero_iff.1 h2
      exact .inr (.inr (.inl ⟨rfl, rfl, rfl, rfl⟩))
    · refine .inl ⟨rfl, rfl, Lib.join (txTs ks) [44] ++ 41 :: (sgP oc ++ v), ?_, ?_⟩
      · show ([40] ++ Lib.join (txTs ks) (sepP 2) ++ [41]) ++ (sgP oc ++ v) = _
        simp [sepP]
      · by_cases e0 : ks = []
        · exact .inl ⟨e0, by rw [e0, txTs, Lib.join_nil]; rfl⟩
        · obtain ⟨h3, h4⟩ := sq_tx ks 44 (sgP oc ++ v) e0 (.inl rfl) h.2
          exact .inr ⟨h4, h3⟩
    · refine .inr (.inl ⟨rfl, rfl, h2, Lib.join (txTs ks) [124] ++ 41 :: (sgP oc ++ v), ?_, ?_⟩)
      · show ([40] ++ Lib.join (txTs ks) (sepP 3) ++ [41]) ++ (sgP oc ++ v) = _
        simp [sepP]
      · have e0 : ks ≠ [] := fun e => by rw [e] at h2; exact absurd h2 (by simp)
        obtain ⟨h3, h4⟩ := sq_tx ks 124 (sgP oc ++ v) e0 (.inr rfl) h.2
        exact ⟨h4, h3⟩
theorem sq_tx : ∀ (ts : List Tr) (c : UInt8) (x : List UInt8), ts ≠ [] → (c = 44 ∨ c = 124) → okTs ts → sqP c ts (Lib.join (txTs ts) [c] ++ 41 :: x) (41 :: x) ∧ (Lib.join (txTs ts) [c] ++ 41 :: x).head? ≠ some 41
  | [], c, x, h0, hc, h => absurd rfl h0
  | [t], c, x, h0, hc, h => by
    rw [okTs] at h
    rw [txTs, txTs, Lib.join_one, sqP]
    exact ⟨.inl ⟨rfl, rd_tx t _ h.1 (stop_mark (.inl rfl))⟩, tx_head t _ h.1⟩
  | t :: t2 :: ts, c, x, h0, hc, h => by
    rw [okTs] at h
    obtain ⟨h1, h2⟩ := sq_tx (t2 :: ts) c x (by simp) hc h.2
    rw [txTs] at h1
    rw [txTs, txTs, join_two, List.append_assoc, List.append_assoc, sqP]
    exact ⟨.inr ⟨_, rd_tx t _ h.1 (stop_mark (.inr hc)), h1⟩, tx_head t _ h.1⟩
end
mutual
theorem tx_rd : ∀ (t : Tr) (u v : List UInt8), rdP t u v → u = txT t ++ v
  | .nd k nm oc ks, u, v, h => by
    rw [rdP] at h
    obtain ⟨x, ho, h⟩ := h
    obtain rfl := sg_oc ho
    rw [txT, List.append_assoc]
    rcases h with ⟨rfl, rfl, y, rfl, h⟩ | ⟨rfl, rfl, hl, y, rfl, hy, h⟩ | ⟨rfl, rfl, rfl, rfl⟩ | ⟨rfl, rfl, h1, h2, h3, h4⟩
    · have e : y = Lib.join (txTs ks) [44] ++ 41 :: (sgP oc ++ v) := by
        rcases h with ⟨rfl, rfl⟩ | ⟨-, h⟩
        · rw [txTs, Lib.join_nil]; rfl
        · exact txs_sq ks 44 y _ h
      rw [e]
      show _ = ([40] ++ Lib.join (txTs ks) (sepP 2) ++ [41]) ++ (sgP oc ++ v)
      simp [sepP]
    · rw [txs_sq ks 124 y _ h]
      show _ = ([40] ++ Lib.join (txTs ks) (sepP 3) ++ [41]) ++ (sgP oc ++ v)
      simp [sepP]
    · rfl
    · have hb : bdP 1 nm (txTs []) = nm.data.toList := rfl
      rw [hb, h3, h4, List.takeWhile_append_dropWhile]
theorem txs_sq : ∀ (ts : List Tr) (c : UInt8) (u w : List UInt8), sqP c ts u w → u = Lib.join (txTs ts) [c] ++ w
  | [], c, u, w, h => by rw [sqP] at h; exact h.elim
  | [t], c, u, w, h => by
    rw [sqP] at h
    rcases h with ⟨-, h⟩ | ⟨y, -, h⟩
    · rw [txTs, txTs, Lib.join_one]; exact tx_rd t u w h
    · rw [sqP] at h; exact h.elim
  | t :: t2 :: ts, c, u, w, h => by
    rw [sqP] at h
    rcases h with ⟨h, -⟩ | ⟨y, h1, h2⟩
    · cases h
    · have e1 := tx_rd t u _ h1
      have e2 := txs_sq (t2 :: ts) c y w h2
      rw [txTs] at e2
      rw [txTs, txTs, join_two, e1, e2]
      simp
end
end Go.Proofs.Ytfohfljdgmlibaa
