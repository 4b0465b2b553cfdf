/-
  Plain facts on the reading of models: the kids that have been read so far, and why nothing right and small enough stands there.
-/
import Derived.Test.YtfohfljdgmlibaaW32
namespace Go.Proofs.Ytfohfljdgmlibaa
set_option linter.unusedVariables false
set_option linter.unusedSimpArgs false
theorem dT_posP : ∀ t : Tr, 1 ≤ dT t
  | .nd k nm oc ks => by rw [dT]; omega
/-- Nothing right that is small enough stands there. -/
def NoT (u : List UInt8) (D : Pn) (dd : Nat) : Prop := ∀ t v, rdP t u v → okT t → (fl t D).n ≤ 40 → dT t + dd ≤ 10 → False
theorem noT_deep {u : List UInt8} {D : Pn} {dd : Nat} (h : 10 ≤ dd) : NoT u D dd := fun t v _ _ _ h4 => by have := dT_posP t; omega
theorem noT_many {u : List UInt8} {D : Pn} {dd : Nat} (h : 40 ≤ D.n) : NoT u D dd := fun t v _ _ h3 _ => by have := (ext_fl t D).2; omega
theorem noT_over {u v : List UInt8} {D : Pn} {dd : Nat} {t : Tr} (ht : rdP t u v) (h : 40 < (fl t D).n) : NoT u D dd := fun t' v' h1 _ h3 _ => by
  obtain ⟨rfl, -⟩ := rd_one t t' u v v' ht h1
  omega
theorem noT_name {u : List UInt8} {D : Pn} {dd : Nat} {nm : ByteArray} (h1 : u.head? ≠ some 40) (h2 : u.head? ≠ some 35) (h3 : nm.data.toList = u.takeWhile nmC) (hn : nameB nm = false) : NoT u D dd := by
  rintro ⟨k, nm', oc, ks⟩ v h ho - -
  rw [rdP] at h
  obtain ⟨x, -, h⟩ := h
  rcases h with ⟨rfl, rfl, y, rfl, h⟩ | ⟨rfl, rfl, hl, y, rfl, hy, h⟩ | ⟨rfl, rfl, rfl, rfl⟩ | ⟨rfl, rfl, -, -, h5, -⟩
  · simp at h1
  · simp at h1
  · simp at h2
  · obtain rfl := ba_ext (h3.trans h5.symm)
    rw [okT] at ho
    rcases ndB_kind ho.1 with ⟨-, h9, -⟩ | ⟨h9, -⟩ | ⟨h9, -⟩ | ⟨h9, -⟩
    · rw [hn] at h9; cases h9
    all_goals exact absurd h9 (by decide)
theorem sq_pre : ∀ (ks ks' : List Tr) (c c' : UInt8) (y w x : List UInt8), c ≠ 41 → c' ≠ 41 → sqP c ks y w → sqP c' ks' y (41 :: x) →
    (ks' = ks ∧ w = 41 :: x) ∨ ∃ z ts, w = c' :: z ∧ ks' = ks ++ ts ∧ sqP c' ts z (41 :: x) ∧ (2 ≤ ks.length → c = c')
  | [], ks', c, c', y, w, x, hc, hc', h, h' => by rw [sqP] at h; exact h.elim
  | t :: ts, [], c, c', y, w, x, hc, hc', h, h' => by rw [sqP] at h'; exact h'.elim
  | t :: ts, t' :: ts', c, c', y, w, x, hc, hc', h, h' => by
    rw [sqP] at h h'
    rcases h with ⟨rfl, h⟩ | ⟨y1, h, h2⟩
    · rcases h' with ⟨rfl, h'⟩ | ⟨y', h', h2'⟩
      · obtain ⟨rfl, e⟩ := rd_one t t' y _ _ h h'
        exact .inl ⟨rfl, e⟩
      · obtain ⟨rfl, e⟩ := rd_one t t' y _ _ h h'
        exact .inr ⟨y', ts', e, rfl, h2', fun h9 => absurd h9 (by simp)⟩
    · rcases h' with ⟨rfl, h'⟩ | ⟨y', h', h2'⟩
      · obtain ⟨rfl, e⟩ := rd_one t t' y _ _ h h'
        exact absurd (List.head_eq_of_cons_eq e) hc
      · obtain ⟨rfl, e⟩ := rd_one t t' y _ _ h h'
        obtain rfl := List.tail_eq_of_cons_eq e
        have ec := List.head_eq_of_cons_eq e
        rcases sq_pre ts ts' c c' y1 w x hc hc' h2 h2' with ⟨rfl, e3⟩ | ⟨z, t3, e3, rfl, h3, -⟩
        · exact .inl ⟨rfl, e3⟩
        · exact .inr ⟨z, t3, e3, rfl, h3, fun _ => ec⟩
/-- What stands behind a ( that no ) follows. -/
theorem rd_kids {t : Tr} {y v : List UInt8} (h : rdP t (40 :: y) v) (hy : y.head? ≠ some 41) : ∃ k nm oc ks x c, t = .nd k nm oc ks ∧ (c = 44 ∨ c = 124) ∧ sqP c ks y (41 :: x) := by
  obtain ⟨k, nm, oc, ks⟩ := t
  rw [rdP] at h
  obtain ⟨x, -, h⟩ := h
  rcases h with ⟨rfl, rfl, y', e, h⟩ | ⟨rfl, rfl, hl, y', e, hy', h⟩ | ⟨rfl, rfl, rfl, e⟩ | ⟨rfl, rfl, h1, -⟩
  · obtain rfl := List.tail_eq_of_cons_eq e
    rcases h with ⟨rfl, rfl⟩ | ⟨-, h⟩
    · simp at hy
    · exact ⟨_, _, _, _, _, 44, rfl, .inl rfl, h⟩
  · obtain rfl := List.tail_eq_of_cons_eq e
    exact ⟨_, _, _, _, _, 124, rfl, .inr rfl, h⟩
  · exact absurd (List.head_eq_of_cons_eq e) (by decide)
  · simp at h1
theorem sq_head {c : UInt8} {ks : List Tr} {y w : List UInt8} (h : sqP c ks y w) : ∃ t ts v, ks = t :: ts ∧ rdP t y v := by
  cases ks with
  | nil => rw [sqP] at h; exact h.elim
  | cons t ts =>
    rw [sqP] at h
    rcases h with ⟨-, h⟩ | ⟨z, h, -⟩
    · exact ⟨t, ts, _, rfl, h⟩
    · exact ⟨t, ts, _, rfl, h⟩
theorem flF_app : ∀ (xs ys : List Tr) (O : Pn) (L : List Int), flF (xs ++ ys) O L = flF ys (flF xs O L).1 (flF xs O L).2
  | [], ys, O, L => by rw [List.nil_append, flF]
  | x :: xs, ys, O, L => by rw [List.cons_append, flF, flF, flF_app xs ys]
theorem flF_one (t : Tr) (O : Pn) (L : List Int) : flF [t] O L = (fl t O, L ++ [((fl t O).n : Int) - 1]) := by rw [flF, flF]
theorem dTs_mid (xs : List Tr) (t : Tr) (ys : List Tr) : dT t ≤ dTs (xs ++ t :: ys) := by
  rw [dTs_append, dTs]; omega
/-- What is wrong with a kid is wrong with its node. -/
theorem noT_up {y : List UInt8} {D : Pn} {dd : Nat} {ks : List Tr} {z : List UInt8} (hn : NoT z (flF ks D []).1 (dd + 1)) (h : ∀ (k : Int) (nm : ByteArray) (oc : Int) (ks' : List Tr) (x : List UInt8) (c : UInt8), (c = 44 ∨ c = 124) → sqP c ks' y (41 :: x) → ∃ ts, ks' = ks ++ ts ∧ sqP c ts z (41 :: x)) (hy : y.head? ≠ some 41) : NoT (40 :: y) D dd := by
  intro t v ht ho h40 hd
  obtain ⟨k, nm, oc, ks', x, c, rfl, hc, hs⟩ := rd_kids ht hy
  obtain ⟨ts, rfl, hs2⟩ := h k nm oc ks' x c hc hs
  obtain ⟨t', ts', v', rfl, h'⟩ := sq_head hs2
  rw [okT] at ho
  rw [dT] at hd
  rw [fl] at h40
  have h41 : (flF (ks ++ t' :: ts') D []).1.n + 1 ≤ 40 := h40
  have h6 := dTs_mid ks t' ts'
  refine hn t' v' h' ((okTs_iff _).1 ho.2 t' (by simp)) ?_ (by omega)
  rw [flF_app, flF] at h41
  have := (ext_flF ts' (fl t' (flF ks D []).1) ((flF ks D []).2 ++ [((fl t' (flF ks D []).1).n : Int) - 1])).1
  omega
theorem noT_kid0 {y : List UInt8} {D : Pn} {dd : Nat} (hn : NoT y D (dd + 1)) (hy : y.head? ≠ some 41) : NoT (40 :: y) D dd :=
  noT_up (ks := []) (z := y) (by rw [flF]; exact hn) (fun k nm oc ks' x c _ hs => ⟨ks', rfl, hs⟩) hy
theorem noT_kid {y : List UInt8} {D : Pn} {dd : Nat} {ks : List Tr} {b c : UInt8} {z : List UInt8} (hb : b ≠ 41) (hc : c ≠ 41) (hs : sqP b ks y (c :: z)) (hn : NoT z (flF ks D []).1 (dd + 1)) (hy : y.head? ≠ some 41) : NoT (40 :: y) D dd := by
  refine noT_up hn (fun k nm oc ks' x c' hc' hs' => ?_) hy
  rcases sq_pre ks ks' b c' y _ x hb (by rcases hc' with rfl | rfl <;> decide) hs hs' with ⟨-, e⟩ | ⟨z', ts, e, rfl, h3, -⟩
  · exact absurd (List.head_eq_of_cons_eq e) hc
  · obtain rfl := List.tail_eq_of_cons_eq e
    exact ⟨ts, rfl, h3⟩
/-- No mark that may stand there stands there. -/
theorem noT_mark {y : List UInt8} {D : Pn} {dd : Nat} {ks : List Tr} {b : UInt8} {w : List UInt8} (hb : b ≠ 41) (hs : sqP b ks y w) (hw : w.head? ≠ some 41) (hm : ∀ c, (c = 44 ∨ c = 124) → w.head? = some c → 2 ≤ ks.length ∧ b ≠ c) (hy : y.head? ≠ some 41) : NoT (40 :: y) D dd := by
  intro t v ht ho h40 hd
  obtain ⟨k, nm, oc, ks', x, c, rfl, hc, hs'⟩ := rd_kids ht hy
  rcases sq_pre ks ks' b c y w x hb (by rcases hc with rfl | rfl <;> decide) hs hs' with ⟨-, e⟩ | ⟨z', ts, e, rfl, h3, h4⟩
  · rw [e] at hw; simp at hw
  · obtain ⟨h5, h6⟩ := hm c hc (by rw [e]; rfl)
    exact h6 (h4 h5)
theorem sq_any {b c : UInt8} {t : Tr} {y w : List UInt8} (h : sqP b [t] y w) : sqP c [t] y w := by
  rw [sqP] at h ⊢
  rcases h with ⟨-, h⟩ | ⟨z, -, h⟩
  · exact .inl ⟨rfl, h⟩
  · rw [sqP] at h; exact h.elim
theorem sq_oneP {c : UInt8} {t : Tr} {y w : List UInt8} (h : rdP t y w) : sqP c [t] y w := by
  rw [sqP]; exact .inl ⟨rfl, h⟩
/-- A row of trees goes on behind a mark. -/
theorem sq_snocP {c : UInt8} {t : Tr} {y w : List UInt8} : ∀ {ts : List Tr} {u : List UInt8}, sqP c ts u (c :: y) → rdP t y w → sqP c (ts ++ [t]) u w
  | [], u, h, k => by rw [sqP] at h; exact h.elim
  | s :: ts, u, h, k => by
    rw [sqP] at h
    rw [List.cons_append, sqP]
    rcases h with ⟨rfl, h⟩ | ⟨z, h1, h2⟩
    · refine .inr ⟨y, h, ?_⟩
      rw [List.nil_append, sqP]
      exact .inl ⟨rfl, k⟩
    · exact .inr ⟨z, h1, sq_snocP h2 k⟩
/-- The kids that have been read behind a (, and their kind so far. -/
def KdP (k : Int) (ks : List Tr) (y w : List UInt8) : Prop := (ks = [] ∧ k = 2 ∧ w = y) ∨ (y.head? ≠ some 41 ∧ ks ≠ [] ∧ ((k = 2 ∧ sqP 44 ks y w) ∨ (k = 3 ∧ 2 ≤ ks.length ∧ sqP 124 ks y w)))
theorem kd_done {k : Int} {ks : List Tr} {y x v : List UInt8} {oc : Int} (h : KdP k ks y (41 :: x)) (ho : ocP oc x v) : rdP (.nd k ⟨#[]⟩ oc ks) (40 :: y) v := by
  rw [rdP]
  refine ⟨x, ho, ?_⟩
  rcases h with ⟨rfl, rfl, h⟩ | ⟨hy, hne, ⟨rfl, h⟩ | ⟨rfl, h2, h⟩⟩
  · exact .inl ⟨rfl, rfl, _, rfl, .inl ⟨rfl, h.symm⟩⟩
  · exact .inl ⟨rfl, rfl, _, rfl, .inr ⟨hy, h⟩⟩
  · exact .inr (.inl ⟨rfl, rfl, h2, _, rfl, hy, h⟩)
theorem kd_first {t : Tr} {y w : List UInt8} (hy : y.head? ≠ some 41) (h : rdP t y w) : KdP 2 [t] y w := .inr ⟨hy, by simp, .inl ⟨rfl, sq_oneP h⟩⟩
theorem kd_seq {ks : List Tr} {t : Tr} {y z w : List UInt8} (hne : ks ≠ []) (h : KdP 2 ks y (44 :: z)) (ht : rdP t z w) : KdP 2 (ks ++ [t]) y w := by
  rcases h with ⟨rfl, -⟩ | ⟨hy, -, ⟨-, h⟩ | ⟨h, -⟩⟩
  · exact absurd rfl hne
  · exact .inr ⟨hy, by simp, .inl ⟨rfl, sq_snocP h ht⟩⟩
  · exact absurd h (by decide)
theorem kd_alt {ks : List Tr} {t : Tr} {y z w : List UInt8} (h : KdP 3 ks y (124 :: z)) (ht : rdP t z w) : KdP 3 (ks ++ [t]) y w := by
  rcases h with ⟨-, h, -⟩ | ⟨hy, hne, ⟨h, -⟩ | ⟨-, h2, h⟩⟩
  · exact absurd h (by decide)
  · exact absurd h (by decide)
  · exact .inr ⟨hy, by simp, .inr ⟨rfl, by simp; omega, sq_snocP h ht⟩⟩
theorem kd_alt1 {ks : List Tr} {t : Tr} {y z w : List UInt8} (hl : ks.length = 1) (h : KdP 2 ks y (124 :: z)) (ht : rdP t z w) : KdP 3 (ks ++ [t]) y w := by
  rcases h with ⟨rfl, -⟩ | ⟨hy, -, ⟨-, h⟩ | ⟨h, -⟩⟩
  · simp at hl
  · obtain ⟨s, rfl⟩ := List.length_eq_one_iff.1 hl
    exact .inr ⟨hy, by simp, .inr ⟨rfl, by simp, sq_snocP (sq_any (b := 44) h) ht⟩⟩
  · exact absurd h (by decide)
/-- The mark of a kind. -/
def mkC (k : Int) : UInt8 := if k = 3 then 124 else 44
theorem kd_sq {k : Int} {ks : List Tr} {y w : List UInt8} (hne : ks ≠ []) (h : KdP k ks y w) : y.head? ≠ some 41 ∧ sqP (mkC k) ks y w ∧ (k = 2 ∨ (k = 3 ∧ 2 ≤ ks.length)) := by
  rcases h with ⟨rfl, -⟩ | ⟨hy, -, ⟨rfl, h⟩ | ⟨rfl, h2, h⟩⟩
  · exact absurd rfl hne
  · exact ⟨hy, h, .inl rfl⟩
  · exact ⟨hy, h, .inr ⟨rfl, h2⟩⟩
theorem mkC_ne (k : Int) : mkC k ≠ 41 := by unfold mkC; split <;> decide
/-- A kid that is wrong behind its mark. -/
theorem kd_kid {k : Int} {ks : List Tr} {y z : List UInt8} {c : UInt8} {D : Pn} {dd : Nat} (hne : ks ≠ []) (h : KdP k ks y (c :: z)) (hc : c = 44 ∨ c = 124) (hn : NoT z (flF ks D []).1 (dd + 1)) : NoT (40 :: y) D dd := by
  obtain ⟨hy, hs, -⟩ := kd_sq hne h
  exact noT_kid (mkC_ne k) (by rcases hc with rfl | rfl <;> decide) hs hn hy
/-- A wrong mark. -/
theorem kd_mark {k : Int} {ks : List Tr} {y w : List UInt8} {D : Pn} {dd : Nat} (hne : ks ≠ []) (h : KdP k ks y w) (hw : w.head? ≠ some 41) (hm : ∀ c, (c = 44 ∨ c = 124) → w.head? = some c → 2 ≤ ks.length ∧ mkC k ≠ c) : NoT (40 :: y) D dd := by
  obtain ⟨hy, hs, -⟩ := kd_sq hne h
  exact noT_mark (mkC_ne k) hs hw hm hy
/-- How long a right tree's text is. -/
theorem name_size {nm : ByteArray} (h : nameB nm = true) : nm.data.toList.length ≤ 40 := by
  unfold nameB at h
  simp only [Bool.and_eq_true, decide_eq_true_eq] at h
  simp
  omega
theorem sg_lenP (oc : Int) : (sgP oc).length ≤ 1 := by unfold sgP; split <;> (try split) <;> (try split) <;> simp
theorem pushN_n (D : Pn) (k : Int) (nm : ByteArray) (L : List Int) (oc : Int) : (pushN D k nm L oc).n = D.n + 1 := rfl
theorem join_len (c : UInt8) : ∀ (l : List (List UInt8)), (Lib.join l [c]).length ≤ (l.map fun x => x.length + 1).sum
  | [] => by rw [Lib.join_nil]; simp
  | [a] => by rw [Lib.join_one]; simp
  | a :: b :: r => by
    rw [join_two]
    have := join_len c (b :: r)
    simp only [List.length_append, List.map_cons, List.sum_cons, List.length_cons, List.length_nil] at this ⊢
    omega
mutual
theorem tx_len : ∀ (t : Tr) (O : Pn), okT t → (txT t).length + 50 * O.n ≤ 50 * (fl t O).n - 5 ∧ O.n < (fl t O).n
  | .nd k nm oc ks, O, h => by
    rw [okT] at h
    obtain ⟨h1, h2⟩ := txs_len ks O [] h.2
    have h3 := sg_lenP oc
    rw [txT, fl, pushN_n, List.length_append]
    refine ⟨?_, by omega⟩
    have h5 : (bdP k nm (txTs ks)).length ≤ 40 + ((txTs ks).map fun x => x.length + 1).sum := by
      rcases ndB_kind h.1 with ⟨rfl, h6, -⟩ | ⟨rfl, rfl, -⟩ | ⟨rfl, rfl⟩ | ⟨rfl, rfl, -⟩
      · have h7 := name_size h6
        have : bdP 1 nm (txTs ks) = nm.data.toList := rfl
        rw [this]; omega
      · have : bdP 4 ⟨#[]⟩ (txTs ks) = [35] := rfl
        rw [this]; simp; omega
      · have : bdP 2 ⟨#[]⟩ (txTs ks) = [40] ++ Lib.join (txTs ks) [44] ++ [41] := rfl
        have h9 := join_len 44 (txTs ks)
        rw [this]; simp; omega
      · have : bdP 3 ⟨#[]⟩ (txTs ks) = [40] ++ Lib.join (txTs ks) [124] ++ [41] := rfl
        have h9 := join_len 124 (txTs ks)
        rw [this]; simp; omega
    omega
theorem txs_len : ∀ (ts : List Tr) (O : Pn) (L : List Int), okTs ts → ((txTs ts).map fun x => x.length + 1).sum + 50 * O.n ≤ 50 * (flF ts O L).1.n ∧ O.n ≤ (flF ts O L).1.n
  | [], O, L, h => by rw [txTs, flF]; simp
  | t :: ts, O, L, h => by
    rw [okTs] at h
    obtain ⟨h1, h2⟩ := tx_len t O h.1
    obtain ⟨h3, h4⟩ := txs_len ts (fl t O) (L ++ [((fl t O).n : Int) - 1]) h.2
    rw [txTs, flF]
    simp only [List.map_cons, List.sum_cons]
    omega
end
/-- The text of a right model is no longer than that, and begins with a (. -/
theorem rm_small {t : Tr} {u : List UInt8} (h : rdP t u []) (hp : pkB (fl t emP) = true) : u.length ≤ 20000 ∧ u.head? = some 40 := by
  obtain ⟨ho, hn, hd⟩ := fl_pk hp
  refine ⟨?_, ?_⟩
  · have := (tx_len t emP ho).1
    rw [tx_rd t u [] h, List.append_nil]
    have e0 : emP.n = 0 := rfl
    omega
  · obtain ⟨-, -, -, h4, -⟩ := pk_facts hp
    obtain ⟨k, nm, oc, ks⟩ := t
    rw [fl] at h4
    have hk : k = 2 ∨ k = 3 := by
      unfold groupB at h4
      rw [pushN_n, Nat.add_sub_cancel] at h4
      have e : (pushN (flF ks emP []).1 k nm (flF ks emP []).2 oc).K (flF ks emP []).1.n = k := if_neg (Nat.lt_irrefl _)
      rw [e] at h4
      simpa using h4
    rw [rdP] at h
    obtain ⟨x, -, h⟩ := h
    rcases h with ⟨rfl, rfl, y, rfl, h⟩ | ⟨rfl, rfl, hl, y, rfl, hy, h⟩ | ⟨rfl, rfl, rfl, rfl⟩ | ⟨rfl, rfl, h1, -⟩
    · rfl
    · rfl
    · rcases hk with hk | hk <;> exact absurd hk (by decide)
    · rcases hk with hk | hk <;> exact absurd hk (by decide)
end Go.Proofs.Ytfohfljdgmlibaa
