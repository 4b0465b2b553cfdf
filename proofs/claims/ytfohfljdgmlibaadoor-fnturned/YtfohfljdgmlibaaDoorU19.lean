/-
  Texts put together: TrB, TrC.
-/
import Derived.Test.YtfohfljdgmlibaaDoorU17
import Derived.Test.YtfohfljdgmlibaaDoorU18
/-
  Plain facts: a model's rows and its tree; the model turned round is the tree turned round; turned twice it is as it was.
-/
namespace Go.Proofs.YtfohfljdgmlibaaDoor
set_option linter.unusedVariables false
set_option linter.unusedSimpArgs false
def treF (D : Pn) : Nat → Nat → Tr
  | 0, i => .nd 0 ⟨#[]⟩ 0 []
  | f + 1, i => .nd (D.K i) (D.NM i) (D.OC i) ((D.KL i).map fun k => treF D f k.toNat)
theorem treF_more {D : Pn} : ∀ (f g i : Nat), Lo D i → i < f → i < g → treF D f i = treF D g i
  | 0, g, i, hl, hf, hg => by omega
  | f + 1, 0, i, hl, hf, hg => by omega
  | f + 1, g + 1, i, hl, hf, hg => by
    rw [treF, treF]
    congr 1
    refine List.map_congr_left fun k hk => ?_
    have := hl i (Nat.le_refl _) k hk
    exact treF_more f g k.toNat (lo_less hl (by omega)) (by omega) (by omega)
/-- A node with all below it. -/
def tre (D : Pn) (i : Nat) : Tr := treF D (i + 1) i
theorem tre_eq {D : Pn} {i : Nat} (hl : Lo D i) : tre D i = .nd (D.K i) (D.NM i) (D.OC i) ((D.KL i).map fun k => tre D k.toNat) := by
  show Tr.nd _ _ _ ((D.KL i).map fun k => treF D i k.toNat) = _
  congr 1
  refine List.map_congr_left fun k hk => ?_
  have := hl i (Nat.le_refl _) k hk
  exact treF_more i (k.toNat + 1) k.toNat (lo_less hl (by omega)) (by omega) (by omega)
/- A tree's rows behind what is there. -/
mutual
def fl : Tr → Pn → Pn
  | .nd k nm oc ks, O => pushN (flF ks O []).1 k nm (flF ks O []).2 oc
def flF : List Tr → Pn → List Int → Pn × List Int
  | [], O, L => (O, L)
  | t :: ts, O, L => flF ts (fl t O) (L ++ [((fl t O).n : Int) - 1])
end
theorem foldT_fl {D : Pn} (g : Int → Tr) : ∀ (ks : List Int) (O : Pn) (L : List Int), (∀ k ∈ ks, ∀ O, tn D k.toNat O = fl (g k) O) → foldT (tn D) ks O L = flF (ks.map g) O L
  | [], O, L, _ => by rw [foldT, List.map_nil, flF]
  | j :: ks, O, L, hk => by
    rw [foldT, List.map_cons, flF, hk j (List.mem_cons_self ..), foldT_fl g ks _ _ (fun k hk' => hk k (List.mem_cons_of_mem _ hk'))]
theorem mir_tre {D : Pn} {i : Nat} (hl : Lo D i) : mir (tre D i) = .nd (D.K i) (D.NM i) (D.OC i) ((kdsT D i).map fun k => mir (tre D k.toNat)) := by
  rw [tre_eq hl, mir, mirs_map, List.map_map]
  congr 1
  unfold kdsT
  split
  · rw [List.map_reverse]; rfl
  · rfl
theorem tn_fl {D : Pn} : ∀ (m i : Nat), i < m → Lo D i → ∀ O, tn D i O = fl (mir (tre D i)) O
  | 0, i, hm, hl, O => by omega
  | m + 1, i, hm, hl, O => by
    rw [tn_eq hl, mir_tre hl, fl, foldT_fl (fun k => mir (tre D k.toNat)) (kdsT D i) O [] (fun k hk O' => ?_)]
    have := hl i (Nat.le_refl _) k (kdsT_mem.1 hk)
    exact tn_fl m k.toNat (by omega) (lo_less hl (by omega)) O'
/-- The one model begins as the other one. -/
def Ext (D D' : Pn) : Prop := D.n ≤ D'.n ∧ ∀ j, j < D.n → D'.K j = D.K j ∧ D'.NM j = D.NM j ∧ D'.KL j = D.KL j ∧ D'.OC j = D.OC j
theorem Ext.refl (D : Pn) : Ext D D := ⟨Nat.le_refl _, fun j _ => ⟨rfl, rfl, rfl, rfl⟩⟩
theorem Ext.trans {D E F : Pn} (h : Ext D E) (k : Ext E F) : Ext D F := by
  refine ⟨Nat.le_trans h.1 k.1, fun j hj => ?_⟩
  obtain ⟨a, b, c, d⟩ := h.2 j hj
  obtain ⟨a', b', c', d'⟩ := k.2 j (by have := h.1; omega)
  exact ⟨a'.trans a, b'.trans b, c'.trans c, d'.trans d⟩
theorem ext_push (D : Pn) (k : Int) (nm : ByteArray) (L : List Int) (oc : Int) : Ext D (pushN D k nm L oc) :=
  ⟨Nat.le_succ _, fun j hj => ⟨if_pos hj, if_pos hj, if_pos hj, if_pos hj⟩⟩
mutual
theorem ext_fl : ∀ (t : Tr) (O : Pn), Ext O (fl t O) ∧ O.n < (fl t O).n
  | .nd k nm oc ks, O => by
    rw [fl]
    have h := ext_flF ks O []
    exact ⟨h.trans (ext_push ..), Nat.lt_succ_of_le h.1⟩
theorem ext_flF : ∀ (ts : List Tr) (O : Pn) (L : List Int), Ext O (flF ts O L).1
  | [], O, L => by rw [flF]; exact Ext.refl O
  | t :: ts, O, L => by rw [flF]; exact (ext_fl t O).1.trans (ext_flF ts _ _)
end
/-- All kids stand ahead of their nodes. -/
def LoN (D : Pn) : Prop := ∀ j, j < D.n → ∀ k, k ∈ D.KL j → 0 ≤ k ∧ k < (j : Int)
theorem LoN.lo {D : Pn} (h : LoN D) {i : Nat} (hi : i < D.n) : Lo D i := fun j hj => h j (by omega)
mutual
theorem lo_fl : ∀ (t : Tr) (O : Pn), LoN O → LoN (fl t O)
  | .nd k nm oc ks, O, h => by
    rw [fl]
    obtain ⟨h1, h2⟩ := lo_flF ks O [] h (fun k hk => absurd hk (List.not_mem_nil))
    intro j hj
    show ∀ k, k ∈ (if j < (flF ks O []).1.n then (flF ks O []).1.KL j else (flF ks O []).2) → _
    split
    · rename_i e; exact h1 j e
    · rename_i e
      have hj' : j < (flF ks O []).1.n + 1 := hj
      intro k hk
      have := h2 k hk
      omega
theorem lo_flF : ∀ (ts : List Tr) (O : Pn) (L : List Int), LoN O → (∀ k ∈ L, 0 ≤ k ∧ k < (O.n : Int)) → LoN (flF ts O L).1 ∧ ∀ k ∈ (flF ts O L).2, 0 ≤ k ∧ k < ((flF ts O L).1.n : Int)
  | [], O, L, h, hL => by rw [flF]; exact ⟨h, hL⟩
  | t :: ts, O, L, h, hL => by
    rw [flF]
    have hn := (ext_fl t O).2
    refine lo_flF ts _ _ (lo_fl t O h) (fun k hk => ?_)
    rcases List.mem_append.1 hk with hk | hk
    · have := hL k hk; omega
    · simp at hk; omega
end
theorem push_at {O D' : Pn} {k : Int} {nm : ByteArray} {L : List Int} {oc : Int} (h : Ext (pushN O k nm L oc) D') : D'.K O.n = k ∧ D'.NM O.n = nm ∧ D'.KL O.n = L ∧ D'.OC O.n = oc := by
  obtain ⟨a, b, c, d⟩ := h.2 O.n (Nat.lt_succ_self _)
  have e : ¬ O.n < O.n := Nat.lt_irrefl _
  exact ⟨a.trans (if_neg e), b.trans (if_neg e), c.trans (if_neg e), d.trans (if_neg e)⟩
mutual
theorem fl_tre : ∀ (t : Tr) (O D' : Pn), Ext (fl t O) D' → LoN D' → tre D' ((fl t O).n - 1) = t
  | .nd k nm oc ks, O, D', hE, hl => by
    rw [fl] at hE
    rw [fl]
    show tre D' ((flF ks O []).1.n + 1 - 1) = _
    rw [Nat.add_sub_cancel]
    have hlt : (flF ks O []).1.n < D'.n := Nat.lt_of_lt_of_le (Nat.lt_succ_self _) hE.1
    obtain ⟨a, b, c, d⟩ := push_at hE
    have h1 := flF_tre ks O [] D' ((ext_push ..).trans hE) hl
    rw [tre_eq (hl.lo hlt), a, b, c, d, h1]
    rfl
theorem flF_tre : ∀ (ts : List Tr) (O : Pn) (L : List Int) (D' : Pn), Ext (flF ts O L).1 D' → LoN D' → ((flF ts O L).2.map fun k => tre D' k.toNat) = (L.map fun k => tre D' k.toNat) ++ ts
  | [], O, L, D', hE, hl => by rw [flF, List.append_nil]
  | t :: ts, O, L, D', hE, hl => by
    rw [flF] at hE
    rw [flF, flF_tre ts _ _ D' hE hl, List.map_append, List.append_assoc]
    have h1 := fl_tre t O D' ((ext_flF ts _ _).trans hE) hl
    have hn := (ext_fl t O).2
    have e : (((fl t O).n : Int) - 1).toNat = (fl t O).n - 1 := by omega
    rw [List.map_cons, List.map_nil, e, h1]
    rfl
end
theorem fd_append {g : Nat → Option Nat} : ∀ (xs ys : List Int) (a : Nat), fd g (xs ++ ys) a = (fd g xs a).bind (fd g ys)
  | [], ys, a => rfl
  | x :: xs, ys, a => by
    rw [List.cons_append, fd, fd]
    split
    · cases g (a - 1) with
      | none => rfl
      | some b => exact fd_append xs ys b
    · rfl
mutual
theorem fl_tr : ∀ (t : Tr) (O D' : Pn), Ext (fl t O) D' → tr D' ((fl t O).n - 1) = some O.n
  | .nd k nm oc ks, O, D', hE => by
    rw [fl] at hE
    rw [fl]
    show tr D' ((flF ks O []).1.n + 1 - 1) = _
    rw [Nat.add_sub_cancel]
    obtain ⟨a, b, c, d⟩ := push_at hE
    obtain ⟨M, hM, h1⟩ := flF_tr ks O [] D' ((ext_push ..).trans hE)
    rw [tr_eq, c, hM]
    exact h1
theorem flF_tr : ∀ (ts : List Tr) (O : Pn) (L : List Int) (D' : Pn), Ext (flF ts O L).1 D' → ∃ M, (flF ts O L).2 = L ++ M ∧ fd (tr D') M.reverse (flF ts O L).1.n = some O.n
  | [], O, L, D', hE => by rw [flF]; exact ⟨[], (List.append_nil _).symm, rfl⟩
  | t :: ts, O, L, D', hE => by
    rw [flF] at hE
    obtain ⟨M, hM, h1⟩ := flF_tr ts _ _ D' hE
    rw [flF]
    refine ⟨(((fl t O).n : Int) - 1) :: M, by rw [hM, List.append_assoc]; rfl, ?_⟩
    have hn := (ext_fl t O).2
    rw [List.reverse_cons, fd_append, h1]
    show fd (tr D') [((fl t O).n : Int) - 1] (fl t O).n = some O.n
    rw [fd_yes ⟨by omega, rfl⟩ (fl_tr t O D' ((ext_flF ts _ _).trans hE))]
    rfl
end
end Go.Proofs.YtfohfljdgmlibaaDoor

/-
  Plain facts: the model turned round is right, takes rows from behind, and turned again it is as it was.
-/
namespace Go.Proofs.YtfohfljdgmlibaaDoor
set_option linter.unusedVariables false
set_option linter.unusedSimpArgs false
/- How deep a tree is. -/
mutual
def dT : Tr → Nat
  | .nd k nm oc ks => dTs ks + 1
def dTs : List Tr → Nat
  | [] => 0
  | t :: ts => max (dT t) (dTs ts)
end
theorem dTs_append : ∀ xs ys : List Tr, dTs (xs ++ ys) = max (dTs xs) (dTs ys)
  | [], ys => by rw [List.nil_append, dTs]; omega
  | x :: xs, ys => by rw [List.cons_append, dTs, dTs, dTs_append xs ys]; omega
theorem dTs_rev : ∀ xs : List Tr, dTs xs.reverse = dTs xs
  | [] => rfl
  | x :: xs => by rw [List.reverse_cons, dTs_append, dTs_rev xs, dTs, dTs, dTs]; omega
mutual
theorem dT_mir : ∀ t : Tr, dT (mir t) = dT t
  | .nd k nm oc ks => by
    rw [mir, dT, dT]
    split
    · rw [dTs_rev, dTs_mirs ks]
    · rw [dTs_mirs ks]
theorem dTs_mirs : ∀ ts : List Tr, dTs (mirs ts) = dTs ts
  | [] => by rw [mirs]
  | t :: ts => by rw [mirs, dTs, dTs, dT_mir t, dTs_mirs ts]
end
theorem mx_dTs {D : Pn} : ∀ ks : List Int, (∀ k ∈ ks, dq D k.toNat = dT (tre D k.toNat)) → mx (dq D) ks = dTs (ks.map fun k => tre D k.toNat)
  | [], _ => by rw [List.map_nil, dTs]; rfl
  | k :: ks, h => by
    rw [List.map_cons, dTs, ← mx_dTs ks (fun j hj => h j (List.mem_cons_of_mem _ hj)), ← h k (List.mem_cons_self ..)]
    show (k :: ks).foldl _ 0 = _
    rw [List.foldl_cons, mx_init]
    omega
theorem dq_tre {D : Pn} : ∀ (m i : Nat), i < m → Lo D i → dq D i = dT (tre D i)
  | 0, i, hm, hl => by omega
  | m + 1, i, hm, hl => by
    rw [dq_eq hl, tre_eq hl, dT, mx_dTs]
    intro k hk
    have := hl i (Nat.le_refl _) k hk
    exact dq_tre m k.toNat (by omega) (lo_less hl (by omega))
/- All nodes are right by themselves. -/
mutual
def okT : Tr → Prop
  | .nd k nm oc ks => ndB k nm ks.length oc = true ∧ okTs ks
def okTs : List Tr → Prop
  | [] => True
  | t :: ts => okT t ∧ okTs ts
end
theorem okTs_iff : ∀ ts : List Tr, okTs ts ↔ ∀ t ∈ ts, okT t
  | [] => by rw [okTs]; simp
  | t :: ts => by rw [okTs, okTs_iff ts]; simp
theorem mirs_len : ∀ ts : List Tr, (mirs ts).length = ts.length
  | ts => by rw [mirs_map, List.length_map]
mutual
theorem ok_mir : ∀ t : Tr, okT t → okT (mir t)
  | .nd k nm oc ks, h => by
    rw [okT] at h
    rw [mir, okT]
    have h2 := ok_mirs ks h.2
    split
    · rw [List.length_reverse, mirs_len, okTs_iff]
      refine ⟨h.1, fun t ht => ?_⟩
      exact (okTs_iff _).1 h2 t (List.mem_reverse.1 ht)
    · rw [mirs_len]; exact ⟨h.1, h2⟩
theorem ok_mirs : ∀ ts : List Tr, okTs ts → okTs (mirs ts)
  | [], h => by rw [mirs]; exact h
  | t :: ts, h => by
    rw [okTs] at h
    rw [mirs, okTs]
    exact ⟨ok_mir t h.1, ok_mirs ts h.2⟩
end
theorem flF_len : ∀ (ts : List Tr) (O : Pn) (L : List Int), (flF ts O L).2.length = L.length + ts.length
  | [], O, L => by rw [flF]; rfl
  | t :: ts, O, L => by rw [flF, flF_len ts, List.length_append, List.length_cons, List.length_cons]; simp; omega
mutual
theorem fl_ok : ∀ (t : Tr) (O D' : Pn), okT t → Ext (fl t O) D' → ∀ j, O.n ≤ j → j < (fl t O).n → nodeB D' j = true
  | .nd k nm oc ks, O, D', h, hE, j, hj1, hj2 => by
    rw [okT] at h
    rw [fl] at hE hj2
    have hj3 : j < (flF ks O []).1.n + 1 := hj2
    by_cases e : j < (flF ks O []).1.n
    · exact flF_ok ks O [] D' h.2 ((ext_push ..).trans hE) j hj1 e
    · obtain ⟨a, b, c, d⟩ := push_at hE
      rw [show j = (flF ks O []).1.n by omega]
      unfold nodeB
      rw [a, b, c, d, flF_len]
      simpa using h.1
theorem flF_ok : ∀ (ts : List Tr) (O : Pn) (L : List Int) (D' : Pn), okTs ts → Ext (flF ts O L).1 D' → ∀ j, O.n ≤ j → j < (flF ts O L).1.n → nodeB D' j = true
  | [], O, L, D', h, hE, j, hj1, hj2 => by rw [flF] at hj2; exact absurd (show j < O.n from hj2) (by omega)
  | t :: ts, O, L, D', h, hE, j, hj1, hj2 => by
    rw [okTs] at h
    rw [flF] at hE hj2
    by_cases e : j < (fl t O).n
    · exact fl_ok t O D' h.1 ((ext_flF ts _ _).trans hE) j hj1 e
    · exact flF_ok ts _ _ D' h.2 hE j (by omega) hj2
end
theorem tre_ok {D : Pn} : ∀ (m i : Nat), i < m → Lo D i → (∀ j, j ≤ i → nodeB D j = true) → okT (tre D i)
  | 0, i, hm, hl, h => by omega
  | m + 1, i, hm, hl, h => by
    rw [tre_eq hl, okT, List.length_map, okTs_iff]
    refine ⟨h i (Nat.le_refl _), fun t ht => ?_⟩
    obtain ⟨k, hk, rfl⟩ := List.mem_map.1 ht
    have := hl i (Nat.le_refl _) k hk
    exact tre_ok m k.toNat (by omega) (lo_less hl (by omega)) (fun j hj => h j (by omega))
/-- The rows of a model's tree are the model's. -/
theorem flF_snoc (t : Tr) : ∀ (ts : List Tr) (O : Pn) (L : List Int), flF (ts ++ [t]) O L = (fl t (flF ts O L).1, (flF ts O L).2 ++ [((fl t (flF ts O L).1).n : Int) - 1])
  | [], O, L => by rw [List.nil_append, flF, flF, flF]
  | s :: ts, O, L => by rw [List.cons_append, flF, flF, flF_snoc t ts]
theorem flF_back {D : Pn} {i : Nat} (ih : ∀ j c, j < i → tr D j = some c → ∀ O, O.n = c → Ext O D → Ext (fl (tre D j) O) D ∧ (fl (tre D j) O).n = j + 1) : ∀ (ks : List Int) (a f : Nat), a ≤ i → fd (tr D) ks a = some f → ∀ O, O.n = f → Ext O D → Ext (flF (ks.reverse.map fun k => tre D k.toNat) O []).1 D ∧ (flF (ks.reverse.map fun k => tre D k.toNat) O []).1.n = a ∧ (flF (ks.reverse.map fun k => tre D k.toNat) O []).2 = ks.reverse
  | [], a, f, ha, h, O, hO, hE => by
    simp [fd] at h
    rw [List.reverse_nil, List.map_nil, flF]
    exact ⟨hE, by rw [hO, h], rfl⟩
  | k :: ks, a, f, ha, h, O, hO, hE => by
    by_cases hc : 0 < a ∧ k = (a : Int) - 1
    · cases hg : tr D (a - 1) with
      | none => rw [fd_none hc hg] at h; cases h
      | some c =>
        have hca := tr_le hg
        rw [fd_yes hc hg] at h
        obtain ⟨h1, h2, h3⟩ := flF_back ih ks c f (by omega) h O hO hE
        rw [List.reverse_cons, List.map_append, List.map_cons, List.map_nil, flF_snoc]
        have hk : k.toNat = a - 1 := by omega
        obtain ⟨h4, h5⟩ := ih (a - 1) c (by omega) hg _ h2 h1
        rw [hk]
        refine ⟨h4, by rw [h5]; omega, ?_⟩
        show _ ++ [_] = _
        rw [h3, h5]
        congr 2
        omega
    · rw [fd_no hc] at h; cases h
theorem fl_back {D : Pn} : ∀ (m i c : Nat), i < m → i < D.n → LoN D → tr D i = some c → ∀ O, O.n = c → Ext O D → Ext (fl (tre D i) O) D ∧ (fl (tre D i) O).n = i + 1
  | 0, i, c, hm, hi, hl, ht, O, hO, hE => by omega
  | m + 1, i, c, hm, hi, hl, ht, O, hO, hE => by
    rw [tre_eq (hl.lo hi), fl]
    rw [tr_eq] at ht
    obtain ⟨h1, h2, h3⟩ := flF_back (D := D) (i := i) (fun j c hj hc => fl_back m j c (by omega) (by omega) hl hc) _ i c (Nat.le_refl _) ht O hO hE
    rw [List.reverse_reverse] at h1 h2 h3
    refine ⟨⟨?_, fun j hj => ?_⟩, ?_⟩
    · show (flF _ O []).1.n + 1 ≤ D.n
      rw [h2]; exact hi
    · have hj' : j < (flF ((D.KL i).map fun k => tre D k.toNat) O []).1.n + 1 := hj
      by_cases e : j < (flF ((D.KL i).map fun k => tre D k.toNat) O []).1.n
      · obtain ⟨a, b, c, d⟩ := h1.2 j e
        exact ⟨a.trans (if_pos e).symm, b.trans (if_pos e).symm, c.trans (if_pos e).symm, d.trans (if_pos e).symm⟩
      · have ej : j = i := by omega
        subst ej
        exact ⟨(if_neg e).symm, (if_neg e).symm, ((if_neg e).trans h3).symm, (if_neg e).symm⟩
    · show (flF _ O []).1.n + 1 = _
      rw [h2]
theorem rep_iff {oc : Int} {R R' : Nat → Nat → Prop} (h : ∀ a b, R a b ↔ R' a b) (a b : Nat) : rep oc R a b ↔ rep oc R' a b :=
  ⟨rep_mono fun a b => (h a b).1, rep_mono fun a b => (h a b).2⟩
theorem chn_chT {D : Pn} {W : List ByteArray} : ∀ (ks : List Int), (∀ k ∈ ks, ∀ a b, en D W k.toNat a b ↔ enT W (tre D k.toNat) a b) → ∀ a b, chn (fun k => en D W k.toNat) ks a b ↔ chT W (ks.map fun k => tre D k.toNat) a b
  | [], _, a, b => by rw [List.map_nil, chn, chT]
  | k :: ks, h, a, b => by
    rw [List.map_cons, chn, chT]
    constructor
    · rintro ⟨c, h1, h2⟩
      exact ⟨c, (h k (List.mem_cons_self ..) a c).1 h1, (chn_chT ks (fun j hj => h j (List.mem_cons_of_mem _ hj)) c b).1 h2⟩
    · rintro ⟨c, h1, h2⟩
      exact ⟨c, (h k (List.mem_cons_self ..) a c).2 h1, (chn_chT ks (fun j hj => h j (List.mem_cons_of_mem _ hj)) c b).2 h2⟩
theorem mtN_mtT {D : Pn} {W : List ByteArray} {i a : Nat} (hi : i < D.n) : mtN D W i a ↔ a < W.length ∧ mtT (D.K i) (D.NM i) (W[a]?.getD ⟨#[]⟩) := by
  unfold mtN mtP mtT
  simp [hi]
theorem en_tre {D : Pn} {W : List ByteArray} : ∀ (m i : Nat), i < m → Lo D i → i < D.n → ∀ a b, en D W i a b ↔ enT W (tre D i) a b
  | 0, i, hm, hl, hi, a, b => by omega
  | m + 1, i, hm, hl, hi, a, b => by
    rw [en_iff hl, tre_eq hl, enT]
    refine rep_iff (fun a b => ?_) a b
    have hk : ∀ k ∈ D.KL i, ∀ a b, en D W k.toNat a b ↔ enT W (tre D k.toNat) a b := fun k hk => by
      have := hl i (Nat.le_refl _) k hk
      exact en_tre m k.toNat (by omega) (lo_less hl (by omega)) (by omega)
    unfold onc
    rw [chn_chT _ hk a b, anT_iff, mtN_mtT hi]
    refine or_congr Iff.rfl (or_congr (and_congr_right fun _ => ?_) Iff.rfl)
    constructor
    · rintro ⟨k, h1, h2⟩
      exact ⟨_, List.mem_map_of_mem h1, (hk k h1 a b).1 h2⟩
    · rintro ⟨t, h1, h2⟩
      obtain ⟨k, h3, rfl⟩ := List.mem_map.1 h1
      exact ⟨k, h3, (hk k h3 a b).2 h2⟩
end Go.Proofs.YtfohfljdgmlibaaDoor
