/-
  Texts put together: TnM, TrB.
-/
import Derived.Test.YtfohfljdgmlibaaW4
import Derived.Test.YtfohfljdgmlibaaW6
import Derived.Test.YtfohfljdgmlibaaW25
/-
  Plain facts on a model that is turned round: what it is, how many nodes it has.
-/
namespace Go.Proofs.Ytfohfljdgmlibaa
set_option linter.unusedVariables false
set_option linter.unusedSimpArgs false
/-- The kids of a node in the order in which they are turned. -/
def kdsT (D : Pn) (i : Nat) : List Int := if D.K i = 2 then (D.KL i).reverse else D.KL i
theorem kdsT_mem {D : Pn} {i : Nat} {k : Int} : k ∈ kdsT D i ↔ k ∈ D.KL i := by
  unfold kdsT
  split
  · exact List.mem_reverse
  · exact Iff.rfl
theorem kdsT_len {D : Pn} {i : Nat} : (kdsT D i).length = (D.KL i).length := by
  unfold kdsT
  split
  · exact List.length_reverse
  · rfl
def foldT (g : Nat → Pn → Pn) : List Int → Pn → List Int → Pn × List Int
  | [], O, L => (O, L)
  | k :: ks, O, L => foldT g ks (g k.toNat O) (L ++ [((g k.toNat O).n : Int) - 1])
theorem foldT_snoc (g : Nat → Pn → Pn) (k : Int) : ∀ (ks : List Int) (O : Pn) (L : List Int), foldT g (ks ++ [k]) O L = (g k.toNat (foldT g ks O L).1, (foldT g ks O L).2 ++ [((g k.toNat (foldT g ks O L).1).n : Int) - 1])
  | [], O, L => rfl
  | j :: ks, O, L => by rw [List.cons_append, foldT, foldT, foldT_snoc g k ks]
theorem foldT_congr {g h : Nat → Pn → Pn} : ∀ (ks : List Int) (O : Pn) (L : List Int), (∀ k ∈ ks, ∀ O, g k.toNat O = h k.toNat O) → foldT g ks O L = foldT h ks O L
  | [], O, L, _ => rfl
  | j :: ks, O, L, hk => by
    rw [foldT, foldT, hk j (List.mem_cons_self ..)]
    exact foldT_congr ks _ _ (fun k hk' => hk k (List.mem_cons_of_mem _ hk'))
theorem foldT_len (g : Nat → Pn → Pn) : ∀ (ks : List Int) (O : Pn) (L : List Int), (foldT g ks O L).2.length = L.length + ks.length
  | [], O, L => rfl
  | j :: ks, O, L => by rw [foldT, foldT_len g ks, List.length_append, List.length_cons]; simp; omega
def tnF (D : Pn) : Nat → Nat → Pn → Pn
  | 0, _, O => O
  | f + 1, i, O => pushN (foldT (tnF D f) (kdsT D i) O []).1 (D.K i) (D.NM i) (foldT (tnF D f) (kdsT D i) O []).2 (D.OC i)
theorem tnF_more {D : Pn} : ∀ (f g i : Nat), Lo D i → i < f → i < g → ∀ O, tnF D f i O = tnF D g i O
  | 0, g, i, hl, hf, hg, O => by omega
  | f + 1, 0, i, hl, hf, hg, O => by omega
  | f + 1, g + 1, i, hl, hf, hg, O => by
    rw [tnF, tnF, foldT_congr (kdsT D i) O [] (fun k hk O' => ?_)]
    have := hl i (Nat.le_refl _) k (kdsT_mem.1 hk)
    exact tnF_more f g k.toNat (lo_less hl (by omega)) (by omega) (by omega) O'
/-- A node and all below it, turned round, behind what is there. -/
def tn (D : Pn) (i : Nat) (O : Pn) : Pn := tnF D (i + 1) i O
theorem tn_eq {D : Pn} {i : Nat} (hl : Lo D i) (O : Pn) : tn D i O = pushN (foldT (tn D) (kdsT D i) O []).1 (D.K i) (D.NM i) (foldT (tn D) (kdsT D i) O []).2 (D.OC i) := by
  show pushN (foldT (tnF D i) (kdsT D i) O []).1 _ _ (foldT (tnF D i) (kdsT D i) O []).2 _ = _
  rw [foldT_congr (kdsT D i) O [] (fun k hk O' => ?_)]
  have := hl i (Nat.le_refl _) k (kdsT_mem.1 hk)
  exact tnF_more i (k.toNat + 1) k.toNat (lo_less hl (by omega)) (by omega) (by omega) O'
/-- What is behind m of the kids. -/
def fT (D : Pn) (i : Nat) (O : Pn) (m : Nat) : Pn × List Int := foldT (tn D) ((kdsT D i).take m) O []
theorem fT_zero (D : Pn) (i : Nat) (O : Pn) : fT D i O 0 = (O, []) := rfl
theorem fT_next {D : Pn} {i : Nat} {O : Pn} {m : Nat} (h : m < (kdsT D i).length) : fT D i O (m + 1) = (tn D ((kdsT D i)[m]?.getD 0).toNat (fT D i O m).1, (fT D i O m).2 ++ [((tn D ((kdsT D i)[m]?.getD 0).toNat (fT D i O m).1).n : Int) - 1]) := by
  unfold fT
  rw [List.take_succ_eq_append_getElem h, foldT_snoc, List.getElem?_eq_getElem h]
  rfl
theorem fT_len {D : Pn} {i : Nat} {O : Pn} {m : Nat} (h : m ≤ (kdsT D i).length) : (fT D i O m).2.length = m := by
  unfold fT
  rw [foldT_len, List.length_take]
  simp
  omega
theorem tn_fT {D : Pn} {i : Nat} (hl : Lo D i) (O : Pn) : tn D i O = pushN (fT D i O (kdsT D i).length).1 (D.K i) (D.NM i) (fT D i O (kdsT D i).length).2 (D.OC i) := by
  rw [tn_eq hl]
  unfold fT
  rw [List.take_length]
/-- How many nodes are put behind what is there. -/
theorem foldT_n {D : Pn} {sz : Nat → Nat} : ∀ (ks : List Int) (O : Pn) (L : List Int), (∀ k ∈ ks, ∀ O, (tn D k.toNat O).n = O.n + sz k.toNat) → (foldT (tn D) ks O L).1.n = O.n + (ks.map fun k => sz k.toNat).sum
  | [], O, L, _ => rfl
  | j :: ks, O, L, hk => by
    rw [foldT, foldT_n ks _ _ (fun k hk' => hk k (List.mem_cons_of_mem _ hk')), hk j (List.mem_cons_self ..), List.map_cons, List.sum_cons]
    omega
theorem fd_n {D : Pn} {sz : Nat → Nat} : ∀ (ks : List Int) (a f : Nat), (∀ j c, j < a → tr D j = some c → sz j = j + 1 - c) → fd (tr D) ks a = some f → (ks.map fun k => sz k.toNat).sum = a - f ∧ f ≤ a
  | [], a, f, _, h => by simp [fd] at h; subst h; simp
  | k :: ks, a, f, hs, h => by
    by_cases hc : 0 < a ∧ k = (a : Int) - 1
    · cases hg : tr D (a - 1) with
      | none => rw [fd_none hc hg] at h; cases h
      | some c =>
        have hca := tr_le hg
        rw [fd_yes hc hg] at h
        obtain ⟨h1, h2⟩ := fd_n ks c f (fun j c' hj => hs j c' (by omega)) h
        have h3 := hs (a - 1) c (by omega) hg
        rw [List.map_cons, List.sum_cons, h1, show k.toNat = a - 1 by omega, h3]
        omega
    · rw [fd_no hc] at h; cases h
theorem sum_rev : ∀ (L : List Nat), L.reverse.sum = L.sum
  | [] => rfl
  | a :: L => by rw [List.reverse_cons, List.sum_append, sum_rev L, List.sum_cons]; simp; omega
def szT (D : Pn) (i : Nat) : Nat := i + 1 - (tr D i).getD 0
theorem tn_n {D : Pn} : ∀ (m i c : Nat), i < m → Lo D i → tr D i = some c → (∀ j, j ≤ i → ∃ b, tr D j = some b) → ∀ O, (tn D i O).n = O.n + (i + 1 - c)
  | 0, i, c, hm, hl, ht, ha, O => by omega
  | m + 1, i, c, hm, hl, ht, ha, O => by
    rw [tn_eq hl]
    show (foldT (tn D) (kdsT D i) O []).1.n + 1 = _
    have hk : ∀ k ∈ kdsT D i, ∀ O, (tn D k.toNat O).n = O.n + szT D k.toNat := fun k hk O' => by
      have h1 := hl i (Nat.le_refl _) k (kdsT_mem.1 hk)
      obtain ⟨b, hb⟩ := ha k.toNat (by omega)
      have := tn_n m k.toNat b (by omega) (lo_less hl (by omega)) hb (fun j hj => ha j (by omega)) O'
      rw [this]
      unfold szT
      rw [hb]
      rfl
    rw [foldT_n _ _ _ hk]
    have hc := ht
    rw [tr_eq] at hc
    have h2 := fd_n (D := D) (sz := szT D) _ i c (fun j c' _ h => by unfold szT; rw [h]; rfl) hc
    have h3 : ((kdsT D i).map fun k => szT D k.toNat).sum = i - c := by
      have e1 : ((D.KL i).map fun k => szT D k.toNat).sum = i - c := by
        rw [← h2.1, List.map_reverse, sum_rev]
      unfold kdsT
      split
      · rw [List.map_reverse, sum_rev]; exact e1
      · exact e1
    rw [h3]
    have := h2.2
    omega
end Go.Proofs.Ytfohfljdgmlibaa

/-
  Plain facts: a model's rows and its tree; the model turned round is the tree turned round; turned twice it is as it was.
-/
namespace Go.Proofs.Ytfohfljdgmlibaa
set_option linter.unusedVariables false
set_option linter.unusedSimpArgs false
def treF (D : Pn) : Nat → Nat → Tr
  | 0, i => .nd 0 ⟨#[]⟩ 0 []
  | f + 1, i => .nd (D.K i) (D.NM i) (D.OC i) ((D.KL i).map fun k => treF D f k.toNat)
theorem treF_more {D : Pn} : ∀ (f g i : Nat), Lo D i → i < f → i < g → treF D f i = treF D g i
  | 0, g, i, hl, hf, hg => by omega
  | f + 1, 0, i, hl, hf, hg => by omega
  | f + 1, g + 1, i, hl, hf, hg => by
    rw [treF, treF]
    congr 1
    refine List.map_congr_left fun k hk => ?_
    have := hl i (Nat.le_refl _) k hk
    exact treF_more f g k.toNat (lo_less hl (by omega)) (by omega) (by omega)
/-- A node with all below it. -/
def tre (D : Pn) (i : Nat) : Tr := treF D (i + 1) i
theorem tre_eq {D : Pn} {i : Nat} (hl : Lo D i) : tre D i = .nd (D.K i) (D.NM i) (D.OC i) ((D.KL i).map fun k => tre D k.toNat) := by
  show Tr.nd _ _ _ ((D.KL i).map fun k => treF D i k.toNat) = _
  congr 1
  refine List.map_congr_left fun k hk => ?_
  have := hl i (Nat.le_refl _) k hk
  exact treF_more i (k.toNat + 1) k.toNat (lo_less hl (by omega)) (by omega) (by omega)
/- A tree's rows behind what is there. -/
mutual
def fl : Tr → Pn → Pn
  | .nd k nm oc ks, O => pushN (flF ks O []).1 k nm (flF ks O []).2 oc
def flF : List Tr → Pn → List Int → Pn × List Int
  | [], O, L => (O, L)
  | t :: ts, O, L => flF ts (fl t O) (L ++ [((fl t O).n : Int) - 1])
end
theorem foldT_fl {D : Pn} (g : Int → Tr) : ∀ (ks : List Int) (O : Pn) (L : List Int), (∀ k ∈ ks, ∀ O, tn D k.toNat O = fl (g k) O) → foldT (tn D) ks O L = flF (ks.map g) O L
  | [], O, L, _ => by rw [foldT, List.map_nil, flF]
  | j :: ks, O, L, hk => by
    rw [foldT, List.map_cons, flF, hk j (List.mem_cons_self ..), foldT_fl g ks _ _ (fun k hk' => hk k (List.mem_cons_of_mem _ hk'))]
theorem mir_tre {D : Pn} {i : Nat} (hl : Lo D i) : mir (tre D i) = .nd (D.K i) (D.NM i) (D.OC i) ((kdsT D i).map fun k => mir (tre D k.toNat)) := by
  rw [tre_eq hl, mir, mirs_map, List.map_map]
  congr 1
  unfold kdsT
  split
  · rw [List.map_reverse]; rfl
  · rfl
theorem tn_fl {D : Pn} : ∀ (m i : Nat), i < m → Lo D i → ∀ O, tn D i O = fl (mir (tre D i)) O
  | 0, i, hm, hl, O => by omega
  | m + 1, i, hm, hl, O => by
    rw [tn_eq hl, mir_tre hl, fl, foldT_fl (fun k => mir (tre D k.toNat)) (kdsT D i) O [] (fun k hk O' => ?_)]
    have := hl i (Nat.le_refl _) k (kdsT_mem.1 hk)
    exact tn_fl m k.toNat (by omega) (lo_less hl (by omega)) O'
/-- The one model begins as the other one. -/
def Ext (D D' : Pn) : Prop := D.n ≤ D'.n ∧ ∀ j, j < D.n → D'.K j = D.K j ∧ D'.NM j = D.NM j ∧ D'.KL j = D.KL j ∧ D'.OC j = D.OC j
theorem Ext.refl (D : Pn) : Ext D D := ⟨Nat.le_refl _, fun j _ => ⟨rfl, rfl, rfl, rfl⟩⟩
theorem Ext.trans {D E F : Pn} (h : Ext D E) (k : Ext E F) : Ext D F := by
  refine ⟨Nat.le_trans h.1 k.1, fun j hj => ?_⟩
  obtain ⟨a, b, c, d⟩ := h.2 j hj
  obtain ⟨a', b', c', d'⟩ := k.2 j (by have := h.1; omega)
  exact ⟨a'.trans a, b'.trans b, c'.trans c, d'.trans d⟩
theorem ext_push (D : Pn) (k : Int) (nm : ByteArray) (L : List Int) (oc : Int) : Ext D (pushN D k nm L oc) :=
  ⟨Nat.le_succ _, fun j hj => ⟨if_pos hj, if_pos hj, if_pos hj, if_pos hj⟩⟩
mutual
theorem ext_fl : ∀ (t : Tr) (O : Pn), Ext O (fl t O) ∧ O.n < (fl t O).n
  | .nd k nm oc ks, O => by
    rw [fl]
    have h := ext_flF ks O []
    exact ⟨h.trans (ext_push ..), Nat.lt_succ_of_le h.1⟩
theorem ext_flF : ∀ (ts : List Tr) (O : Pn) (L : List Int), Ext O (flF ts O L).1
  | [], O, L => by rw [flF]; exact Ext.refl O
  | t :: ts, O, L => by rw [flF]; exact (ext_fl t O).1.trans (ext_flF ts _ _)
end
/-- All kids stand ahead of their nodes. -/
def LoN (D : Pn) : Prop := ∀ j, j < D.n → ∀ k, k ∈ D.KL j → 0 ≤ k ∧ k < (j : Int)
theorem LoN.lo {D : Pn} (h : LoN D) {i : Nat} (hi : i < D.n) : Lo D i := fun j hj => h j (by omega)
mutual
theorem lo_fl : ∀ (t : Tr) (O : Pn), LoN O → LoN (fl t O)
  | .nd k nm oc ks, O, h => by
    rw [fl]
    obtain ⟨h1, h2⟩ := lo_flF ks O [] h (fun k hk => absurd hk (List.not_mem_nil))
    intro j hj
    show ∀ k, k ∈ (if j < (flF ks O []).1.n then (flF ks O []).1.KL j else (flF ks O []).2) → _
    split
    · rename_i e; exact h1 j e
    · rename_i e
      have hj' : j < (flF ks O []).1.n + 1 := hj
      intro k hk
      have := h2 k hk
      omega
theorem lo_flF : ∀ (ts : List Tr) (O : Pn) (L : List Int), LoN O → (∀ k ∈ L, 0 ≤ k ∧ k < (O.n : Int)) → LoN (flF ts O L).1 ∧ ∀ k ∈ (flF ts O L).2, 0 ≤ k ∧ k < ((flF ts O L).1.n : Int)
  | [], O, L, h, hL => by rw [flF]; exact ⟨h, hL⟩
  | t :: ts, O, L, h, hL => by
    rw [flF]
    have hn := (ext_fl t O).2
    refine lo_flF ts _ _ (lo_fl t O h) (fun k hk => ?_)
    rcases List.mem_append.1 hk with hk | hk
    · have := hL k hk; omega
    · simp at hk; omega
end
theorem push_at {O D' : Pn} {k : Int} {nm : ByteArray} {L : List Int} {oc : Int} (h : Ext (pushN O k nm L oc) D') : D'.K O.n = k ∧ D'.NM O.n = nm ∧ D'.KL O.n = L ∧ D'.OC O.n = oc := by
  obtain ⟨a, b, c, d⟩ := h.2 O.n (Nat.lt_succ_self _)
  have e : ¬ O.n < O.n := Nat.lt_irrefl _
  exact ⟨a.trans (if_neg e), b.trans (if_neg e), c.trans (if_neg e), d.trans (if_neg e)⟩
mutual
theorem fl_tre : ∀ (t : Tr) (O D' : Pn), Ext (fl t O) D' → LoN D' → tre D' ((fl t O).n - 1) = t
  | .nd k nm oc ks, O, D', hE, hl => by
    rw [fl] at hE
    rw [fl]
    show tre D' ((flF ks O []).1.n + 1 - 1) = _
    rw [Nat.add_sub_cancel]
    have hlt : (flF ks O []).1.n < D'.n := Nat.lt_of_lt_of_le (Nat.lt_succ_self _) hE.1
    obtain ⟨a, b, c, d⟩ := push_at hE
    have h1 := flF_tre ks O [] D' ((ext_push ..).trans hE) hl
    rw [tre_eq (hl.lo hlt), a, b, c, d, h1]
    rfl
theorem flF_tre : ∀ (ts : List Tr) (O : Pn) (L : List Int) (D' : Pn), Ext (flF ts O L).1 D' → LoN D' → ((flF ts O L).2.map fun k => tre D' k.toNat) = (L.map fun k => tre D' k.toNat) ++ ts
  | [], O, L, D', hE, hl => by rw [flF, List.append_nil]
  | t :: ts, O, L, D', hE, hl => by
    rw [flF] at hE
    rw [flF, flF_tre ts _ _ D' hE hl, List.map_append, List.append_assoc]
    have h1 := fl_tre t O D' ((ext_flF ts _ _).trans hE) hl
    have hn := (ext_fl t O).2
    have e : (((fl t O).n : Int) - 1).toNat = (fl t O).n - 1 := by omega
    rw [List.map_cons, List.map_nil, e, h1]
    rfl
end
theorem fd_append {g : Nat → Option Nat} : ∀ (xs ys : List Int) (a : Nat), fd g (xs ++ ys) a = (fd g xs a).bind (fd g ys)
  | [], ys, a => rfl
  | x :: xs, ys, a => by
    rw [List.cons_append, fd, fd]
    split
    · cases g (a - 1) with
      | none => rfl
      | some b => exact fd_append xs ys b
    · rfl
mutual
theorem fl_tr : ∀ (t : Tr) (O D' : Pn), Ext (fl t O) D' → tr D' ((fl t O).n - 1) = some O.n
  | .nd k nm oc ks, O, D', hE => by
    rw [fl] at hE
    rw [fl]
    show tr D' ((flF ks O []).1.n + 1 - 1) = _
    rw [Nat.add_sub_cancel]
    obtain ⟨a, b, c, d⟩ := push_at hE
    obtain ⟨M, hM, h1⟩ := flF_tr ks O [] D' ((ext_push ..).trans hE)
    rw [tr_eq, c, hM]
    exact h1
theorem flF_tr : ∀ (ts : List Tr) (O : Pn) (L : List Int) (D' : Pn), Ext (flF ts O L).1 D' → ∃ M, (flF ts O L).2 = L ++ M ∧ fd (tr D') M.reverse (flF ts O L).1.n = some O.n
  | [], O, L, D', hE => by rw [flF]; exact ⟨[], (List.append_nil _).symm, rfl⟩
  | t :: ts, O, L, D', hE => by
    rw [flF] at hE
    obtain ⟨M, hM, h1⟩ := flF_tr ts _ _ D' hE
    rw [flF]
    refine ⟨(((fl t O).n : Int) - 1) :: M, by rw [hM, List.append_assoc]; rfl, ?_⟩
    have hn := (ext_fl t O).2
    rw [List.reverse_cons, fd_append, h1]
    show fd (tr D') [((fl t O).n : Int) - 1] (fl t O).n = some O.n
    rw [fd_yes ⟨by omega, rfl⟩ (fl_tr t O D' ((ext_flF ts _ _).trans hE))]
    rfl
end
end Go.Proofs.Ytfohfljdgmlibaa
