/-
  Plain facts on a model that is turned round: what it is, how many nodes it has.
-/
import Derived.Test.YtfohfljdgmlibaaV5
import Derived.Test.YtfohfljdgmlibaaV7
namespace Go.Proofs.Ytfohfljdgmlibaa
set_option linter.unusedVariables false
set_option linter.unusedSimpArgs false
/-- The kids of a node in the order in which they are turned. -/
def kdsT (D : Pn) (i : Nat) : List Int := if D.K i = 2 then (D.KL i).reverse else D.KL i
theorem kdsT_mem {D : Pn} {i : Nat} {k : Int} : k ∈ kdsT D i ↔ k ∈ D.KL i := by
  unfold kdsT
  split
  · exact List.mem_reverse
  · exact Iff.rfl
theorem kdsT_len {D : Pn} {i : Nat} : (kdsT D i).length = (D.KL i).length := by
  unfold kdsT
  split
  · exact List.length_reverse
  · rfl
def foldT (g : Nat → Pn → Pn) : List Int → Pn → List Int → Pn × List Int
  | [], O, L => (O, L)
  | k :: ks, O, L => foldT g ks (g k.toNat O) (L ++ [((g k.toNat O).n : Int) - 1])
theorem foldT_snoc (g : Nat → Pn → Pn) (k : Int) : ∀ (ks : List Int) (O : Pn) (L : List Int), foldT g (ks ++ [k]) O L = (g k.toNat (foldT g ks O L).1, (foldT g ks O L).2 ++ [((g k.toNat (foldT g ks O L).1).n : Int) - 1])
  | [], O, L => rfl
  | j :: ks, O, L => by rw [List.cons_append, foldT, foldT, foldT_snoc g k ks]
theorem foldT_congr {g h : Nat → Pn → Pn} : ∀ (ks : List Int) (O : Pn) (L : List Int), (∀ k ∈ ks, ∀ O, g k.toNat O = h k.toNat O) → foldT g ks O L = foldT h ks O L
  | [], O, L, _ => rfl
  | j :: ks, O, L, hk => by
    rw [foldT, foldT, hk j (List.mem_cons_self ..)]
    exact foldT_congr ks _ _ (fun k hk' => hk k (List.mem_cons_of_mem _ hk'))
theorem foldT_len (g : Nat → Pn → Pn) : ∀ (ks : List Int) (O : Pn) (L : List Int), (foldT g ks O L).2.length = L.length + ks.length
  | [], O, L => rfl
  | j :: ks, O, L => by rw [foldT, foldT_len g ks, List.length_append, List.length_cons]; simp; omega
def tnF (D : Pn) : Nat → Nat → Pn → Pn
  | 0, _, O => O
  | f + 1, i, O => pushN (foldT (tnF D f) (kdsT D i) O []).1 (D.K i) (D.NM i) (foldT (tnF D f) (kdsT D i) O []).2 (D.OC i)
theorem tnF_more {D : Pn} : ∀ (f g i : Nat), Lo D i → i < f → i < g → ∀ O, tnF D f i O = tnF D g i O
  | 0, g, i, hl, hf, hg, O => by omega
  | f + 1, 0, i, hl, hf, hg, O => by omega
  | f + 1, g + 1, i, hl, hf, hg, O => by
    rw [tnF, tnF, foldT_congr (kdsT D i) O [] (fun k hk O' => ?_)]
    have := hl i (Nat.le_refl _) k (kdsT_mem.1 hk)
    exact tnF_more f g k.toNat (lo_less hl (by omega)) (by omega) (by omega) O'
/-- A node and all below it, turned round, behind what is there. -/
def tn (D : Pn) (i : Nat) (O : Pn) : Pn := tnF D (i + 1) i O
theorem tn_eq {D : Pn} {i : Nat} (hl : Lo D i) (O : Pn) : tn D i O = pushN (foldT (tn D) (kdsT D i) O []).1 (D.K i) (D.NM i) (foldT (tn D) (kdsT D i) O []).2 (D.OC i) := by
  show pushN (foldT (tnF D i) (kdsT D i) O []).1 _ _ (foldT (tnF D i) (kdsT D i) O []).2 _ = _
  rw [foldT_congr (kdsT D i) O [] (fun k hk O' => ?_)]
  have := hl i (Nat.le_refl _) k (kdsT_mem.1 hk)
  exact tnF_more i (k.toNat + 1) k.toNat (lo_less hl (by omega)) (by omega) (by omega) O'
/-- What is behind m of the kids. -/
def fT (D : Pn) (i : Nat) (O : Pn) (m : Nat) : Pn × List Int := foldT (tn D) ((kdsT D i).take m) O []
theorem fT_zero (D : Pn) (i : Nat) (O : Pn) : fT D i O 0 = (O, []) := rfl
theorem fT_next {D : Pn} {i : Nat} {O : Pn} {m : Nat} (h : m < (kdsT D i).length) : fT D i O (m + 1) = (tn D ((kdsT D i)[m]?.getD 0).toNat (fT D i O m).1, (fT D i O m).2 ++ [((tn D ((kdsT D i)[m]?.getD 0).toNat (fT D i O m).1).n : Int) - 1]) := by
  unfold fT
  rw [List.take_succ_eq_append_getElem h, foldT_snoc, List.getElem?_eq_getElem h]
  rfl
theorem fT_len {D : Pn} {i : Nat} {O : Pn} {m : Nat} (h : m ≤ (kdsT D i).length) : (fT D i O m).2.length = m := by
  unfold fT
  rw [foldT_len, List.length_take]
  simp
  omega
theorem tn_fT {D : Pn} {i : Nat} (hl : Lo D i) (O : Pn) : tn D i O = pushN (fT D i O (kdsT D i).length).1 (D.K i) (D.NM i) (fT D i O (kdsT D i).length).2 (D.OC i) := by
  rw [tn_eq hl]
  unfold fT
  rw [List.take_length]
/-- How many nodes are put behind what is there. -/
theorem foldT_n {D : Pn} {sz : Nat → Nat} : ∀ (ks : List Int) (O : Pn) (L : List Int), (∀ k ∈ ks, ∀ O, (tn D k.toNat O).n = O.n + sz k.toNat) → (foldT (tn D) ks O L).1.n = O.n + (ks.map fun k => sz k.toNat).sum
  | [], O, L, _ => rfl
  | j :: ks, O, L, hk => by
    rw [foldT, foldT_n ks _ _ (fun k hk' => hk k (List.mem_cons_of_mem _ hk')), hk j (List.mem_cons_self ..), List.map_cons, List.sum_cons]
    omega
theorem fd_n {D : Pn} {sz : Nat → Nat} : ∀ (ks : List Int) (a f : Nat), (∀ j c, j < a → tr D j = some c → sz j = j + 1 - c) → fd (tr D) ks a = some f → (ks.map fun k => sz k.toNat).sum = a - f ∧ f ≤ a
  | [], a, f, _, h => by simp [fd] at h; subst h; simp
  | k :: ks, a, f, hs, h => by
    by_cases hc : 0 < a ∧ k = (a : Int) - 1
    · cases hg : tr D (a - 1) with
      | none => rw [fd_none hc hg] at h; cases h
      | some c =>
        have hca := tr_le hg
        rw [fd_yes hc hg] at h
        obtain ⟨h1, h2⟩ := fd_n ks c f (fun j c' hj => hs j c' (by omega)) h
        have h3 := hs (a - 1) c (by omega) hg
        rw [List.map_cons, List.sum_cons, h1, show k.toNat = a - 1 by omega, h3]
        omega
    · rw [fd_no hc] at h; cases h
theorem sum_rev : ∀ (L : List Nat), L.reverse.sum = L.sum
  | [] => rfl
  | a :: L => by rw [List.reverse_cons, List.sum_append, sum_rev L, List.sum_cons]; simp; omega
def szT (D : Pn) (i : Nat) : Nat := i + 1 - (tr D i).getD 0
theorem tn_n {D : Pn} : ∀ (m i c : Nat), i < m → Lo D i → tr D i = some c → (∀ j, j ≤ i → ∃ b, tr D j = some b) → ∀ O, (tn D i O).n = O.n + (i + 1 - c)
  | 0, i, c, hm, hl, ht, ha, O => by omega
  | m + 1, i, c, hm, hl, ht, ha, O => by
    rw [tn_eq hl]
    show (foldT (tn D) (kdsT D i) O []).1.n + 1 = _
    have hk : ∀ k ∈ kdsT D i, ∀ O, (tn D k.toNat O).n = O.n + szT D k.toNat := fun k hk O' => by
      have h1 := hl i (Nat.le_refl _) k (kdsT_mem.1 hk)
      obtain ⟨b, hb⟩ := ha k.toNat (by omega)
      have := tn_n m k.toNat b (by omega) (lo_less hl (by omega)) hb (fun j hj => ha j (by omega)) O'
      rw [this]
      unfold szT
      rw [hb]
      rfl
    rw [foldT_n _ _ _ hk]
    have hc := ht
    rw [tr_eq] at hc
    have h2 := fd_n (D := D) (sz := szT D) _ i c (fun j c' _ h => by unfold szT; rw [h]; rfl) hc
    have h3 : ((kdsT D i).map fun k => szT D k.toNat).sum = i - c := by
      have e1 : ((D.KL i).map fun k => szT D k.toNat).sum = i - c := by
        rw [← h2.1, List.map_reverse, sum_rev]
      unfold kdsT
      split
      · rw [List.map_reverse, sum_rev]; exact e1
      · exact e1
    rw [h3]
    have := h2.2
    omega
end Go.Proofs.Ytfohfljdgmlibaa
