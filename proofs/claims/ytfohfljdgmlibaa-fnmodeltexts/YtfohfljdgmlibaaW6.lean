/-
  Plain facts on models as rows of nodes, of no program's run: where a node's tree begins, how deep it is, which rows are right models.
-/
import Derived.Test.YtfohfljdgmlibaaW3
namespace Go.Proofs.Ytfohfljdgmlibaa
set_option linter.unusedVariables false
set_option linter.unusedSimpArgs false
/-- Kids, the last one first, each standing right ahead of what has been gone through; g: where a node's tree begins. -/
def fd (g : Nat → Option Nat) : List Int → Nat → Option Nat
  | [], a => some a
  | k :: ks, a => if 0 < a ∧ k = (a : Int) - 1 then (g (a - 1)).bind (fd g ks) else none
theorem fd_yes {g : Nat → Option Nat} {k : Int} {ks : List Int} {a b : Nat} (h : 0 < a ∧ k = (a : Int) - 1) (hg : g (a - 1) = some b) : fd g (k :: ks) a = fd g ks b := by rw [fd, if_pos h, hg]; rfl
theorem fd_none {g : Nat → Option Nat} {k : Int} {ks : List Int} {a : Nat} (h : 0 < a ∧ k = (a : Int) - 1) (hg : g (a - 1) = none) : fd g (k :: ks) a = none := by rw [fd, if_pos h, hg]; rfl
theorem fd_no {g : Nat → Option Nat} {k : Int} {ks : List Int} {a : Nat} (h : ¬ (0 < a ∧ k = (a : Int) - 1)) : fd g (k :: ks) a = none := by rw [fd, if_neg h]
theorem fd_congr {g h : Nat → Option Nat} : ∀ (ks : List Int) (a : Nat), (∀ j, j < a → g j = h j) → (∀ j b, j < a → g j = some b → b ≤ j) → fd g ks a = fd h ks a
  | [], a, _, _ => rfl
  | k :: ks, a, h1, h2 => by
    by_cases hc : 0 < a ∧ k = (a : Int) - 1
    · cases hg : g (a - 1) with
      | none => rw [fd_none hc hg, fd_none hc (by rw [← h1 _ (by omega)]; exact hg)]
      | some b =>
        have hb := h2 _ b (by omega) hg
        rw [fd_yes hc hg, fd_yes hc (by rw [← h1 _ (by omega)]; exact hg)]
        exact fd_congr ks b (fun j hj => h1 j (by omega)) (fun j c hj => h2 j c (by omega))
    · rw [fd_no hc, fd_no hc]
theorem fd_le {g : Nat → Option Nat} : ∀ (ks : List Int) (a b : Nat), (∀ j c, j < a → g j = some c → c ≤ j) → fd g ks a = some b → b ≤ a
  | [], a, b, _, h => by simp [fd] at h; omega
  | k :: ks, a, b, h2, h => by
    by_cases hc : 0 < a ∧ k = (a : Int) - 1
    · cases hg : g (a - 1) with
      | none => rw [fd_none hc hg] at h; cases h
      | some c =>
        have hb := h2 _ c (by omega) hg
        rw [fd_yes hc hg] at h
        have := fd_le ks c b (fun j d hj => h2 j d (by omega)) h
        omega
    · rw [fd_no hc] at h; cases h
def trF (D : Pn) : Nat → Nat → Option Nat
  | 0, _ => none
  | f + 1, i => fd (trF D f) (D.KL i).reverse i
theorem trF_le (D : Pn) : ∀ (f i b : Nat), trF D f i = some b → b ≤ i
  | 0, i, b, h => by cases h
  | f + 1, i, b, h => fd_le _ i b (fun j c _ hc => trF_le D f j c hc) h
theorem trF_more (D : Pn) : ∀ (f g i : Nat), i < f → i < g → trF D f i = trF D g i
  | 0, g, i, hf, hg => by omega
  | f + 1, 0, i, hf, hg => by omega
  | f + 1, g + 1, i, hf, hg => fd_congr _ i (fun j hj => trF_more D f g j (by omega) (by omega)) (fun j b _ h => trF_le D f j b h)
/-- Where the tree of a node begins, all its nodes standing one behind the other, each behind its kids; none: it is no tree. -/
def tr (D : Pn) (i : Nat) : Option Nat := trF D (i + 1) i
theorem tr_le {D : Pn} {i b : Nat} (h : tr D i = some b) : b ≤ i := trF_le D _ i b h
theorem tr_eq (D : Pn) (i : Nat) : tr D i = fd (tr D) (D.KL i).reverse i :=
  fd_congr _ i (fun j hj => trF_more D i (j + 1) j (by omega) (by omega)) (fun j b _ h => trF_le D i j b h)
/-- All nodes of a tree are trees, beginning within it; its kids stand ahead of it. -/
theorem fd_cover {D : Pn} : ∀ (ks : List Int) (a f : Nat), (∀ j b, j < a → tr D j = some b → ∀ i, b ≤ i → i ≤ j → ∃ c, tr D i = some c ∧ b ≤ c) → fd (tr D) ks a = some f → (∀ i, f ≤ i → i < a → ∃ c, tr D i = some c ∧ f ≤ c) ∧ (∀ k, k ∈ ks → 0 ≤ k ∧ k < (a : Int)) ∧ f ≤ a
  | [], a, f, _, h => by
    simp [fd] at h
    subst h
    exact ⟨fun i h1 h2 => by omega, fun k hk => absurd hk (List.not_mem_nil), Nat.le_refl _⟩
  | k :: ks, a, f, ih, h => by
    by_cases hc : 0 < a ∧ k = (a : Int) - 1
    · cases hg : tr D (a - 1) with
      | none => rw [fd_none hc hg] at h; cases h
      | some c =>
        have hca := tr_le hg
        rw [fd_yes hc hg] at h
        obtain ⟨h1, h2, h3⟩ := fd_cover ks c f (fun j b hj => ih j b (by omega)) h
        refine ⟨fun i hi1 hi2 => ?_, fun k' hk' => ?_, by omega⟩
        · by_cases e : i < c
          · exact h1 i hi1 e
          · obtain ⟨d, hd1, hd2⟩ := ih (a - 1) c (by omega) hg i (by omega) (by omega)
            exact ⟨d, hd1, by omega⟩
        · rcases List.mem_cons.1 hk' with rfl | hk'
          · omega
          · have := h2 k' hk'; omega
    · rw [fd_no hc] at h; cases h
theorem tr_cover {D : Pn} : ∀ (m r f : Nat), r < m → tr D r = some f → (∀ i, f ≤ i → i ≤ r → ∃ c, tr D i = some c ∧ f ≤ c) ∧ ∀ k, k ∈ D.KL r → 0 ≤ k ∧ k < (r : Int)
  | 0, r, f, hm, h => by omega
  | m + 1, r, f, hm, h => by
    have h0 := h
    rw [tr_eq] at h
    obtain ⟨h1, h2, h3⟩ := fd_cover _ r f (fun j b hj hb => (tr_cover m j b (by omega) hb).1) h
    refine ⟨fun i hi1 hi2 => ?_, fun k hk => h2 k (List.mem_reverse.2 hk)⟩
    by_cases e : i = r
    · subst e; exact ⟨f, h0, Nat.le_refl _⟩
    · exact h1 i hi1 (by omega)
/-- How deep a tree is. -/
def mx (g : Nat → Nat) (ks : List Int) : Nat := ks.foldl (fun d k => max d (g k.toNat)) 0
def dqF (D : Pn) : Nat → Nat → Nat
  | 0, _ => 0
  | f + 1, i => mx (dqF D f) (D.KL i) + 1
theorem mx_congr {g h : Nat → Nat} {ks : List Int} (hk : ∀ k, k ∈ ks → g k.toNat = h k.toNat) : mx g ks = mx h ks := by
  unfold mx
  suffices H : ∀ (d : Nat), ks.foldl (fun d k => max d (g k.toNat)) d = ks.foldl (fun d k => max d (h k.toNat)) d from H 0
  induction ks with
  | nil => intro d; rfl
  | cons k ks ih => intro d; rw [List.foldl_cons, List.foldl_cons, hk k (List.mem_cons_self ..), ih (fun k' hk' => hk k' (List.mem_cons_of_mem _ hk'))]
theorem mx_snoc (g : Nat → Nat) (ks : List Int) (k : Int) : mx g (ks ++ [k]) = max (mx g ks) (g k.toNat) := by unfold mx; rw [List.foldl_append]; rfl
theorem mx_le {g : Nat → Nat} {B : Nat} : ∀ (ks : List Int) (d : Nat), d ≤ B → (∀ k, k ∈ ks → g k.toNat ≤ B) → ks.foldl (fun d k => max d (g k.toNat)) d ≤ B
  | [], d, h, _ => h
  | k :: ks, d, h, hk => mx_le ks _ (by have := hk k (List.mem_cons_self ..); show max d (g k.toNat) ≤ B; omega) (fun k' hk' => hk k' (List.mem_cons_of_mem _ hk'))
theorem mx_ge {g : Nat → Nat} : ∀ (ks : List Int) (d : Nat), d ≤ ks.foldl (fun d k => max d (g k.toNat)) d
  | [], d => Nat.le_refl _
  | k :: ks, d => Nat.le_trans (by omega) (mx_ge ks (max d (g k.toNat)))
theorem mx_init {g : Nat → Nat} : ∀ (ks : List Int) (d : Nat), ks.foldl (fun d k => max d (g k.toNat)) d = max d (mx g ks)
  | [], d => by simp [mx]
  | k :: ks, d => by
    have h1 := mx_init (g := g) ks (max d (g k.toNat))
    have h2 := mx_init (g := g) ks (max 0 (g k.toNat))
    unfold mx
    rw [List.foldl_cons, List.foldl_cons, h1, h2]
    omega
theorem mx_rev (g : Nat → Nat) : ∀ ks : List Int, mx g ks.reverse = mx g ks
  | [] => rfl
  | k :: ks => by
    rw [List.reverse_cons, mx_snoc, mx_rev g ks]
    show _ = (k :: ks).foldl _ 0
    rw [List.foldl_cons, mx_init]
    omega
/-- The nodes up to i have kids ahead of them. -/
def Lo (D : Pn) (i : Nat) : Prop := ∀ j, j ≤ i → ∀ k, k ∈ D.KL j → 0 ≤ k ∧ k < (j : Int)
theorem lo_less {D : Pn} {i j : Nat} (h : Lo D i) (hj : j ≤ i) : Lo D j := fun k hk => h k (by omega)
theorem dqF_more {D : Pn} : ∀ (f g i : Nat), Lo D i → i < f → i < g → dqF D f i = dqF D g i
  | 0, g, i, hl, hf, hg => by omega
  | f + 1, 0, i, hl, hf, hg => by omega
  | f + 1, g + 1, i, hl, hf, hg => by
    rw [dqF, dqF, mx_congr (fun k hk => ?_)]
    have := hl i (Nat.le_refl _) k hk
    exact dqF_more f g k.toNat (lo_less hl (by omega)) (by omega) (by omega)
def dq (D : Pn) (i : Nat) : Nat := dqF D (i + 1) i
theorem dq_eq {D : Pn} {i : Nat} (hl : Lo D i) : dq D i = mx (dq D) (D.KL i) + 1 := by
  show mx (dqF D i) (D.KL i) + 1 = _
  rw [mx_congr (fun k hk => ?_)]
  have := hl i (Nat.le_refl _) k hk
  exact dqF_more i (k.toNat + 1) k.toNat (lo_less hl (by omega)) (by omega) (by omega)
theorem dqF_le (D : Pn) : ∀ (f i : Nat), dqF D f i ≤ f
  | 0, i => Nat.le_refl _
  | f + 1, i => by
    rw [dqF]
    have := mx_le (g := dqF D f) (B := f) (D.KL i) 0 (Nat.zero_le _) (fun k _ => dqF_le D f k.toNat)
    unfold mx
    omega
theorem dq_le (D : Pn) (i : Nat) : dq D i ≤ i + 1 := dqF_le D _ i
/-- A node is right by itself. -/
def ndB (k : Int) (nm : ByteArray) (n : Nat) (oc : Int) : Bool :=
  decide (0 ≤ oc ∧ oc ≤ 3) && (if k = 1 then nameB nm && decide (n = 0) else if k = 4 then nm.toList.isEmpty && decide (n = 0) else if k = 2 then nm.toList.isEmpty else if k = 3 then nm.toList.isEmpty && decide (2 ≤ n) else false)
def nodeB (D : Pn) (i : Nat) : Bool := ndB (D.K i) (D.NM i) (D.KL i).length (D.OC i)
def groupB (D : Pn) (i : Nat) : Bool := decide (D.K i = 2 ∨ D.K i = 3)
def pkB (D : Pn) : Bool := decide (1 ≤ D.n ∧ D.n ≤ 40) && ((List.range D.n).all (nodeB D) && (decide (tr D (D.n - 1) = some 0) && (groupB D (D.n - 1) && decide (dq D (D.n - 1) ≤ 10))))
theorem pk_size {D : Pn} (h : ¬ (1 ≤ D.n ∧ D.n ≤ 40)) : pkB D = false := by unfold pkB; rw [decide_eq_false h]; rfl
theorem pk_node {D : Pn} {k : Nat} (hk : k < D.n) (h : nodeB D k = false) : pkB D = false := by
  have : (List.range D.n).all (nodeB D) = false := by
    rw [List.all_eq_false]
    exact ⟨k, by simpa using hk, by simp [h]⟩
  unfold pkB
  rw [this]
  simp
theorem pk_all {D : Pn} (h0 : 1 ≤ D.n ∧ D.n ≤ 40) (h : ∀ j, j < D.n → nodeB D j = true) : pkB D = (decide (tr D (D.n - 1) = some 0) && (groupB D (D.n - 1) && decide (dq D (D.n - 1) ≤ 10))) := by
  have : (List.range D.n).all (nodeB D) = true := by
    rw [List.all_eq_true]
    intro j hj
    exact h j (by simpa using hj)
  unfold pkB
  rw [this, decide_eq_true h0]
  simp
theorem pk_tree {D : Pn} {k : Nat} (hk : k < D.n) (h : tr D k = none) : pkB D = false := by
  have : decide (tr D (D.n - 1) = some 0) = false := decide_eq_false (fun e => by
    obtain ⟨c, hc, -⟩ := (tr_cover D.n (D.n - 1) 0 (by omega) e).1 k (by omega) (by omega)
    rw [hc] at h; cases h)
  unfold pkB
  rw [this]
  simp
/-- A kid that does not stand ahead of its node makes no tree. -/
theorem pk_kid {D : Pn} {i : Nat} {k : Int} (hi : i < D.n) (hk : k ∈ D.KL i) (h : ¬ (0 ≤ k ∧ k < (i : Int))) : pkB D = false := by
  cases ht : tr D i with
  | none => exact pk_tree hi ht
  | some f => exact absurd ((tr_cover (i + 1) i f (by omega) ht).2 k hk) h
theorem pk_facts {D : Pn} (h : pkB D = true) : (1 ≤ D.n ∧ D.n ≤ 40) ∧ (∀ j, j < D.n → nodeB D j = true) ∧ tr D (D.n - 1) = some 0 ∧ groupB D (D.n - 1) = true ∧ dq D (D.n - 1) ≤ 10 := by
  unfold pkB at h
  simp only [Bool.and_eq_true, decide_eq_true_eq, List.all_eq_true, List.mem_range] at h
  exact ⟨h.1, h.2.1, h.2.2.1, h.2.2.2.1, h.2.2.2.2⟩
theorem pk_lo {D : Pn} (h : pkB D = true) : ∀ j, j < D.n → (∃ f, tr D j = some f) ∧ ∀ k, k ∈ D.KL j → 0 ≤ k ∧ k < (j : Int) := by
  obtain ⟨h1, -, h3, -⟩ := pk_facts h
  intro j hj
  obtain ⟨f, hf, -⟩ := (tr_cover D.n (D.n - 1) 0 (by omega) h3).1 j (by omega) (by omega)
  exact ⟨⟨f, hf⟩, (tr_cover (j + 1) j f (by omega) hf).2⟩
end Go.Proofs.Ytfohfljdgmlibaa
