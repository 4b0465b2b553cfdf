/-
  Texts put together: PkMath, Names, PkS.
-/
import Derived.Test.YteeglkkgkjmjpaaDoorT3
import Derived.Test.YteeglkkgkjmjpaaDoorT1
import Derived.Test.YteeglkkgkjmjpaaDoorChecked
import Derived.WalkKit
import Derived.Below
/-
  Plain facts on models as rows of nodes, of no program's run: where a node's tree begins, how deep it is, which rows are right models.
-/
namespace Go.Proofs.YteeglkkgkjmjpaaDoor
set_option linter.unusedVariables false
set_option linter.unusedSimpArgs false
/-- Kids, the last one first, each standing right ahead of what has been gone through; g: where a node's tree begins. -/
def fd (g : Nat → Option Nat) : List Int → Nat → Option Nat
  | [], a => some a
  | k :: ks, a => if 0 < a ∧ k = (a : Int) - 1 then (g (a - 1)).bind (fd g ks) else none
theorem fd_yes {g : Nat → Option Nat} {k : Int} {ks : List Int} {a b : Nat} (h : 0 < a ∧ k = (a : Int) - 1) (hg : g (a - 1) = some b) : fd g (k :: ks) a = fd g ks b := by rw [fd, if_pos h, hg]; rfl
theorem fd_none {g : Nat → Option Nat} {k : Int} {ks : List Int} {a : Nat} (h : 0 < a ∧ k = (a : Int) - 1) (hg : g (a - 1) = none) : fd g (k :: ks) a = none := by rw [fd, if_pos h, hg]; rfl
theorem fd_no {g : Nat → Option Nat} {k : Int} {ks : List Int} {a : Nat} (h : ¬ (0 < a ∧ k = (a : Int) - 1)) : fd g (k :: ks) a = none := by rw [fd, if_neg h]
theorem fd_congr {g h : Nat → Option Nat} : ∀ (ks : List Int) (a : Nat), (∀ j, j < a → g j = h j) → (∀ j b, j < a → g j = some b → b ≤ j) → fd g ks a = fd h ks a
  | [], a, _, _ => rfl
  | k :: ks, a, h1, h2 => by
    by_cases hc : 0 < a ∧ k = (a : Int) - 1
    · cases hg : g (a - 1) with
      | none => rw [fd_none hc hg, fd_none hc (by rw [← h1 _ (by omega)]; exact hg)]
      | some b =>
        have hb := h2 _ b (by omega) hg
        rw [fd_yes hc hg, fd_yes hc (by rw [← h1 _ (by omega)]; exact hg)]
        exact fd_congr ks b (fun j hj => h1 j (by omega)) (fun j c hj => h2 j c (by omega))
    · rw [fd_no hc, fd_no hc]
theorem fd_le {g : Nat → Option Nat} : ∀ (ks : List Int) (a b : Nat), (∀ j c, j < a → g j = some c → c ≤ j) → fd g ks a = some b → b ≤ a
  | [], a, b, _, h => by simp [fd] at h; omega
  | k :: ks, a, b, h2, h => by
    by_cases hc : 0 < a ∧ k = (a : Int) - 1
    · cases hg : g (a - 1) with
      | none => rw [fd_none hc hg] at h; cases h
      | some c =>
        have hb := h2 _ c (by omega) hg
        rw [fd_yes hc hg] at h
        have := fd_le ks c b (fun j d hj => h2 j d (by omega)) h
        omega
    · rw [fd_no hc] at h; cases h
def trF (D : Pn) : Nat → Nat → Option Nat
  | 0, _ => none
  | f + 1, i => fd (trF D f) (D.KL i).reverse i
theorem trF_le (D : Pn) : ∀ (f i b : Nat), trF D f i = some b → b ≤ i
  | 0, i, b, h => by cases h
  | f + 1, i, b, h => fd_le _ i b (fun j c _ hc => trF_le D f j c hc) h
theorem trF_more (D : Pn) : ∀ (f g i : Nat), i < f → i < g → trF D f i = trF D g i
  | 0, g, i, hf, hg => by omega
  | f + 1, 0, i, hf, hg => by omega
  | f + 1, g + 1, i, hf, hg => fd_congr _ i (fun j hj => trF_more D f g j (by omega) (by omega)) (fun j b _ h => trF_le D f j b h)
/-- Where the tree of a node begins, all its nodes standing one behind the other, each behind its kids; none: it is no tree. -/
def tr (D : Pn) (i : Nat) : Option Nat := trF D (i + 1) i
theorem tr_le {D : Pn} {i b : Nat} (h : tr D i = some b) : b ≤ i := trF_le D _ i b h
theorem tr_eq (D : Pn) (i : Nat) : tr D i = fd (tr D) (D.KL i).reverse i :=
  fd_congr _ i (fun j hj => trF_more D i (j + 1) j (by omega) (by omega)) (fun j b _ h => trF_le D i j b h)
/-- All nodes of a tree are trees, beginning within it; its kids stand ahead of it. -/
theorem fd_cover {D : Pn} : ∀ (ks : List Int) (a f : Nat), (∀ j b, j < a → tr D j = some b → ∀ i, b ≤ i → i ≤ j → ∃ c, tr D i = some c ∧ b ≤ c) → fd (tr D) ks a = some f → (∀ i, f ≤ i → i < a → ∃ c, tr D i = some c ∧ f ≤ c) ∧ (∀ k, k ∈ ks → 0 ≤ k ∧ k < (a : Int)) ∧ f ≤ a
  | [], a, f, _, h => by
    simp [fd] at h
    subst h
    exact ⟨fun i h1 h2 => by omega, fun k hk => absurd hk (List.not_mem_nil), Nat.le_refl _⟩
  | k :: ks, a, f, ih, h => by
    by_cases hc : 0 < a ∧ k = (a : Int) - 1
    · cases hg : tr D (a - 1) with
      | none => rw [fd_none hc hg] at h; cases h
      | some c =>
        have hca := tr_le hg
        rw [fd_yes hc hg] at h
        obtain ⟨h1, h2, h3⟩ := fd_cover ks c f (fun j b hj => ih j b (by omega)) h
        refine ⟨fun i hi1 hi2 => ?_, fun k' hk' => ?_, by omega⟩
        · by_cases e : i < c
          · exact h1 i hi1 e
          · obtain ⟨d, hd1, hd2⟩ := ih (a - 1) c (by omega) hg i (by omega) (by omega)
            exact ⟨d, hd1, by omega⟩
        · rcases List.mem_cons.1 hk' with rfl | hk'
          · omega
          · have := h2 k' hk'; omega
    · rw [fd_no hc] at h; cases h
theorem tr_cover {D : Pn} : ∀ (m r f : Nat), r < m → tr D r = some f → (∀ i, f ≤ i → i ≤ r → ∃ c, tr D i = some c ∧ f ≤ c) ∧ ∀ k, k ∈ D.KL r → 0 ≤ k ∧ k < (r : Int)
  | 0, r, f, hm, h => by omega
  | m + 1, r, f, hm, h => by
    have h0 := h
    rw [tr_eq] at h
    obtain ⟨h1, h2, h3⟩ := fd_cover _ r f (fun j b hj hb => (tr_cover m j b (by omega) hb).1) h
    refine ⟨fun i hi1 hi2 => ?_, fun k hk => h2 k (List.mem_reverse.2 hk)⟩
    by_cases e : i = r
    · subst e; exact ⟨f, h0, Nat.le_refl _⟩
    · exact h1 i hi1 (by omega)
/-- How deep a tree is. -/
def mx (g : Nat → Nat) (ks : List Int) : Nat := ks.foldl (fun d k => max d (g k.toNat)) 0
def dqF (D : Pn) : Nat → Nat → Nat
  | 0, _ => 0
  | f + 1, i => mx (dqF D f) (D.KL i) + 1
theorem mx_congr {g h : Nat → Nat} {ks : List Int} (hk : ∀ k, k ∈ ks → g k.toNat = h k.toNat) : mx g ks = mx h ks := by
  unfold mx
  suffices H : ∀ (d : Nat), ks.foldl (fun d k => max d (g k.toNat)) d = ks.foldl (fun d k => max d (h k.toNat)) d from H 0
  induction ks with
  | nil => intro d; rfl
  | cons k ks ih => intro d; rw [List.foldl_cons, List.foldl_cons, hk k (List.mem_cons_self ..), ih (fun k' hk' => hk k' (List.mem_cons_of_mem _ hk'))]
theorem mx_snoc (g : Nat → Nat) (ks : List Int) (k : Int) : mx g (ks ++ [k]) = max (mx g ks) (g k.toNat) := by unfold mx; rw [List.foldl_append]; rfl
theorem mx_le {g : Nat → Nat} {B : Nat} : ∀ (ks : List Int) (d : Nat), d ≤ B → (∀ k, k ∈ ks → g k.toNat ≤ B) → ks.foldl (fun d k => max d (g k.toNat)) d ≤ B
  | [], d, h, _ => h
  | k :: ks, d, h, hk => mx_le ks _ (by have := hk k (List.mem_cons_self ..); show max d (g k.toNat) ≤ B; omega) (fun k' hk' => hk k' (List.mem_cons_of_mem _ hk'))
theorem mx_ge {g : Nat → Nat} : ∀ (ks : List Int) (d : Nat), d ≤ ks.foldl (fun d k => max d (g k.toNat)) d
  | [], d => Nat.le_refl _
  | k :: ks, d => Nat.le_trans (by omega) (mx_ge ks (max d (g k.toNat)))
theorem mx_init {g : Nat → Nat} : ∀ (ks : List Int) (d : Nat), ks.foldl (fun d k => max d (g k.toNat)) d = max d (mx g ks)
  | [], d => by simp [mx]
  | k :: ks, d => by
    have h1 := mx_init (g := g) ks (max d (g k.toNat))
    have h2 := mx_init (g := g) ks (max 0 (g k.toNat))
    unfold mx
    rw [List.foldl_cons, List.foldl_cons, h1, h2]
    omega
theorem mx_rev (g : Nat → Nat) : ∀ ks : List Int, mx g ks.reverse = mx g ks
  | [] => rfl
  | k :: ks => by
    rw [List.reverse_cons, mx_snoc, mx_rev g ks]
    show _ = (k :: ks).foldl _ 0
    rw [List.foldl_cons, mx_init]
    omega
/-- The nodes up to i have kids ahead of them. -/
def Lo (D : Pn) (i : Nat) : Prop := ∀ j, j ≤ i → ∀ k, k ∈ D.KL j → 0 ≤ k ∧ k < (j : Int)
theorem lo_less {D : Pn} {i j : Nat} (h : Lo D i) (hj : j ≤ i) : Lo D j := fun k hk => h k (by omega)
theorem dqF_more {D : Pn} : ∀ (f g i : Nat), Lo D i → i < f → i < g → dqF D f i = dqF D g i
  | 0, g, i, hl, hf, hg => by omega
  | f + 1, 0, i, hl, hf, hg => by omega
  | f + 1, g + 1, i, hl, hf, hg => by
    rw [dqF, dqF, mx_congr (fun k hk => ?_)]
    have := hl i (Nat.le_refl _) k hk
    exact dqF_more f g k.toNat (lo_less hl (by omega)) (by omega) (by omega)
def dq (D : Pn) (i : Nat) : Nat := dqF D (i + 1) i
theorem dq_eq {D : Pn} {i : Nat} (hl : Lo D i) : dq D i = mx (dq D) (D.KL i) + 1 := by
  show mx (dqF D i) (D.KL i) + 1 = _
  rw [mx_congr (fun k hk => ?_)]
  have := hl i (Nat.le_refl _) k hk
  exact dqF_more i (k.toNat + 1) k.toNat (lo_less hl (by omega)) (by omega) (by omega)
theorem dqF_le (D : Pn) : ∀ (f i : Nat), dqF D f i ≤ f
  | 0, i => Nat.le_refl _
  | f + 1, i => by
    rw [dqF]
    have := mx_le (g := dqF D f) (B := f) (D.KL i) 0 (Nat.zero_le _) (fun k _ => dqF_le D f k.toNat)
    unfold mx
    omega
theorem dq_le (D : Pn) (i : Nat) : dq D i ≤ i + 1 := dqF_le D _ i
/-- A node is right by itself. -/
def ndB (k : Int) (nm : ByteArray) (n : Nat) (oc : Int) : Bool :=
  decide (0 ≤ oc ∧ oc ≤ 3) && (if k = 1 then nameB nm && decide (n = 0) else if k = 4 then nm.toList.isEmpty && decide (n = 0) else if k = 2 then nm.toList.isEmpty else if k = 3 then nm.toList.isEmpty && decide (2 ≤ n) else false)
def nodeB (D : Pn) (i : Nat) : Bool := ndB (D.K i) (D.NM i) (D.KL i).length (D.OC i)
def groupB (D : Pn) (i : Nat) : Bool := decide (D.K i = 2 ∨ D.K i = 3)
def pkB (D : Pn) : Bool := decide (1 ≤ D.n ∧ D.n ≤ 40) && ((List.range D.n).all (nodeB D) && (decide (tr D (D.n - 1) = some 0) && (groupB D (D.n - 1) && decide (dq D (D.n - 1) ≤ 10))))
theorem pk_size {D : Pn} (h : ¬ (1 ≤ D.n ∧ D.n ≤ 40)) : pkB D = false := by unfold pkB; rw [decide_eq_false h]; rfl
theorem pk_node {D : Pn} {k : Nat} (hk : k < D.n) (h : nodeB D k = false) : pkB D = false := by
  have : (List.range D.n).all (nodeB D) = false := by
    rw [List.all_eq_false]
    exact ⟨k, by simpa using hk, by simp [h]⟩
  unfold pkB
  rw [this]
  simp
theorem pk_all {D : Pn} (h0 : 1 ≤ D.n ∧ D.n ≤ 40) (h : ∀ j, j < D.n → nodeB D j = true) : pkB D = (decide (tr D (D.n - 1) = some 0) && (groupB D (D.n - 1) && decide (dq D (D.n - 1) ≤ 10))) := by
  have : (List.range D.n).all (nodeB D) = true := by
    rw [List.all_eq_true]
    intro j hj
    exact h j (by simpa using hj)
  unfold pkB
  rw [this, decide_eq_true h0]
  simp
theorem pk_tree {D : Pn} {k : Nat} (hk : k < D.n) (h : tr D k = none) : pkB D = false := by
  have : decide (tr D (D.n - 1) = some 0) = false := decide_eq_false (fun e => by
    obtain ⟨c, hc, -⟩ := (tr_cover D.n (D.n - 1) 0 (by omega) e).1 k (by omega) (by omega)
    rw [hc] at h; cases h)
  unfold pkB
  rw [this]
  simp
/-- A kid that does not stand ahead of its node makes no tree. -/
theorem pk_kid {D : Pn} {i : Nat} {k : Int} (hi : i < D.n) (hk : k ∈ D.KL i) (h : ¬ (0 ≤ k ∧ k < (i : Int))) : pkB D = false := by
  cases ht : tr D i with
  | none => exact pk_tree hi ht
  | some f => exact absurd ((tr_cover (i + 1) i f (by omega) ht).2 k hk) h
theorem pk_facts {D : Pn} (h : pkB D = true) : (1 ≤ D.n ∧ D.n ≤ 40) ∧ (∀ j, j < D.n → nodeB D j = true) ∧ tr D (D.n - 1) = some 0 ∧ groupB D (D.n - 1) = true ∧ dq D (D.n - 1) ≤ 10 := by
  unfold pkB at h
  simp only [Bool.and_eq_true, decide_eq_true_eq, List.all_eq_true, List.mem_range] at h
  exact ⟨h.1, h.2.1, h.2.2.1, h.2.2.2.1, h.2.2.2.2⟩
theorem pk_lo {D : Pn} (h : pkB D = true) : ∀ j, j < D.n → (∃ f, tr D j = some f) ∧ ∀ k, k ∈ D.KL j → 0 ≤ k ∧ k < (j : Int) := by
  obtain ⟨h1, -, h3, -⟩ := pk_facts h
  intro j hj
  obtain ⟨f, hf, -⟩ := (tr_cover D.n (D.n - 1) 0 (by omega) h3).1 j (by omega) (by omega)
  exact ⟨⟨f, hf⟩, (tr_cover (j + 1) j f (by omega) hf).2⟩
end Go.Proofs.YteeglkkgkjmjpaaDoor

/-
  Contracts: what the specification's and the program's NameOk and their helpers answer at every byte and every string of at most maxLen bytes; the world is as it was.
-/
namespace Go.Proofs.YteeglkkgkjmjpaaDoor
open Go.RowKit
set_option linter.unusedSimpArgs false
theorem cases_digit (c : Int) : c ≤ 47 ∨ (48 ≤ c ∧ c ≤ 57) ∨ 58 ≤ c := by omega
set_option linter.unusedVariables false

theorem cases_byte (c : Int) : c ≤ 44 ∨ c = 45 ∨ c = 46 ∨ c = 47 ∨ (48 ≤ c ∧ c ≤ 57) ∨ (58 ≤ c ∧ c ≤ 64) ∨ (65 ≤ c ∧ c ≤ 90) ∨ (91 ≤ c ∧ c ≤ 94) ∨ c = 95 ∨ c = 96 ∨ (97 ≤ c ∧ c ≤ 122) ∨ 123 ≤ c := by omega
theorem cases_first (c : Int) : c ≤ 64 ∨ (65 ≤ c ∧ c ≤ 90) ∨ (91 ≤ c ∧ c ≤ 94) ∨ c = 95 ∨ c = 96 ∨ (97 ≤ c ∧ c ≤ 122) ∨ 123 ≤ c := by omega

set_option maxHeartbeats 2000000 in
theorem s_first (c : Int) (w : World) : Calls Tryd.prog 72 #[.int .u8 c] w fun e w' => e = .returned (.bool (firstB c)) ∧ w' = w := by
  rcases cases_first c with h | ⟨h, h'⟩ | ⟨h, h'⟩ | h | h | ⟨h, h'⟩ | h
  all_goals
    try subst h
    go_enter Tryd.func72, Tryd.ntmps72
    go_wp2
    go_ret
    exact ⟨ret_bool (by first | decide | (rw [Bool.eq_iff_iff]; simp only [firstB, Bool.or_eq_true, Bool.and_eq_true, decide_eq_true_eq, beq_iff_eq, true_iff, false_iff, iff_true, iff_false, Bool.false_eq_true]; omega)), rfl⟩
set_option maxHeartbeats 2000000 in
theorem i_first (c : Int) (w : World) : Calls Tryd.prog 82 #[.int .u8 c] w fun e w' => e = .returned (.bool (firstB c)) ∧ w' = w := by
  rcases cases_first c with h | ⟨h, h'⟩ | ⟨h, h'⟩ | h | h | ⟨h, h'⟩ | h
  all_goals
    try subst h
    go_enter Tryd.func82, Tryd.ntmps82
    go_wp2
    go_ret
    exact ⟨ret_bool (by first | decide | (rw [Bool.eq_iff_iff]; simp only [firstB, Bool.or_eq_true, Bool.and_eq_true, decide_eq_true_eq, beq_iff_eq, true_iff, false_iff, iff_true, iff_false, Bool.false_eq_true]; omega)), rfl⟩
set_option maxHeartbeats 2000000 in
theorem s_digit (c : Int) (w : World) : Calls Tryd.prog 78 #[.int .u8 c] w fun e w' => e = .returned (.bool (digitB c)) ∧ w' = w := by
  rcases cases_digit c with h | ⟨h, h'⟩ | h
  all_goals
    try subst h
    go_enter Tryd.func78, Tryd.ntmps78
    go_wp2
    go_ret
    exact ⟨ret_bool (by first | decide | (rw [Bool.eq_iff_iff]; simp only [digitB, Bool.or_eq_true, Bool.and_eq_true, decide_eq_true_eq, beq_iff_eq, true_iff, false_iff, iff_true, iff_false, Bool.false_eq_true]; omega)), rfl⟩
set_option maxHeartbeats 2000000 in
theorem s_more (c : Int) (w : World) : Calls Tryd.prog 73 #[.int .u8 c] w fun e w' => e = .returned (.bool (moreB c)) ∧ w' = w := by
  rcases cases_byte c with h | h | h | h | ⟨h, h'⟩ | ⟨h, h'⟩ | ⟨h, h'⟩ | ⟨h, h'⟩ | h | h | ⟨h, h'⟩ | h
  all_goals
    try subst h
    go_enter Tryd.func73, Tryd.ntmps73
    go_wp2
    go_ret
    exact ⟨ret_bool (by first | decide | (rw [Bool.eq_iff_iff]; simp only [moreB, Bool.or_eq_true, Bool.and_eq_true, decide_eq_true_eq, beq_iff_eq, true_iff, false_iff, iff_true, iff_false, Bool.false_eq_true]; omega)), rfl⟩
set_option maxHeartbeats 2000000 in
theorem i_more (c : Int) (w : World) : Calls Tryd.prog 83 #[.int .u8 c] w fun e w' => e = .returned (.bool (moreB c)) ∧ w' = w := by
  rcases cases_byte c with h | h | h | h | ⟨h, h'⟩ | ⟨h, h'⟩ | ⟨h, h'⟩ | ⟨h, h'⟩ | h | h | ⟨h, h'⟩ | h
  all_goals
    try subst h
    go_enter Tryd.func83, Tryd.ntmps83
    go_wp2
    go_ret
    exact ⟨ret_bool (by first | decide | (rw [Bool.eq_iff_iff]; simp only [moreB, Bool.or_eq_true, Bool.and_eq_true, decide_eq_true_eq, beq_iff_eq, true_iff, false_iff, iff_true, iff_false, Bool.false_eq_true]; omega)), rfl⟩
set_option maxHeartbeats 1000000 in
theorem s_name (s : ByteArray) (w : World) (hs : s.size ≤ maxLen) : Calls Tryd.prog 57 #[.string s] w fun e w' => e = .returned (.bool (nameB s)) ∧ w' = w := by
  unfold maxLen at hs
  by_cases h0 : s.size = 0
  · go_enter Tryd.func57, Tryd.ntmps57
    go_wp2
    go_ret
    exact ⟨ret_bool (nameB_none s h0).symm, rfl⟩
  · by_cases h40 : 40 < s.size
    · go_enter Tryd.func57, Tryd.ntmps57
      go_wp2
      go_ret
      exact ⟨ret_bool (nameB_long s h40).symm, rfl⟩
    · have hp : 0 < s.size := by omega
      cases hf : firstB (s[0].toNat : Int)
      · go_enter Tryd.func57, Tryd.ntmps57
        go_wp2_with (go_at_call 72; refine (s_first _ _).mono ?_; rintro e w' ⟨rfl, rfl⟩)
        go_ret
        exact ⟨ret_bool (nameB_first s hp hf).symm, rfl⟩
      · go_enter Tryd.func57, Tryd.ntmps57
        go_wp2_with (go_at_call 72; refine (s_first _ _).mono ?_; rintro e w' ⟨rfl, rfl⟩)
        go_loop [3] (fun i => ∃ k : Nat, 1 ≤ k ∧ k ≤ s.size ∧ i = .int .i64 k ∧ ∀ j (h : j < s.size), 1 ≤ j → j < k → moreB (s[j].toNat : Int) = true) (fun i => s.size - (intOf i).toNat)
        case atStart => exact ⟨1, by omega, by omega, rfl, fun j h a b => by omega⟩
        case round =>
          obtain ⟨k, h1, hk, rfl, hm⟩ := hrel
          have HM : Hid (∀ j (h : j < s.size), 1 ≤ j → j < k → moreB (s[j].toNat : Int) = true) := hm
          clear hm
          by_cases hlt : k < s.size
          · cases hb : moreB (s[k].toNat : Int)
            · go_wp2_with (go_at_call 73; refine (s_more _ _).mono ?_; rintro e w' ⟨rfl, rfl⟩)
              go_ret
              exact ⟨ret_bool (nameB_more s k h1 hlt hb).symm, rfl⟩
            · go_wp2_with (go_at_call 73; refine (s_more _ _).mono ?_; rintro e w' ⟨rfl, rfl⟩)
              go_round
              case rel =>
                refine ⟨k + 1, by omega, by omega, by go_num, fun j h a b => ?_⟩
                by_cases e : j = k
                · subst e; exact hb
                · exact HM.out j h a (by omega)
              case measure => simp [intOf]; omega
          · go_wp2
            go_ret
            exact ⟨ret_bool (nameB_yes s hp (by omega) hf (fun j h a => HM.out j h a (by omega))).symm, rfl⟩
set_option maxHeartbeats 1000000 in
theorem i_name (s : ByteArray) (w : World) (hs : s.size ≤ maxLen) : Calls Tryd.prog 80 #[.string s] w fun e w' => e = .returned (.bool (nameB s)) ∧ w' = w := by
  unfold maxLen at hs
  by_cases h0 : s.size = 0
  · go_enter Tryd.func80, Tryd.ntmps80
    go_wp2
    go_ret
    exact ⟨ret_bool (nameB_none s h0).symm, rfl⟩
  · by_cases h40 : 40 < s.size
    · go_enter Tryd.func80, Tryd.ntmps80
      go_wp2
      go_ret
      exact ⟨ret_bool (nameB_long s h40).symm, rfl⟩
    · have hp : 0 < s.size := by omega
      cases hf : firstB (s[0].toNat : Int)
      · go_enter Tryd.func80, Tryd.ntmps80
        go_wp2_with (go_at_call 82; refine (i_first _ _).mono ?_; rintro e w' ⟨rfl, rfl⟩)
        go_ret
        exact ⟨ret_bool (nameB_first s hp hf).symm, rfl⟩
      · go_enter Tryd.func80, Tryd.ntmps80
        go_wp2_with (go_at_call 82; refine (i_first _ _).mono ?_; rintro e w' ⟨rfl, rfl⟩)
        go_loop [3] (fun i => ∃ k : Nat, 1 ≤ k ∧ k ≤ s.size ∧ i = .int .i64 k ∧ ∀ j (h : j < s.size), 1 ≤ j → j < k → moreB (s[j].toNat : Int) = true) (fun i => s.size - (intOf i).toNat)
        case atStart => exact ⟨1, by omega, by omega, rfl, fun j h a b => by omega⟩
        case round =>
          obtain ⟨k, h1, hk, rfl, hm⟩ := hrel
          have HM : Hid (∀ j (h : j < s.size), 1 ≤ j → j < k → moreB (s[j].toNat : Int) = true) := hm
          clear hm
          by_cases hlt : k < s.size
          · cases hb : moreB (s[k].toNat : Int)
            · go_wp2_with (go_at_call 83; refine (i_more _ _).mono ?_; rintro e w' ⟨rfl, rfl⟩)
              go_ret
              exact ⟨ret_bool (nameB_more s k h1 hlt hb).symm, rfl⟩
            · go_wp2_with (go_at_call 83; refine (i_more _ _).mono ?_; rintro e w' ⟨rfl, rfl⟩)
              go_round
              case rel =>
                refine ⟨k + 1, by omega, by omega, by go_num, fun j h a b => ?_⟩
                by_cases e : j = k
                · subst e; exact hb
                · exact HM.out j h a (by omega)
              case measure => simp [intOf]; omega
          · go_wp2
            go_ret
            exact ⟨ret_bool (nameB_yes s hp (by omega) hf (fun j h a => HM.out j h a (by omega))).symm, rfl⟩
end Go.Proofs.YteeglkkgkjmjpaaDoor

/-
  Contracts: a model's trees, their depth, and which rows of nodes are right models, by the specification.
-/
namespace Go.Proofs.YteeglkkgkjmjpaaDoor
open Go.RowKit Go.Joins
set_option linter.unusedVariables false
set_option linter.unusedSimpArgs false
theorem p_sInT (x a b : Int) (w : World) (h : a ≤ x ∧ x ≤ b) : Calls Tryd.prog 56 #[.int .i64 x, .int .i64 a, .int .i64 b] w fun e w' => e = .returned (.bool true) ∧ w' = w := by
  obtain ⟨h1, h2⟩ := h
  go_enter Tryd.func56, Tryd.ntmps56
  go_wp2
  go_ret
  exact ⟨by simp_all, rfl⟩
theorem p_sInF (x a b : Int) (w : World) (h : ¬ (a ≤ x ∧ x ≤ b)) : Calls Tryd.prog 56 #[.int .i64 x, .int .i64 a, .int .i64 b] w fun e w' => e = .returned (.bool false) ∧ w' = w := by
  by_cases h1 : a ≤ x
  · have h2 : ¬ x ≤ b := fun e => h ⟨h1, e⟩
    clear h
    go_enter Tryd.func56, Tryd.ntmps56
    go_wp2
    go_ret
    exact ⟨by simp_all, rfl⟩
  · clear h
    go_enter Tryd.func56, Tryd.ntmps56
    go_wp2
    go_ret
    exact ⟨by simp_all, rfl⟩
def trI : Option Nat → Int
  | none => -1
  | some f => f
theorem take_rev (L : List Int) (m : Nat) (h : m < L.length) : (L.take (m + 1)).reverse = L[m]?.getD 0 :: (L.take m).reverse := by
  rw [List.take_succ_eq_append_getElem h, List.reverse_append, List.getElem?_eq_getElem h]
  rfl
theorem ret_i9 {a b : Int} (h : a = b) : Ending.returned (.int .i64 a) = .returned (.int .i64 b) := by rw [h]
set_option maxRecDepth 100000 in
set_option maxHeartbeats 4000000 in
theorem s_tree (D : Pn) (n b0 off cap : Nat) (hD : D.n = n) (hn : n ≤ 40) (hnr : ∀ j, j < n → (D.KL j).length ≤ 1048576) : ∀ (k i : Nat), i < k → i < n → ∀ w : World, PnRow w b0 off D w.heap.size →
    Calls Tryd.prog 58 #[.slice (some ⟨b0, off, none⟩) n cap, .int .i64 i] w fun r w' => r = .returned (.int .i64 (trI (tr D i))) ∧ w' = w
  | 0, i, hk, hi => by omega
  | k + 1, i, hk, hi => by
    intro w hr
    have IH := hide (fun (i : Nat) (h1 : i < k) (h2 : i < n) => s_tree D n b0 off cap hD hn hnr k i h1 h2 w hr)
    obtain ⟨ad, cp, hc, hat, hcp⟩ := hr i (by rw [hD]; exact hi)
    obtain ⟨c0, c1, c2, c3⟩ := hc
    have hin : (i : Int) < (n : Int) := by omega
    have HTR := hide (tr_eq D i)
    obtain ⟨L, hL⟩ : ∃ L, D.KL i = L := ⟨_, rfl⟩
    rw [hL] at c2 hat hcp HTR
    have HAT := hide hat
    have hll : L.length ≤ 1048576 := by rw [← hL]; exact hnr i hi
    obtain ⟨T, hT⟩ : ∃ T, tr D i = T := ⟨_, rfl⟩
    rw [hT] at HTR ⊢
    have hle9 : (0 : Int) ≤ (i : Int) := by omega
    clear hr hD hL hT hat hnr
    go_enter Tryd.func58, Tryd.ntmps58
    go_wp2
    go_loop [5, 6] (fun av iv => ∃ (j a : Nat), j ≤ L.length ∧ a ≤ i ∧ av = .int .i64 ((a : Int) - 1) ∧ iv = .int .i64 ((j : Int) - 1) ∧ Hid (fd (tr D) (L.take j).reverse a = T)) (fun _ iv => (intOf iv + 1).toNat)
    case atStart => exact ⟨L.length, i, Nat.le_refl _, Nat.le_refl _, rfl, rfl, hide (by rw [List.take_length]; exact HTR.out.symm)⟩
    case round =>
      obtain ⟨j, a, hj, ha, rfl, rfl, HF⟩ := hrel
      match j, hj, HF with
      | 0, hj, HF =>
        go_wp2
        go_ret
        refine ⟨ret_i9 ?_, rfl⟩
        have := HF.out
        simp [fd] at this
        rw [← this]
        simp [trI]
      | m + 1, hj, HF =>
        rw [show (((m + 1 : Nat) : Int) - 1) = (m : Int) by omega]
        have hm : m < L.length := by omega
        have hmi : (m : Int) < (L.length : Int) := by omega
        obtain ⟨b9, off9, rfl, hb9, hc9⟩ := HAT.out (fun h => by rw [h] at hm; exact absurd hm (Nat.not_lt_zero _))
        have k0 := hc9 m hm
        rw [take_rev L m hm] at HF
        obtain ⟨v, hv⟩ : ∃ v, L[m]?.getD 0 = v := ⟨_, rfl⟩
        rw [hv] at k0 HF
        clear hc9 hv
        match a, ha, HF with
        | 0, ha, HF =>
          have hz : ((0 : Nat) : Int) - 1 = -1 := by omega
          rw [hz]
          have HN := hide (HF.out.symm.trans (fd_no (by omega)))
          go_wp2
          go_ret
          exact ⟨ret_i9 (by rw [HN.out]; rfl), rfl⟩
        | c + 1, ha, HF =>
          rw [show (((c + 1 : Nat) : Int) - 1) = (c : Int) by omega]
          by_cases he : v = (c : Int)
          · have hne : (v != (c : Int)) = false := by simpa using he
            have HC := hide (show 0 < c + 1 ∧ v = ((c + 1 : Nat) : Int) - 1 by omega)
            have CI := hide (IH.out c (by omega) (by omega))
            clear he
            cases ht : tr D c with
            | none =>
              rw [ht] at CI
              have HN := hide (HF.out.symm.trans (fd_none HC.out ht))
              go_wp2_with (first | (go_at_call 58; refine CI.out.mono ?_; rintro e w2 ⟨rfl, rfl⟩))
              go_ret
              exact ⟨ret_i9 (by rw [HN.out]; rfl), rfl⟩
            | some f =>
              rw [ht] at CI
              have HN := hide ((fd_yes HC.out ht).symm.trans HF.out)
              have hfc := tr_le ht
              simp only [trI] at CI
              go_wp2_with (first | (go_at_call 58; refine CI.out.mono ?_; rintro e w2 ⟨rfl, rfl⟩))
              go_round
              case rel => exact ⟨m, f, by omega, by omega, rfl, rfl, HN⟩
              case measure => simp [intOf]; try omega
          · have hne : (v != (c : Int)) = true := by simpa using he
            have HN := hide (HF.out.symm.trans (fd_no (by omega)))
            clear he
            go_wp2
            go_ret
            exact ⟨ret_i9 (by rw [HN.out]; rfl), rfl⟩
theorem mx_take (g : Nat → Nat) (L : List Int) (m : Nat) (h : m < L.length) : mx g (L.take (m + 1)) = max (mx g (L.take m)) (g (L[m]?.getD 0).toNat) := by
  rw [List.take_succ_eq_append_getElem h, mx_snoc, List.getElem?_eq_getElem h]
  rfl
theorem mx_bd (D : Pn) (L : List Int) (i : Nat) (h : ∀ k, k ∈ L → 0 ≤ k ∧ k < (i : Int)) (m : Nat) : mx (dq D) (L.take m) ≤ i := by
  refine mx_le _ 0 (Nat.zero_le _) (fun k hk => ?_)
  have h1 := h k (List.mem_of_mem_take hk)
  have h2 := dq_le D k.toNat
  omega
theorem max_if (a b : Nat) : (if (a : Int) < (b : Int) then (b : Int) else (a : Int)) = ((max a b : Nat) : Int) := by
  split <;> omega
set_option maxRecDepth 100000 in
set_option maxHeartbeats 4000000 in
theorem s_deep (D : Pn) (n b0 off cap : Nat) (hD : D.n = n) (hn : n ≤ 40) (hnr : ∀ j, j < n → (D.KL j).length ≤ 1048576) (hlo : ∀ j, j < n → ∀ k, k ∈ D.KL j → 0 ≤ k ∧ k < (j : Int)) : ∀ (k i : Nat), i < k → i < n → ∀ w : World, PnRow w b0 off D w.heap.size →
    Calls Tryd.prog 59 #[.slice (some ⟨b0, off, none⟩) n cap, .int .i64 i] w fun r w' => r = .returned (.int .i64 (dq D i : Int)) ∧ w' = w
  | 0, i, hk, hi => by omega
  | k + 1, i, hk, hi => by
    intro w hr
    have IH := hide (fun (i : Nat) (h1 : i < k) (h2 : i < n) => s_deep D n b0 off cap hD hn hnr hlo k i h1 h2 w hr)
    obtain ⟨ad, cp, hc, hat, hcp⟩ := hr i (by rw [hD]; exact hi)
    obtain ⟨c0, c1, c2, c3⟩ := hc
    have hin : (i : Int) < (n : Int) := by omega
    have HDQ := hide (dq_eq (D := D) (i := i) (fun j hj => hlo j (by omega)))
    have HKI := hide (hlo i hi)
    obtain ⟨L, hL⟩ : ∃ L, D.KL i = L := ⟨_, rfl⟩
    have hll : L.length ≤ 1048576 := by rw [← hL]; exact hnr i hi
    rw [hL] at c2 hat hcp HDQ HKI
    have HAT := hide hat
    have HMB := hide (mx_bd D L i HKI.out)
    clear hr hD hL hat hnr hlo
    go_enter Tryd.func59, Tryd.ntmps59
    go_wp2
    go_loop [5, 6] (fun dv iv => ∃ (m : Nat), m ≤ L.length ∧ dv = .int .i64 (mx (dq D) (L.take m) : Int) ∧ iv = .int .i64 (m : Int)) (fun _ iv => L.length - (intOf iv).toNat)
    case atStart => exact ⟨0, Nat.zero_le _, rfl, rfl⟩
    case round =>
      obtain ⟨m, hm, rfl, rfl⟩ := hrel
      by_cases hlt : m < L.length
      · have hmi : (m : Int) < (L.length : Int) := by omega
        obtain ⟨b9, off9, rfl, hb9, hc9⟩ := HAT.out (fun h => by rw [h] at hlt; exact absurd hlt (Nat.not_lt_zero _))
        have k0 := hc9 m hlt
        have HX := hide (mx_take (dq D) L m hlt)
        have hkk := HKI.out (L[m]?.getD 0) (by rw [List.getElem?_eq_getElem hlt]; exact List.getElem_mem hlt)
        obtain ⟨v, hv⟩ : ∃ v, L[m]?.getD 0 = v := ⟨_, rfl⟩
        rw [hv] at k0 HX hkk
        obtain ⟨c, rfl⟩ : ∃ c : Nat, v = (c : Int) := ⟨v.toNat, by omega⟩
        have CI := hide (IH.out c (by omega) (by omega))
        have hmb := HMB.out m
        have hdb := dq_le D c
        obtain ⟨q, hq⟩ : ∃ q, mx (dq D) (L.take m) = q := ⟨_, rfl⟩
        obtain ⟨r, hr⟩ : ∃ r, dq D c = r := ⟨_, rfl⟩
        rw [show ((c : Int)).toNat = c by omega, hq, hr] at HX
        rw [hq] at hmb ⊢
        rw [hr] at hdb CI
        have HMI := hide (max_if q r)
        clear hc9 hv hq hr hkk
        go_wp2_with (first | (go_at_call 59; refine CI.out.mono ?_; rintro e w2 ⟨rfl, rfl⟩))
        all_goals
          go_round
          case rel => exact ⟨m + 1, by omega, by rw [HX.out]; (first | rw [← HMI.out] | skip); first | rfl | go_num | (congr 1; omega), by go_num⟩
          case measure => simp [intOf]; omega
      · have hml : m = L.length := by omega
        subst hml
        have hmb := HMB.out L.length
        rw [List.take_length] at hmb ⊢
        have HDQ2 := hide HDQ.out.symm
        obtain ⟨q, hq⟩ : ∃ q, mx (dq D) L = q := ⟨_, rfl⟩
        rw [hq] at hmb HDQ2 ⊢
        clear hq
        go_wp2
        go_ret
        exact ⟨ret_i9 (by rw [← HDQ2.out]; omega), rfl⟩
end Go.Proofs.YteeglkkgkjmjpaaDoor
