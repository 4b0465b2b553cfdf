/-
  Plain facts on samples: a sample is taken, no row that is taken is shorter, and it is empty just where the model takes nothing.
-/
import Derived.Test.YtfohfljdgmlibaaDoorAcN
import Derived.Test.YtfohfljdgmlibaaDoorSmMath
namespace Go.Proofs.YtfohfljdgmlibaaDoor
set_option linter.unusedVariables false
set_option linter.unusedSimpArgs false
theorem ls_min : ∀ (R : List (List ByteArray)) (x : List ByteArray), x ∈ R → (lsL R).length ≤ x.length
  | [], x, h => by cases h
  | r :: t, x, h => by
    rw [lsL_cons]
    have key : ∀ (t : List (List ByteArray)) (r : List ByteArray), (t.foldl (fun o x => if x.length < o.length then x else o) r).length ≤ r.length ∧ ∀ x ∈ t, (t.foldl (fun o x => if x.length < o.length then x else o) r).length ≤ x.length := by
      intro t
      induction t with
      | nil => intro r; exact ⟨Nat.le_refl _, fun x h => by cases h⟩
      | cons y t ih =>
        intro r
        rw [List.foldl_cons]
        by_cases c : y.length < r.length
        · rw [if_pos c]
          obtain ⟨h1, h2⟩ := ih y
          refine ⟨by omega, fun x hx => ?_⟩
          rcases List.mem_cons.1 hx with rfl | hx
          · exact h1
          · exact h2 x hx
        · rw [if_neg c]
          obtain ⟨h1, h2⟩ := ih r
          refine ⟨h1, fun x hx => ?_⟩
          rcases List.mem_cons.1 hx with rfl | hx
          · omega
          · exact h2 x hx
    rcases List.mem_cons.1 h with rfl | h
    · exact (key t x).1
    · exact (key t r).2 x h
theorem ls_mem : ∀ (R : List (List ByteArray)), R ≠ [] → lsL R ∈ R
  | [], h => absurd rfl h
  | r :: t, _ => by
    rw [lsL_cons]
    have key : ∀ (t : List (List ByteArray)) (r : List ByteArray), t.foldl (fun o x => if x.length < o.length then x else o) r ∈ r :: t := by
      intro t
      induction t with
      | nil => intro r; exact List.mem_cons_self ..
      | cons y t ih =>
        intro r
        rw [List.foldl_cons]
        by_cases c : y.length < r.length
        · rw [if_pos c]
          exact List.mem_cons_of_mem _ (ih y)
        · rw [if_neg c]
          rcases List.mem_cons.1 (ih r) with e | e
          · rw [e]; exact List.mem_cons_self ..
          · exact List.mem_cons_of_mem _ (List.mem_cons_of_mem _ e)
    exact key t r
/-- The sample of a node, taken once. -/
def bd1 (k : Int) (nm : ByteArray) (R : List (List ByteArray)) : List ByteArray := if k = 1 then [nm] else if k = 4 then [anyT] else if k = 2 then R.flatten else lsL R
theorem bdS_1 (oc k : Int) (nm : ByteArray) (R : List (List ByteArray)) : bdS oc k nm R = if oc = 1 ∨ oc = 2 then [] else bd1 k nm R := rfl
section
variable {D : Pn} {W : List ByteArray}
theorem chn_long : ∀ {L : List Int}, (∀ k ∈ L, ∀ a b, en D W k.toNat a b → a + (sm D k.toNat).length ≤ b) → ∀ a b, chn (fun k => en D W k.toNat) L a b → a + (L.map fun k => sm D k.toNat).flatten.length ≤ b
  | [], _, a, b, h => by have : a = b := h; subst this; exact Nat.le_refl _
  | k :: L, hk, a, b, h => by
    obtain ⟨c, h1, h2⟩ := h
    have e1 := hk k (List.mem_cons_self ..) a c h1
    have e2 := chn_long (fun j hj => hk j (List.mem_cons_of_mem _ hj)) c b h2
    rw [List.map_cons, List.flatten_cons, List.length_append]
    omega
theorem onc_long {i : Nat} (hk : ∀ k ∈ D.KL i, ∀ a b, en D W k.toNat a b → a + (sm D k.toNat).length ≤ b) {a b : Nat} (h : onc D W (en D W) i a b) : a + (bd1 (D.K i) (D.NM i) ((D.KL i).map fun k => sm D k.toNat)).length ≤ b := by
  unfold bd1
  rcases h with ⟨e, h⟩ | ⟨e, k, hm, h⟩ | ⟨e, h, -⟩
  · rw [e, if_neg (by decide), if_neg (by decide), if_pos rfl]
    exact chn_long hk a b h
  · rw [e, if_neg (by decide), if_neg (by decide), if_neg (by decide)]
    have h1 := hk k hm a b h
    have h2 := ls_min ((D.KL i).map fun k => sm D k.toNat) (sm D k.toNat) (List.mem_map.2 ⟨k, hm, rfl⟩)
    omega
  · rcases e with e | e
    · rw [e, if_pos rfl]; simp; omega
    · rw [e, if_neg (by decide), if_pos rfl]; simp; omega
theorem st_le {R : Nat → Nat → Prop} (hR : ∀ a b, R a b → a ≤ b) {a b : Nat} (h : St R a b) : a ≤ b := by
  induction h with
  | refl => exact Nat.le_refl _
  | step h1 _ ih => have := hR _ _ h1; omega
/-- No row that a node takes is shorter than its sample. -/
theorem en_long (hp : pkB D = true) : ∀ (m i : Nat), i < m → i < D.n → ∀ a b, en D W i a b → a + (sm D i).length ≤ b
  | 0, i, hm, hi, a, b, h => by omega
  | m + 1, i, hm, hi, a, b, h => by
    have hl : Lo D i := fun j hj => (pk_lo hp j (by omega)).2
    have hk : ∀ k ∈ D.KL i, ∀ a b, en D W k.toNat a b → a + (sm D k.toNat).length ≤ b := fun k hk => by
      have := hl i (Nat.le_refl _) k hk
      exact en_long hp m k.toNat (by omega) (by omega)
    have ho : ∀ a b, onc D W (en D W) i a b → a + (bd1 (D.K i) (D.NM i) ((D.KL i).map fun k => sm D k.toNat)).length ≤ b := fun a b h => onc_long hk h
    rw [sm_eq hl, bdS_1]
    rcases (en_iff hl a b).1 h with ⟨e, h⟩ | ⟨e, h⟩ | ⟨e, h⟩ | ⟨e, c, h1, h2⟩
    · rw [e, if_neg (by decide)]; exact ho a b h
    · rw [e, if_pos (by decide)]
      rcases h with h | h
      · simp; omega
      · have := ho a b h; simp; omega
    · rw [e, if_pos (by decide)]
      have := st_le (fun a b h => by have := ho a b h; omega) h
      simp; omega
    · rw [e, if_neg (by decide)]
      have e1 := ho a c h1
      have e2 := st_le (fun a b h => by have := ho a b h; omega) h2
      omega
/-- A row stands in another one, from a place on. -/
def StA (W : List ByteArray) (a : Nat) (T : List ByteArray) : Prop := ∀ j, j < T.length → W[a + j]? = T[j]?
theorem chn_taken : ∀ {L : List Int}, (∀ k ∈ L, ∀ a, StA W a (sm D k.toNat) → en D W k.toNat a (a + (sm D k.toNat).length)) → ∀ a, StA W a (L.map fun k => sm D k.toNat).flatten → chn (fun k => en D W k.toNat) L a (a + (L.map fun k => sm D k.toNat).flatten.length)
  | [], _, a, h => by simp [chn]
  | k :: L, hk, a, h => by
    rw [List.map_cons, List.flatten_cons] at h ⊢
    refine ⟨a + (sm D k.toNat).length, hk k (List.mem_cons_self ..) a (fun j hj => ?_), ?_⟩
    · have := h j (by rw [List.length_append]; omega)
      rw [List.getElem?_append_left hj] at this
      exact this
    · have ih := chn_taken (fun j hj => hk j (List.mem_cons_of_mem _ hj)) (a + (sm D k.toNat).length) (fun j hj => by
        have := h ((sm D k.toNat).length + j) (by rw [List.length_append]; omega)
        rw [List.getElem?_append_right (by omega), Nat.add_sub_cancel_left] at this
        rw [← this, Nat.add_assoc])
      rw [List.length_append, ← Nat.add_assoc]
      exact ih
theorem nd_two {k : Int} {nm : ByteArray} {n : Nat} {oc : Int} (h : ndB k nm n oc = true) (hk : k = 3) : 2 ≤ n := by
  have ho : 0 ≤ oc ∧ oc ≤ 3 := by
    unfold ndB at h
    rw [Bool.and_eq_true] at h
    exact of_decide_eq_true h.1
  rw [nd_3 ho hk, Bool.and_eq_true] at h
  exact of_decide_eq_true h.2
theorem nd_oc9 {k : Int} {nm : ByteArray} {n : Nat} {oc : Int} (h : ndB k nm n oc = true) : 0 ≤ oc ∧ oc ≤ 3 := by
  unfold ndB at h
  rw [Bool.and_eq_true] at h
  exact of_decide_eq_true h.1
theorem onc_taken {i : Nat} (hp : pkB D = true) (hi : i < D.n) (hk : ∀ k ∈ D.KL i, ∀ a, StA W a (sm D k.toNat) → en D W k.toNat a (a + (sm D k.toNat).length)) {a : Nat} (h : StA W a (bd1 (D.K i) (D.NM i) ((D.KL i).map fun k => sm D k.toNat))) :
    onc D W (en D W) i a (a + (bd1 (D.K i) (D.NM i) ((D.KL i).map fun k => sm D k.toNat)).length) := by
  have hnd := (pk_facts hp).2.1 i hi
  unfold bd1 at h ⊢
  rcases nd_kinds hnd with e | e | e | e
  · rw [e, if_pos rfl] at h ⊢
    refine .inr (.inr ⟨.inl e, rfl, ?_⟩)
    have h0 := h 0 (by simp)
    rw [Nat.add_zero] at h0
    have hlt : a < W.length := by
      rcases Nat.lt_or_ge a W.length with h' | h'
      · exact h'
      · rw [List.getElem?_eq_none h'] at h0; simp at h0
    refine ⟨hlt, ?_⟩
    rw [h0]
    unfold mtP
    simp [hi, e]
  · rw [e, if_neg (by decide), if_neg (by decide), if_pos rfl] at h ⊢
    exact .inl ⟨e, chn_taken hk a h⟩
  · rw [e, if_neg (by decide), if_neg (by decide), if_neg (by decide)] at h ⊢
    have h2 : 2 ≤ (D.KL i).length := nd_two hnd e
    have hne : ((D.KL i).map fun k => sm D k.toNat) ≠ [] := fun e' => by
      have := congrArg List.length e'
      simp at this
      rw [this] at h2
      simp at h2
    obtain ⟨k, hm, hk'⟩ := List.mem_map.1 (ls_mem _ hne)
    rw [← hk'] at h ⊢
    exact .inr (.inl ⟨e, k, hm, hk k hm a h⟩)
  · rw [e, if_neg (by decide), if_pos rfl] at h ⊢
    refine .inr (.inr ⟨.inr e, rfl, ?_⟩)
    have h0 := h 0 (by simp)
    rw [Nat.add_zero] at h0
    have hlt : a < W.length := by
      rcases Nat.lt_or_ge a W.length with h' | h'
      · exact h'
      · rw [List.getElem?_eq_none h'] at h0; simp at h0
    refine ⟨hlt, ?_⟩
    unfold mtP
    simp [hi, e]
/-- A node takes its sample. -/
theorem en_taken (hp : pkB D = true) : ∀ (m i : Nat), i < m → i < D.n → ∀ a, StA W a (sm D i) → en D W i a (a + (sm D i).length)
  | 0, i, hm, hi, a, h => by omega
  | m + 1, i, hm, hi, a, h => by
    have hl : Lo D i := fun j hj => (pk_lo hp j (by omega)).2
    have hk : ∀ k ∈ D.KL i, ∀ a, StA W a (sm D k.toNat) → en D W k.toNat a (a + (sm D k.toNat).length) := fun k hk => by
      have := hl i (Nat.le_refl _) k hk
      exact en_taken hp m k.toNat (by omega) (by omega)
    have hoc := nd_oc9 ((pk_facts hp).2.1 i hi)
    rw [sm_eq hl, bdS_1] at h ⊢
    refine (en_iff hl _ _).2 ?_
    rcases (show D.OC i = 0 ∨ D.OC i = 1 ∨ D.OC i = 2 ∨ D.OC i = 3 by omega) with e | e | e | e
    · rw [e, if_neg (by decide)] at h ⊢
      exact .inl ⟨rfl, onc_taken hp hi hk h⟩
    · rw [e, if_pos (by decide)]
      exact .inr (.inl ⟨rfl, .inl rfl⟩)
    · rw [e, if_pos (by decide)]
      exact .inr (.inr (.inl ⟨rfl, .refl _⟩))
    · rw [e, if_neg (by decide)] at h ⊢
      exact .inr (.inr (.inr ⟨rfl, _, onc_taken hp hi hk h, .refl _⟩))
end
theorem sm_taken {D : Pn} (hp : pkB D = true) (h2 : (sm D (D.n - 1)).length ≤ 200) : AcP D (sm D (D.n - 1)) := by
  have hn := (pk_facts hp).1
  have := en_taken (W := sm D (D.n - 1)) hp D.n (D.n - 1) (by omega) (by omega) 0 (fun j hj => by rw [Nat.zero_add])
  rw [Nat.zero_add] at this
  exact ⟨hp, h2, this⟩
theorem sm_least {D : Pn} {W : List ByteArray} (h : AcP D W) : (sm D (D.n - 1)).length ≤ W.length := by
  have hn := (pk_facts h.1).1
  have := en_long h.1 D.n (D.n - 1) (by omega) (by omega) 0 W.length h.2.2
  omega
theorem sm_null {D : Pn} (hp : pkB D = true) : decide ((sm D (D.n - 1)).length = 0) = nl D (D.n - 1) := by
  have hn := (pk_facts hp).1
  have h1 := ac_iff (W := []) hp
  by_cases h0 : (sm D (D.n - 1)).length = 0
  · rw [decide_eq_true h0]
    have h2 := en_taken (W := []) hp D.n (D.n - 1) (by omega) (by omega) 0 (fun j hj => by omega)
    rw [h0] at h2
    rcases h1.1 h2 with ⟨-, h3⟩ | ⟨q, h3, -⟩
    · exact h3.symm
    · exact h3.elim
  · rw [decide_eq_false h0]
    cases h3 : nl D (D.n - 1) with
    | false => rfl
    | true =>
      exfalso
      have h4 := h1.2 (.inl ⟨rfl, h3⟩)
      have := en_long hp D.n (D.n - 1) (by omega) (by omega) 0 _ h4
      simp at this
      apply h0
      rw [this]; rfl
end Go.Proofs.YtfohfljdgmlibaaDoor
