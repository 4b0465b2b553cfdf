/-
  Texts put together: MtMath, SmMath, SaM.
-/
import Derived.Test.YtfohfljdgmlibaaDoorS3
import Derived.Lib.Join
import Derived.Test.YtfohfljdgmlibaaDoorS17
/-
  Plain facts on the text of a model, of no program's run.
-/
namespace Go.Proofs.YtfohfljdgmlibaaDoor
set_option linter.unusedVariables false
set_option linter.unusedSimpArgs false
def sgP (oc : Int) : List UInt8 := if oc = 1 then [63] else if oc = 2 then [42] else if oc = 3 then [43] else []
def sepP (k : Int) : List UInt8 := if k = 2 then [44] else [124]
def bdP (k : Int) (nm : ByteArray) (ts : List (List UInt8)) : List UInt8 := if k = 1 then nm.data.toList else if k = 4 then [35] else [40] ++ Lib.join ts (sepP k) ++ [41]
def mtF (D : Pn) : Nat → Nat → List UInt8
  | 0, _ => []
  | f + 1, i => bdP (D.K i) (D.NM i) ((D.KL i).map fun k => mtF D f k.toNat) ++ sgP (D.OC i)
theorem mtF_more {D : Pn} : ∀ (f g i : Nat), Lo D i → i < f → i < g → mtF D f i = mtF D g i
  | 0, g, i, hl, hf, hg => by omega
  | f + 1, 0, i, hl, hf, hg => by omega
  | f + 1, g + 1, i, hl, hf, hg => by
    have : ((D.KL i).map fun k => mtF D f k.toNat) = (D.KL i).map fun k => mtF D g k.toNat := List.map_congr_left (fun k hk => by
      have := hl i (Nat.le_refl _) k hk
      exact mtF_more f g k.toNat (lo_less hl (by omega)) (by omega) (by omega))
    rw [mtF, mtF, this]
/-- The text of a node. -/
def mt (D : Pn) (i : Nat) : List UInt8 := mtF D (i + 1) i
theorem mt_eq {D : Pn} {i : Nat} (hl : Lo D i) : mt D i = bdP (D.K i) (D.NM i) ((D.KL i).map fun k => mt D k.toNat) ++ sgP (D.OC i) := by
  have : ((D.KL i).map fun k => mtF D i k.toNat) = (D.KL i).map fun k => mt D k.toNat := List.map_congr_left (fun k hk => by
    have := hl i (Nat.le_refl _) k hk
    exact mtF_more i (k.toNat + 1) k.toNat (lo_less hl (by omega)) (by omega) (by omega))
  show mtF D (i + 1) i = _
  rw [mtF, this]
theorem sg_len (oc : Int) : (sgP oc).length ≤ 1 := by
  unfold sgP
  repeat' split
  all_goals simp
theorem sep_len (k : Int) : (sepP k).length = 1 := by
  unfold sepP
  split <;> rfl
theorem join_snoc (ts : List (List UInt8)) (t sep : List UInt8) : Lib.join (ts ++ [t]) sep = if ts = [] then t else Lib.join ts sep ++ sep ++ t := by
  match ts with
  | [] => rw [if_pos rfl]; exact Lib.join_one t sep
  | x :: r =>
    rw [if_neg (by simp), List.cons_append, Lib.join_cons, Lib.join_cons]
    unfold Lib.joinTail
    simp
def totL : List (List UInt8) → Nat
  | [] => 0
  | t :: ts => t.length + 1 + totL ts
theorem tot_app : ∀ (a b : List (List UInt8)), totL (a ++ b) = totL a + totL b
  | [], b => by simp [totL]
  | t :: a, b => by rw [List.cons_append, totL, totL, tot_app a b]; omega
theorem join_tot (sep : List UInt8) (hs : sep.length = 1) : ∀ ts : List (List UInt8), (Lib.join ts sep).length ≤ totL ts
  | [] => by simp [Lib.join_nil, totL]
  | x :: r => by
    rw [Lib.join_length, hs]
    have : ∀ l : List (List UInt8), Lib.lens l + l.length = totL l := by
      intro l
      induction l with
      | nil => rfl
      | cons y l ih => rw [totL, ← ih]; simp [Lib.lens]; omega
    have h := this (x :: r)
    rw [List.length_cons] at h
    omega
theorem fd_tot {D : Pn} : ∀ (ks : List Int) (a f : Nat), (∀ j c, j < a → tr D j = some c → (mt D j).length + 1 ≤ 50 * (j + 1 - c)) → fd (tr D) ks a = some f → totL (ks.map fun k => mt D k.toNat) ≤ 50 * (a - f) ∧ f ≤ a
  | [], a, f, ih, h => by
    simp [fd] at h
    subst h
    exact ⟨Nat.zero_le _, Nat.le_refl _⟩
  | k :: ks, a, f, ih, h => by
    by_cases hc : 0 < a ∧ k = (a : Int) - 1
    · cases hg : tr D (a - 1) with
      | none => rw [fd_none hc hg] at h; cases h
      | some c =>
        have hca := tr_le hg
        rw [fd_yes hc hg] at h
        obtain ⟨h1, h2⟩ := fd_tot ks c f (fun j d hj => ih j d (by omega)) h
        have h3 := ih (a - 1) c (by omega) hg
        rw [List.map_cons, totL, show k.toNat = a - 1 by omega]
        exact ⟨by omega, by omega⟩
    · rw [fd_no hc] at h; cases h
theorem tot_rev : ∀ l : List (List UInt8), totL l.reverse = totL l
  | [] => rfl
  | t :: l => by rw [List.reverse_cons, tot_app, tot_rev l, totL, totL, totL]; omega
theorem nd_name {k : Int} {nm : ByteArray} {n : Nat} {oc : Int} (h : ndB k nm n oc = true) (hk : k = 1) : nm.size ≤ 40 := by
  unfold ndB at h
  rw [if_pos hk] at h
  simp only [Bool.and_eq_true] at h
  have h2 := h.2.1
  rcases Nat.lt_or_ge 40 nm.size with h3 | h3
  · rw [nameB_long nm h3] at h2; cases h2
  · exact h3
theorem mt_len {D : Pn} (hn : ∀ j, j < D.n → nodeB D j = true) (hlo : ∀ j, j < D.n → ∀ k, k ∈ D.KL j → 0 ≤ k ∧ k < (j : Int)) : ∀ (m i c : Nat), i < m → i < D.n → tr D i = some c → (mt D i).length + 1 ≤ 50 * (i + 1 - c)
  | 0, i, c, hm, hi, h => by omega
  | m + 1, i, c, hm, hi, h => by
    have hc := tr_le h
    rw [mt_eq (fun j hj => hlo j (by omega))]
    have h1 := sg_len (D.OC i)
    rw [List.length_append]
    unfold bdP
    split
    · rename_i hk
      have h2 := nd_name (hn i hi) hk
      have h3 : (D.NM i).data.toList.length = (D.NM i).size := by simp
      omega
    · split
      · simp only [List.length_cons, List.length_nil]; omega
      · have ht := h
        rw [tr_eq] at ht
        obtain ⟨h2, h3⟩ := fd_tot _ i c (fun j d hj hd => mt_len hn hlo m j d (by omega) (by omega) hd) ht
        rw [List.map_reverse, tot_rev] at h2
        have h4 := join_tot (sepP (D.K i)) (sep_len _) ((D.KL i).map fun k => mt D k.toNat)
        simp only [List.length_append, List.length_cons, List.length_nil]
        omega
/-- The texts of a node's kids are short. -/
theorem mt_kids {D : Pn} (hn : ∀ j, j < D.n → nodeB D j = true) (hlo : ∀ j, j < D.n → ∀ k, k ∈ D.KL j → 0 ≤ k ∧ k < (j : Int)) {i c : Nat} (hi : i < D.n) (h : tr D i = some c) : totL ((D.KL i).map fun k => mt D k.toNat) ≤ 50 * i := by
  have ht := h
  rw [tr_eq] at ht
  obtain ⟨h2, h3⟩ := fd_tot _ i c (fun j d hj hd => mt_len hn hlo (j + 1) j d (by omega) (by omega) hd) ht
  rw [List.map_reverse, tot_rev] at h2
  omega
theorem tot_take (l : List (List UInt8)) (m : Nat) : totL (l.take m) ≤ totL l := by
  have := tot_app (l.take m) (l.drop m)
  rw [List.take_append_drop] at this
  omega
/-- What stands in a text behind m kids. -/
theorem join_take (sep : List UInt8) (ts : List (List UInt8)) (m : Nat) (h : m < ts.length) : Lib.join (ts.take (m + 1)) sep = (if m = 0 then [] else Lib.join (ts.take m) sep ++ sep) ++ ts[m]?.getD [] := by
  rw [List.take_succ_eq_append_getElem h, join_snoc, List.getElem?_eq_getElem h]
  by_cases e : m = 0
  · subst e; simp
  · rw [if_neg (by intro h9; rw [List.take_eq_nil_iff] at h9; rcases h9 with h9 | h9; exact e h9; rw [h9] at h; simp at h), if_neg e]; rfl
end Go.Proofs.YtfohfljdgmlibaaDoor

/-
  Plain facts on the shortest rows of a model, of no program's run.
-/
namespace Go.Proofs.YtfohfljdgmlibaaDoor
set_option linter.unusedVariables false
set_option linter.unusedSimpArgs false
/-- The first of those that are shortest. -/
def lsL : List (List ByteArray) → List ByteArray
  | [] => []
  | r :: t => t.foldl (fun o x => if x.length < o.length then x else o) r
theorem lsL_cons (r : List ByteArray) (t : List (List ByteArray)) : lsL (r :: t) = t.foldl (fun o x => if x.length < o.length then x else o) r := rfl
theorem lsL_one (x : List ByteArray) : lsL [x] = x := rfl
theorem lsL_snoc (R : List (List ByteArray)) (x : List ByteArray) (h : R ≠ []) : lsL (R ++ [x]) = if x.length < (lsL R).length then x else lsL R := by
  match R, h with
  | r :: t, _ =>
    rw [List.cons_append, lsL_cons, lsL_cons, List.foldl_append]
    rfl
theorem ls_fold : ∀ (t : List (List ByteArray)) (r : List ByteArray), (t.foldl (fun o x => if x.length < o.length then x else o) r).length ≤ r.length
  | [], r => Nat.le_refl _
  | x :: t, r => by
    rw [List.foldl_cons]
    have := ls_fold t (if x.length < r.length then x else r)
    split at this <;> rename_i hh
    · rw [if_pos hh]; omega
    · rw [if_neg hh]; omega
theorem ls_len (R : List (List ByteArray)) : (lsL R).length ≤ R.flatten.length := by
  match R with
  | [] => exact Nat.le_refl _
  | r :: t =>
    have := ls_fold t r
    rw [lsL_cons, List.flatten_cons, List.length_append]
    omega
def anyT : ByteArray := ⟨#[97, 110, 121]⟩
def bdS (oc k : Int) (nm : ByteArray) (R : List (List ByteArray)) : List ByteArray := if oc = 1 ∨ oc = 2 then [] else if k = 1 then [nm] else if k = 4 then [anyT] else if k = 2 then R.flatten else lsL R
def smF (D : Pn) : Nat → Nat → List ByteArray
  | 0, _ => []
  | f + 1, i => bdS (D.OC i) (D.K i) (D.NM i) ((D.KL i).map fun k => smF D f k.toNat)
theorem smF_more {D : Pn} : ∀ (f g i : Nat), Lo D i → i < f → i < g → smF D f i = smF D g i
  | 0, g, i, hl, hf, hg => by omega
  | f + 1, 0, i, hl, hf, hg => by omega
  | f + 1, g + 1, i, hl, hf, hg => by
    have : ((D.KL i).map fun k => smF D f k.toNat) = (D.KL i).map fun k => smF D g k.toNat := List.map_congr_left (fun k hk => by
      have := hl i (Nat.le_refl _) k hk
      exact smF_more f g k.toNat (lo_less hl (by omega)) (by omega) (by omega))
    rw [smF, smF, this]
/-- The sample of a node. -/
def sm (D : Pn) (i : Nat) : List ByteArray := smF D (i + 1) i
theorem sm_eq {D : Pn} {i : Nat} (hl : Lo D i) : sm D i = bdS (D.OC i) (D.K i) (D.NM i) ((D.KL i).map fun k => sm D k.toNat) := by
  have : ((D.KL i).map fun k => smF D i k.toNat) = (D.KL i).map fun k => sm D k.toNat := List.map_congr_left (fun k hk => by
    have := hl i (Nat.le_refl _) k hk
    exact smF_more i (k.toNat + 1) k.toNat (lo_less hl (by omega)) (by omega) (by omega))
  show smF D (i + 1) i = _
  rw [smF, this]
theorem fl_rev : ∀ (R : List (List ByteArray)), R.reverse.flatten.length = R.flatten.length
  | [] => rfl
  | r :: t => by rw [List.reverse_cons, List.flatten_append, List.length_append, fl_rev t, List.flatten_cons, List.length_append]; simp; omega
theorem fd_sm {D : Pn} : ∀ (ks : List Int) (a f : Nat), (∀ j c, j < a → tr D j = some c → (sm D j).length ≤ j + 1 - c) → fd (tr D) ks a = some f → (ks.map fun k => sm D k.toNat).flatten.length ≤ a - f ∧ f ≤ a
  | [], a, f, ih, h => by
    simp [fd] at h
    subst h
    exact ⟨Nat.zero_le _, Nat.le_refl _⟩
  | k :: ks, a, f, ih, h => by
    by_cases hc : 0 < a ∧ k = (a : Int) - 1
    · cases hg : tr D (a - 1) with
      | none => rw [fd_none hc hg] at h; cases h
      | some c =>
        have hca := tr_le hg
        rw [fd_yes hc hg] at h
        obtain ⟨h1, h2⟩ := fd_sm ks c f (fun j d hj => ih j d (by omega)) h
        have h3 := ih (a - 1) c (by omega) hg
        rw [List.map_cons, List.flatten_cons, List.length_append, show k.toNat = a - 1 by omega]
        exact ⟨by omega, by omega⟩
    · rw [fd_no hc] at h; cases h
theorem sm_len {D : Pn} (hlo : ∀ j, j < D.n → ∀ k, k ∈ D.KL j → 0 ≤ k ∧ k < (j : Int)) : ∀ (m i c : Nat), i < m → i < D.n → tr D i = some c → (sm D i).length ≤ i + 1 - c ∧ ((D.KL i).map fun k => sm D k.toNat).flatten.length ≤ i
  | 0, i, c, hm, hi, h => by omega
  | m + 1, i, c, hm, hi, h => by
    have hc := tr_le h
    have ht := h
    rw [tr_eq] at ht
    obtain ⟨h2, h3⟩ := fd_sm _ i c (fun j d hj hd => (sm_len hlo m j d (by omega) (by omega) hd).1) ht
    rw [List.map_reverse, fl_rev] at h2
    refine ⟨?_, by omega⟩
    have h4 := ls_len ((D.KL i).map fun k => sm D k.toNat)
    rw [sm_eq (fun j hj => hlo j (by omega))]
    unfold bdS
    repeat' split
    · simp
    · simp; omega
    · simp; omega
    · omega
    · omega
theorem fl_take (R : List (List ByteArray)) (m : Nat) : (R.take m).flatten.length ≤ R.flatten.length := by
  have h : (R.take m).flatten ++ (R.drop m).flatten = R.flatten := by rw [← List.flatten_append, List.take_append_drop]
  have := congrArg List.length h
  rw [List.length_append] at this
  omega
theorem fl_next (R : List (List ByteArray)) (m : Nat) (h : m < R.length) : (R.take (m + 1)).flatten = (R.take m).flatten ++ R[m]?.getD [] := by
  rw [List.take_succ_eq_append_getElem h, List.flatten_append, List.getElem?_eq_getElem h]
  simp
theorem ls_next (R : List (List ByteArray)) (m : Nat) (h : m < R.length) (h0 : 0 < m) : lsL (R.take (m + 1)) = if (R[m]?.getD []).length < (lsL (R.take m)).length then R[m]?.getD [] else lsL (R.take m) := by
  rw [List.take_succ_eq_append_getElem h, lsL_snoc _ _ (by intro h9; rw [List.take_eq_nil_iff] at h9; rcases h9 with h9 | h9; omega; rw [h9] at h; simp at h), List.getElem?_eq_getElem h]
  rfl
theorem ls_first (R : List (List ByteArray)) (h : 0 < R.length) : lsL (R.take 1) = R[0]?.getD [] := by
  match R, h with
  | r :: t, _ => rfl
end Go.Proofs.YtfohfljdgmlibaaDoor

/-
  Plain facts on samples: a sample is taken, no row that is taken is shorter, and it is empty just where the model takes nothing.
-/
namespace Go.Proofs.YtfohfljdgmlibaaDoor
set_option linter.unusedVariables false
set_option linter.unusedSimpArgs false
theorem ls_min : ∀ (R : List (List ByteArray)) (x : List ByteArray), x ∈ R → (lsL R).length ≤ x.length
  | [], x, h => by cases h
  | r :: t, x, h => by
    rw [lsL_cons]
    have key : ∀ (t : List (List ByteArray)) (r : List ByteArray), (t.foldl (fun o x => if x.length < o.length then x else o) r).length ≤ r.length ∧ ∀ x ∈ t, (t.foldl (fun o x => if x.length < o.length then x else o) r).length ≤ x.length := by
      intro t
      induction t with
      | nil => intro r; exact ⟨Nat.le_refl _, fun x h => by cases h⟩
      | cons y t ih =>
        intro r
        rw [List.foldl_cons]
        by_cases c : y.length < r.length
        · rw [if_pos c]
          obtain ⟨h1, h2⟩ := ih y
          refine ⟨by omega, fun x hx => ?_⟩
          rcases List.mem_cons.1 hx with rfl | hx
          · exact h1
          · exact h2 x hx
        · rw [if_neg c]
          obtain ⟨h1, h2⟩ := ih r
          refine ⟨h1, fun x hx => ?_⟩
          rcases List.mem_cons.1 hx with rfl | hx
          · omega
          · exact h2 x hx
    rcases List.mem_cons.1 h with rfl | h
    · exact (key t x).1
    · exact (key t r).2 x h
theorem ls_mem : ∀ (R : List (List ByteArray)), R ≠ [] → lsL R ∈ R
  | [], h => absurd rfl h
  | r :: t, _ => by
    rw [lsL_cons]
    have key : ∀ (t : List (List ByteArray)) (r : List ByteArray), t.foldl (fun o x => if x.length < o.length then x else o) r ∈ r :: t := by
      intro t
      induction t with
      | nil => intro r; exact List.mem_cons_self ..
      | cons y t ih =>
        intro r
        rw [List.foldl_cons]
        by_cases c : y.length < r.length
        · rw [if_pos c]
          exact List.mem_cons_of_mem _ (ih y)
        · rw [if_neg c]
          rcases List.mem_cons.1 (ih r) with e | e
          · rw [e]; exact List.mem_cons_self ..
          · exact List.mem_cons_of_mem _ (List.mem_cons_of_mem _ e)
    exact key t r
/-- The sample of a node, taken once. -/
def bd1 (k : Int) (nm : ByteArray) (R : List (List ByteArray)) : List ByteArray := if k = 1 then [nm] else if k = 4 then [anyT] else if k = 2 then R.flatten else lsL R
theorem bdS_1 (oc k : Int) (nm : ByteArray) (R : List (List ByteArray)) : bdS oc k nm R = if oc = 1 ∨ oc = 2 then [] else bd1 k nm R := rfl
section
variable {D : Pn} {W : List ByteArray}
theorem chn_long : ∀ {L : List Int}, (∀ k ∈ L, ∀ a b, en D W k.toNat a b → a + (sm D k.toNat).length ≤ b) → ∀ a b, chn (fun k => en D W k.toNat) L a b → a + (L.map fun k => sm D k.toNat).flatten.length ≤ b
  | [], _, a, b, h => by have : a = b := h; subst this; exact Nat.le_refl _
  | k :: L, hk, a, b, h => by
    obtain ⟨c, h1, h2⟩ := h
    have e1 := hk k (List.mem_cons_self ..) a c h1
    have e2 := chn_long (fun j hj => hk j (List.mem_cons_of_mem _ hj)) c b h2
    rw [List.map_cons, List.flatten_cons, List.length_append]
    omega
theorem onc_long {i : Nat} (hk : ∀ k ∈ D.KL i, ∀ a b, en D W k.toNat a b → a + (sm D k.toNat).length ≤ b) {a b : Nat} (h : onc D W (en D W) i a b) : a + (bd1 (D.K i) (D.NM i) ((D.KL i).map fun k => sm D k.toNat)).length ≤ b := by
  unfold bd1
  rcases h with ⟨e, h⟩ | ⟨e, k, hm, h⟩ | ⟨e, h, -⟩
  · rw [e, if_neg (by decide), if_neg (by decide), if_pos rfl]
    exact chn_long hk a b h
  · rw [e, if_neg (by decide), if_neg (by decide), if_neg (by decide)]
    have h1 := hk k hm a b h
    have h2 := ls_min ((D.KL i).map fun k => sm D k.toNat) (sm D k.toNat) (List.mem_map.2 ⟨k, hm, rfl⟩)
    omega
  · rcases e with e | e
    · rw [e, if_pos rfl]; simp; omega
    · rw [e, if_neg (by decide), if_pos rfl]; simp; omega
theorem st_le {R : Nat → Nat → Prop} (hR : ∀ a b, R a b → a ≤ b) {a b : Nat} (h : St R a b) : a ≤ b := by
  induction h with
  | refl => exact Nat.le_refl _
  | step h1 _ ih => have := hR _ _ h1; omega
/-- No row that a node takes is shorter than its sample. -/
theorem en_long (hp : pkB D = true) : ∀ (m i : Nat), i < m → i < D.n → ∀ a b, en D W i a b → a + (sm D i).length ≤ b
  | 0, i, hm, hi, a, b, h => by omega
  | m + 1, i, hm, hi, a, b, h => by
    have hl : Lo D i := fun j hj => (pk_lo hp j (by omega)).2
    have hk : ∀ k ∈ D.KL i, ∀ a b, en D W k.toNat a b → a + (sm D k.toNat).length ≤ b := fun k hk => by
      have := hl i (Nat.le_refl _) k hk
      exact en_long hp m k.toNat (by omega) (by omega)
    have ho : ∀ a b, onc D W (en D W) i a b → a + (bd1 (D.K i) (D.NM i) ((D.KL i).map fun k => sm D k.toNat)).length ≤ b := fun a b h => onc_long hk h
    rw [sm_eq hl, bdS_1]
    rcases (en_iff hl a b).1 h with ⟨e, h⟩ | ⟨e, h⟩ | ⟨e, h⟩ | ⟨e, c, h1, h2⟩
    · rw [e, if_neg (by decide)]; exact ho a b h
    · rw [e, if_pos (by decide)]
      rcases h with h | h
      · simp; omega
      · have := ho a b h; simp; omega
    · rw [e, if_pos (by decide)]
      have := st_le (fun a b h => by have := ho a b h; omega) h
      simp; omega
    · rw [e, if_neg (by decide)]
      have e1 := ho a c h1
      have e2 := st_le (fun a b h => by have := ho a b h; omega) h2
      omega
/-- A row stands in another one, from a place on. -/
def StA (W : List ByteArray) (a : Nat) (T : List ByteArray) : Prop := ∀ j, j < T.length → W[a + j]? = T[j]?
theorem chn_taken : ∀ {L : List Int}, (∀ k ∈ L, ∀ a, StA W a (sm D k.toNat) → en D W k.toNat a (a + (sm D k.toNat).length)) → ∀ a, StA W a (L.map fun k => sm D k.toNat).flatten → chn (fun k => en D W k.toNat) L a (a + (L.map fun k => sm D k.toNat).flatten.length)
  | [], _, a, h => by simp [chn]
  | k :: L, hk, a, h => by
    rw [List.map_cons, List.flatten_cons] at h ⊢
    refine ⟨a + (sm D k.toNat).length, hk k (List.mem_cons_self ..) a (fun j hj => ?_), ?_⟩
    · have := h j (by rw [List.length_append]; omega)
      rw [List.getElem?_append_left hj] at this
      exact this
    · have ih := chn_taken (fun j hj => hk j (List.mem_cons_of_mem _ hj)) (a + (sm D k.toNat).length) (fun j hj => by
        have := h ((sm D k.toNat).length + j) (by rw [List.length_append]; omega)
        rw [List.getElem?_append_right (by omega), Nat.add_sub_cancel_left] at this
        rw [← this, Nat.add_assoc])
      rw [List.length_append, ← Nat.add_assoc]
      exact ih
theorem nd_two {k : Int} {nm : ByteArray} {n : Nat} {oc : Int} (h : ndB k nm n oc = true) (hk : k = 3) : 2 ≤ n := by
  have ho : 0 ≤ oc ∧ oc ≤ 3 := by
    unfold ndB at h
    rw [Bool.and_eq_true] at h
    exact of_decide_eq_true h.1
  rw [nd_3 ho hk, Bool.and_eq_true] at h
  exact of_decide_eq_true h.2
theorem nd_oc9 {k : Int} {nm : ByteArray} {n : Nat} {oc : Int} (h : ndB k nm n oc = true) : 0 ≤ oc ∧ oc ≤ 3 := by
  unfold ndB at h
  rw [Bool.and_eq_true] at h
  exact of_decide_eq_true h.1
theorem onc_taken {i : Nat} (hp : pkB D = true) (hi : i < D.n) (hk : ∀ k ∈ D.KL i, ∀ a, StA W a (sm D k.toNat) → en D W k.toNat a (a + (sm D k.toNat).length)) {a : Nat} (h : StA W a (bd1 (D.K i) (D.NM i) ((D.KL i).map fun k => sm D k.toNat))) :
    onc D W (en D W) i a (a + (bd1 (D.K i) (D.NM i) ((D.KL i).map fun k => sm D k.toNat)).length) := by
  have hnd := (pk_facts hp).2.1 i hi
  unfold bd1 at h ⊢
  rcases nd_kinds hnd with e | e | e | e
  · rw [e, if_pos rfl] at h ⊢
    refine .inr (.inr ⟨.inl e, rfl, ?_⟩)
    have h0 := h 0 (by simp)
    rw [Nat.add_zero] at h0
    have hlt : a < W.length := by
      rcases Nat.lt_or_ge a W.length with h' | h'
      · exact h'
      · rw [List.getElem?_eq_none h'] at h0; simp at h0
    refine ⟨hlt, ?_⟩
    rw [h0]
    unfold mtP
    simp [hi, e]
  · rw [e, if_neg (by decide), if_neg (by decide), if_pos rfl] at h ⊢
    exact .inl ⟨e, chn_taken hk a h⟩
  · rw [e, if_neg (by decide), if_neg (by decide), if_neg (by decide)] at h ⊢
    have h2 : 2 ≤ (D.KL i).length := nd_two hnd e
    have hne : ((D.KL i).map fun k => sm D k.toNat) ≠ [] := fun e' => by
      have := congrArg List.length e'
      simp at this
      rw [this] at h2
      simp at h2
    obtain ⟨k, hm, hk'⟩ := List.mem_map.1 (ls_mem _ hne)
    rw [← hk'] at h ⊢
    exact .inr (.inl ⟨e, k, hm, hk k hm a h⟩)
  · rw [e, if_neg (by decide), if_pos rfl] at h ⊢
    refine .inr (.inr ⟨.inr e, rfl, ?_⟩)
    have h0 := h 0 (by simp)
    rw [Nat.add_zero] at h0
    have hlt : a < W.length := by
      rcases Nat.lt_or_ge a W.length with h' | h'
      · exact h'
      · rw [List.getElem?_eq_none h'] at h0; simp at h0
    refine ⟨hlt, ?_⟩
    unfold mtP
    simp [hi, e]
/-- A node takes its sample. -/
theorem en_taken (hp : pkB D = true) : ∀ (m i : Nat), i < m → i < D.n → ∀ a, StA W a (sm D i) → en D W i a (a + (sm D i).length)
  | 0, i, hm, hi, a, h => by omega
  | m + 1, i, hm, hi, a, h => by
    have hl : Lo D i := fun j hj => (pk_lo hp j (by omega)).2
    have hk : ∀ k ∈ D.KL i, ∀ a, StA W a (sm D k.toNat) → en D W k.toNat a (a + (sm D k.toNat).length) := fun k hk => by
      have := hl i (Nat.le_refl _) k hk
      exact en_taken hp m k.toNat (by omega) (by omega)
    have hoc := nd_oc9 ((pk_facts hp).2.1 i hi)
    rw [sm_eq hl, bdS_1] at h ⊢
    refine (en_iff hl _ _).2 ?_
    rcases (show D.OC i = 0 ∨ D.OC i = 1 ∨ D.OC i = 2 ∨ D.OC i = 3 by omega) with e | e | e | e
    · rw [e, if_neg (by decide)] at h ⊢
      exact .inl ⟨rfl, onc_taken hp hi hk h⟩
    · rw [e, if_pos (by decide)]
      exact .inr (.inl ⟨rfl, .inl rfl⟩)
    · rw [e, if_pos (by decide)]
      exact .inr (.inr (.inl ⟨rfl, .refl _⟩))
    · rw [e, if_neg (by decide)] at h ⊢
      exact .inr (.inr (.inr ⟨rfl, _, onc_taken hp hi hk h, .refl _⟩))
end
theorem sm_taken {D : Pn} (hp : pkB D = true) (h2 : (sm D (D.n - 1)).length ≤ 200) : AcP D (sm D (D.n - 1)) := by
  have hn := (pk_facts hp).1
  have := en_taken (W := sm D (D.n - 1)) hp D.n (D.n - 1) (by omega) (by omega) 0 (fun j hj => by rw [Nat.zero_add])
  rw [Nat.zero_add] at this
  exact ⟨hp, h2, this⟩
theorem sm_least {D : Pn} {W : List ByteArray} (h : AcP D W) : (sm D (D.n - 1)).length ≤ W.length := by
  have hn := (pk_facts h.1).1
  have := en_long h.1 D.n (D.n - 1) (by omega) (by omega) 0 W.length h.2.2
  omega
theorem sm_null {D : Pn} (hp : pkB D = true) : decide ((sm D (D.n - 1)).length = 0) = nl D (D.n - 1) := by
  have hn := (pk_facts hp).1
  have h1 := ac_iff (W := []) hp
  by_cases h0 : (sm D (D.n - 1)).length = 0
  · rw [decide_eq_true h0]
    have h2 := en_taken (W := []) hp D.n (D.n - 1) (by omega) (by omega) 0 (fun j hj => by omega)
    rw [h0] at h2
    rcases h1.1 h2 with ⟨-, h3⟩ | ⟨q, h3, -⟩
    · exact h3.symm
    · exact h3.elim
  · rw [decide_eq_false h0]
    cases h3 : nl D (D.n - 1) with
    | false => rfl
    | true =>
      exfalso
      have h4 := h1.2 (.inl ⟨rfl, h3⟩)
      have := en_long hp D.n (D.n - 1) (by omega) (by omega) 0 _ h4
      simp at this
      apply h0
      rw [this]; rfl
end Go.Proofs.YtfohfljdgmlibaaDoor
