/-
  Texts put together: PnEq, MtS, MtI.
-/
import Derived.Test.YtfohfljdgmlibaaDoorS2
import Derived.Test.YtfohfljdgmlibaaDoorS31
import Derived.Test.YtfohfljdgmlibaaDoorS5
import Derived.Test.YtfohfljdgmlibaaDoorS11
import Derived.Test.YtfohfljdgmlibaaDoorS1
/-
  Contracts of the laws' helpers on rows of model nodes: a copy in new memory, and that two rows that are alike are told so.
-/
namespace Go.Proofs.YtfohfljdgmlibaaDoor
open Go.RowKit Go.Joins
set_option linter.unusedVariables false
set_option linter.unusedSimpArgs false
theorem three_nodes {w w2 : World} {k : Int} {nm : ByteArray} {a : Option Addr} {n c : Nat} {oc : Int} {T U V : TypeId}
    (hb : Below (((w.alloc (.cells #[.int .i64 k, .string nm, .slice a n c, .int .i64 oc] T)).alloc (.cells #[.int .i64 0, .string ⟨#[]⟩, .slice none 0 0, .int .i64 0] U)).alloc (.cells #[.int .i64 k, .string nm, .slice none 0 0, .int .i64 0] V)).heap.size
      (((w.alloc (.cells #[.int .i64 k, .string nm, .slice a n c, .int .i64 oc] T)).alloc (.cells #[.int .i64 0, .string ⟨#[]⟩, .slice none 0 0, .int .i64 0] U)).alloc (.cells #[.int .i64 k, .string nm, .slice none 0 0, .int .i64 0] V)) w2) :
    NdAt w2 w.heap.size k nm a n c oc ∧ NdAt w2 (w.heap.size + 1) 0 ⟨#[]⟩ none 0 0 0 ∧ NdAt w2 (w.heap.size + 1 + 1) k nm none 0 0 0 ∧ Below w.heap.size w w2 := by
  have h1 := ndAt_new w k nm a n c oc T
  have h2 := ndAt_new (w.alloc (.cells #[.int .i64 k, .string nm, .slice a n c, .int .i64 oc] T)) 0 ⟨#[]⟩ none 0 0 0 U
  have h3 := ndAt_new ((w.alloc (.cells #[.int .i64 k, .string nm, .slice a n c, .int .i64 oc] T)).alloc (.cells #[.int .i64 0, .string ⟨#[]⟩, .slice none 0 0, .int .i64 0] U)) k nm none 0 0 0 V
  have st : ∀ (x : World) (o : Obj), Below x.heap.size x (x.alloc o) := fun x o => (Below.refl _ _).alloc (Nat.le_refl _) _
  refine ⟨ndAt_go (ndAt_go (ndAt_go h1 (st _ _)) (st _ _)) hb, ?_, ?_, ?_⟩
  · have := ndAt_go (ndAt_go h2 (st _ _)) hb
    simpa using this
  · have := ndAt_go h3 hb
    simpa using this
  · refine ((((Below.refl w.heap.size w).alloc (Nat.le_refl _) _).alloc (by simp) _).alloc (by simp; omega) _).trans (hb.mono (by simp; omega))
/-- Of a row of cells the first k nodes are those of D, each with its kids in a block of its own above g. -/
def QuadN (w : World) (g : Nat) (xs : List Value) (k : Nat) (D : Pn) : Prop := ∀ j, j < k → ∃ G, g < G ∧ (xs[j * 4]? = some (.int .i64 (D.K j)) ∧ xs[j * 4 + 1]? = some (.string (D.NM j)) ∧ xs[j * 4 + 2]? = some (.slice (some ⟨G, 0, none⟩) (D.KL j).length (D.KL j).length) ∧ xs[j * 4 + 3]? = some (.int .i64 (D.OC j))) ∧ RowAt .i64 w (some ⟨G, 0, none⟩) (D.KL j) w.heap.size
theorem quadN_go {w w' : World} {g k : Nat} {xs : List Value} {D : Pn} (h : QuadN w g xs k D) (hb : Below w.heap.size w w') : QuadN w' g xs k D := fun j hj => by
  obtain ⟨G, hG, hc, hr⟩ := h j hj
  exact ⟨G, hG, hc, rwAt_up (rwAt_go hr hb) hb.size⟩
theorem quadN_set {w : World} {g k o : Nat} {xs : List Value} {D : Pn} (h : QuadN w g xs k D) (v : Value) : QuadN (w.setCell ⟨g, o, none⟩ v) g xs k D := fun j hj => by
  obtain ⟨G, hG, hc, hr⟩ := h j hj
  refine ⟨G, hG, hc, ?_⟩
  rw [heap_setCell_size]
  exact rwAt_set hr _ _ (by show g ≠ G; omega)
theorem quadN_step {w : World} {g k n G : Nat} {xs : List Value} {D : Pn} (h : QuadN w g xs k D) (hk : k < n) (hl : xs.length = n * 4) (hG : g < G) (hr : RowAt .i64 w (some ⟨G, 0, none⟩) (D.KL k) w.heap.size) :
    QuadN w g ((((xs.set (k * 4) (.int .i64 (D.K k))).set (k * 4 + 1) (.string (D.NM k))).set (k * 4 + 2) (.slice (some ⟨G, 0, none⟩) (D.KL k).length (D.KL k).length)).set (k * 4 + 3) (.int .i64 (D.OC k))) (k + 1) D := by
  intro j hj
  simp only [List.getElem?_set, List.length_set]
  by_cases e : j = k
  · subst e
    refine ⟨G, hG, ⟨?_, ?_, ?_, ?_⟩, hr⟩
    all_goals
      repeat (first | rw [if_pos rfl, if_pos (by omega)] | rw [if_neg (by omega)])
  · obtain ⟨G', hG', ⟨h0, h1, h2, h3⟩, hr'⟩ := h j (by omega)
    refine ⟨G', hG', ⟨?_, ?_, ?_, ?_⟩, hr'⟩
    all_goals
      repeat rw [if_neg (by omega)]
      assumption
theorem own_pn {w : World} {B g n t : Nat} {xs : List Value} {D : Pn} (hn : D.n = n) (h : w.ownsRow B t 4 (.slice (some ⟨g, 0, none⟩) n n) n xs) (hp : QuadN w g xs n D) : PnAt w (some ⟨g, 0, none⟩) D w.heap.size := fun h0 => by
  have hg : g < w.heap.size := (h.lt g rfl).2
  refine ⟨g, 0, rfl, hg, fun j hj => ?_⟩
  obtain ⟨G, hG, ⟨h0, h1, h2, h3⟩, hr⟩ := hp j (by omega)
  refine ⟨some ⟨G, 0, none⟩, (D.KL j).length, ⟨?_, ?_, ?_, ?_⟩, hr, Nat.le_refl _⟩
  · rw [Nat.zero_add, h.cellAt (j * 4) (by omega)]; exact h0
  · rw [Nat.zero_add, h.cellAt (j * 4 + 1) (by omega)]; exact h1
  · rw [Nat.zero_add, h.cellAt (j * 4 + 2) (by omega)]; exact h2
  · rw [Nat.zero_add, h.cellAt (j * 4 + 3) (by omega)]; exact h3
theorem two_nodes {w w2 : World} {k : Int} {nm : ByteArray} {a a' : Option Addr} {n c c' : Nat} {oc : Int} {T U : TypeId}
    (hb : Below ((w.alloc (.cells #[.int .i64 k, .string nm, .slice a n c, .int .i64 oc] T)).alloc (.cells #[.int .i64 k, .string nm, .slice a' n c', .int .i64 oc] U)).heap.size ((w.alloc (.cells #[.int .i64 k, .string nm, .slice a n c, .int .i64 oc] T)).alloc (.cells #[.int .i64 k, .string nm, .slice a' n c', .int .i64 oc] U)) w2) :
    NdAt w2 w.heap.size k nm a n c oc ∧ NdAt w2 (w.heap.size + 1) k nm a' n c' oc ∧ Below w.heap.size w w2 := by
  have h1 := ndAt_new w k nm a n c oc T
  have h2 := ndAt_new (w.alloc (.cells #[.int .i64 k, .string nm, .slice a n c, .int .i64 oc] T)) k nm a' n c' oc U
  have st : ∀ (x : World) (o : Obj), Below x.heap.size x (x.alloc o) := fun x o => (Below.refl _ _).alloc (Nat.le_refl _) _
  refine ⟨ndAt_go (ndAt_go h1 (st _ _)) hb, ?_, ?_⟩
  · have := ndAt_go h2 hb
    simpa using this
  · exact (((Below.refl w.heap.size w).alloc (Nat.le_refl _) _).alloc (by simp) _).trans (hb.mono (by simp; omega))
def EQP (w w' : World) (b o b' o' : Nat) (D : Pn) (k : Nat) (ad : Option Addr) (cp : Nat) (ad' : Option Addr) (cp' : Nat) : Prop := Below w.heap.size w w' ∧ (b < w.heap.size ∧ b' < w.heap.size) ∧
  PnCells w' b o D k ad cp ∧ PnCells w' b' o' D k ad' cp' ∧ RowAt .i64 w' ad (D.KL k) w.heap.size ∧ RowAt .i64 w' ad' (D.KL k) w.heap.size
section
variable {w w1 w2 : World} {b o b' o' : Nat} {D : Pn} {k : Nat} {ad : Option Addr} {cp : Nat} {ad' : Option Addr} {cp' : Nat}
theorem eqp_go (x : EQP w w1 b o b' o' D k ad cp ad' cp') (h : Below w1.heap.size w1 w2) : EQP w w2 b o b' o' D k ad cp ad' cp' := by
  obtain ⟨hb, ⟨h1, h2⟩, c1, c2, r1, r2⟩ := x
  have hh := h.mono hb.size
  exact ⟨hb.trans hh, ⟨h1, h2⟩, pnCells_go c1 h1 hh, pnCells_go c2 h2 hh, rwAt_go r1 hh, rwAt_go r2 hh⟩
theorem eqp_drew (x : EQP w w1 b o b' o' D k ad cp ad' cp') : EQP w w1.drew b o b' o' D k ad cp ad' cp' := eqp_go x ⟨rfl, rfl, rfl, Nat.le_refl _, fun _ _ => rfl⟩
theorem eqp_all (x : EQP w w1 b o b' o' D k ad cp ad' cp') : EQP w w1 b o b' o' D k ad cp ad' cp' ∧ (w1.cell? ⟨b, o, none⟩ = some (.int .i64 (D.K k)) ∧ w1.cell? ⟨b, o + 1, none⟩ = some (.string (D.NM k)) ∧ w1.cell? ⟨b, o + 2, none⟩ = some (.slice ad (D.KL k).length cp) ∧ w1.cell? ⟨b, o + 3, none⟩ = some (.int .i64 (D.OC k))) ∧ w1.cell? ⟨b', o', none⟩ = some (.int .i64 (D.K k)) ∧ w1.cell? ⟨b', o' + 1, none⟩ = some (.string (D.NM k)) ∧ w1.cell? ⟨b', o' + 2, none⟩ = some (.slice ad' (D.KL k).length cp') ∧ w1.cell? ⟨b', o' + 3, none⟩ = some (.int .i64 (D.OC k)) := ⟨x, x.2.2.1, x.2.2.2.1⟩
theorem eqp_r1 (x : EQP w w1 b o b' o' D k ad cp ad' cp') : RowAt .i64 w1 ad (D.KL k) w1.heap.size := rwAt_up x.2.2.2.2.1 x.1.size
theorem eqp_r2 (x : EQP w w1 b o b' o' D k ad cp ad' cp') : RowAt .i64 w1 ad' (D.KL k) w1.heap.size := rwAt_up x.2.2.2.2.2 x.1.size
end
end Go.Proofs.YtfohfljdgmlibaaDoor

/-
  Contract: the text of a model, by the specification.
-/
namespace Go.Proofs.YtfohfljdgmlibaaDoor
open Go.RowKit Go.Joins
set_option linter.unusedVariables false
set_option linter.unusedSimpArgs false
theorem ret_s9 {a b : ByteArray} (h : a = b) : Ending.returned (.string a) = .returned (.string b) := by rw [h]
theorem bl (s : ByteArray) : s.data.toList.length = s.size := by simp
theorem bl_app (a b : ByteArray) : (a ++ b).data.toList = a.data.toList ++ b.data.toList := by rw [ByteArray.data_append, Array.toList_append]
/-- What the text of a right model leans on. -/
def RM (D : Pn) (n : Nat) : Prop := D.n = n ∧ n ≤ 40 ∧ (∀ j, j < n → nodeB D j = true) ∧ (∀ j, j < n → ∀ k, k ∈ D.KL j → 0 ≤ k ∧ k < (j : Int)) ∧ (∀ j, j < n → ∃ c, tr D j = some c) ∧ ∀ j, j < n → (D.KL j).length ≤ 1048576
theorem rm_of {D : Pn} {n : Nat} (hD : D.n = n) (h : pkB D = true) (hz : pnTot D ≤ 1048576) : RM D n := by
  obtain ⟨h1, h2, -⟩ := pk_facts h
  have h3 := pk_lo h
  rw [hD] at h1 h2 h3
  exact ⟨hD, h1.2, h2, fun j hj => (h3 j hj).2, fun j hj => (h3 j hj).1, fun j hj => ((pn_sz hz).2 j (by rw [hD]; exact hj)).2⟩
theorem rm_kids {D : Pn} {n : Nat} (h : RM D n) {i : Nat} (hi : i < n) : totL ((D.KL i).map fun k => mt D k.toNat) ≤ 2000 := by
  obtain ⟨h1, h2, h3, h4, h5, -⟩ := h
  obtain ⟨c, hc⟩ := h5 i hi
  have := mt_kids (D := D) (by rw [h1]; exact h3) (by rw [h1]; exact h4) (by rw [h1]; exact hi) hc
  omega
theorem rm_eq {D : Pn} {n : Nat} (h : RM D n) {i : Nat} (hi : i < n) : mt D i = bdP (D.K i) (D.NM i) ((D.KL i).map fun k => mt D k.toNat) ++ sgP (D.OC i) := mt_eq (fun j hj => h.2.2.2.1 j (by omega))
theorem rm_kinds {D : Pn} {n : Nat} (h : RM D n) {i : Nat} (hi : i < n) : D.K i = 1 ∨ D.K i = 2 ∨ D.K i = 3 ∨ D.K i = 4 := nd_kinds (h.2.2.1 i hi)
theorem rm_name {D : Pn} {n : Nat} (h : RM D n) {i : Nat} (hi : i < n) (hk : D.K i = 1) : (D.NM i).size ≤ 40 := nd_name (h.2.2.1 i hi) hk
/-- What stands in a group's text behind m kids. -/
def grP (k : Int) (ts : List (List UInt8)) (m : Nat) : List UInt8 := [40] ++ Lib.join (ts.take m) (sepP k)
theorem gr_next (k : Int) (ts : List (List UInt8)) (m : Nat) (h : m < ts.length) (hm : m ≠ 0) : grP k ts (m + 1) = grP k ts m ++ sepP k ++ ts[m]?.getD [] := by
  unfold grP
  rw [join_take _ _ _ h, if_neg hm]
  simp only [List.append_assoc]
theorem gr_first (k : Int) (ts : List (List UInt8)) (h : 0 < ts.length) : grP k ts 1 = grP k ts 0 ++ ts[0]?.getD [] := by
  unfold grP
  rw [join_take _ _ _ h, if_pos rfl]
  simp [Lib.join_nil]
theorem gr_len (k : Int) (ts : List (List UInt8)) (m : Nat) : (grP k ts m).length ≤ 1 + totL ts := by
  have h1 := join_tot (sepP k) (sep_len _) (ts.take m)
  have h2 := tot_take ts m
  unfold grP
  rw [List.length_append, List.length_cons, List.length_nil]
  omega
end Go.Proofs.YtfohfljdgmlibaaDoor

/-
  Contracts: the text of a model, by the program.
-/
namespace Go.Proofs.YtfohfljdgmlibaaDoor
open Go.RowKit Go.Joins
set_option linter.unusedVariables false
set_option linter.unusedSimpArgs false
theorem infoStr : (Tryd.prog.info? 9).map (fun i => (i.zero, i.size, i.bytes)) = some (some (.string ByteArray.empty), 1, 16) := by kernel_rfl
/-- A row of texts in memory of one's own. -/
def StrR (B : Nat) (w : World) (ad : Option Addr) (c : Nat) (L : List ByteArray) : Prop := w.ownsRow B 9 1 (.slice ad L.length c) L.length (L.map Value.string)
theorem strR_nil (B : Nat) (w : World) : StrR B w none 0 [] := ⟨rfl, .inl ⟨rfl, rfl⟩⟩
theorem strR_put {B : Nat} {w2 : World} {ad : Option Addr} {c : Nat} {L : List ByteArray} {z : ByteArray} (h : w2.ownsRow B 9 1 (.slice ad (L.length + 1) c) (L.length + 1) (L.map Value.string ++ [.string z])) : StrR B w2 ad c (L ++ [z]) := by
  unfold StrR
  rw [List.length_append, List.length_singleton, List.map_append]
  exact h
theorem strR_cells {B : Nat} {w : World} {ad : Option Addr} {c : Nat} {L : List ByteArray} (h : StrR B w ad c L) (h0 : L ≠ []) : ∃ g, ad = some ⟨g, 0, none⟩ ∧ g < w.heap.size ∧ L.length ≤ c ∧ ∀ (j : Nat) x, L[j]? = some x → w.cell? ⟨g, 0 + j, none⟩ = some (.string x) := by
  have h9 := h
  obtain ⟨hl, h⟩ := h
  rcases h with ⟨-, hz⟩ | ⟨g, cap, cur, hv, hB, hh, hcap, -⟩
  · exact absurd (List.length_eq_zero_iff.1 hz) h0
  · simp only [Value.slice.injEq] at hv
    obtain ⟨rfl, -, rfl⟩ := hv
    refine ⟨g, rfl, (Array.getElem?_eq_some_iff.1 hh).1, by omega, fun j x hx => ?_⟩
    have hj : j < L.length := by
      rcases Nat.lt_or_ge j L.length with h | h
      · exact h
      · rw [List.getElem?_eq_none h] at hx; cases hx
    rw [Nat.zero_add]
    unfold StrR at h9
    rw [h9.cellAt j (by omega), List.getElem?_map, hx]
    rfl
def mtB (D : Pn) (k : Int) : ByteArray := ⟨(mt D k.toNat).toArray⟩
theorem mtB_map (D : Pn) (L : List Int) : (L.map (mtB D)).map (·.data.toList) = L.map fun (k : Int) => mt D k.toNat := by
  rw [List.map_map]
  rfl
theorem sg_cut (OC : Int) (h : 1 ≤ OC ∧ OC ≤ 3) : ((⟨#[63, 42, 43]⟩ : ByteArray).extract (OC - 1).toNat OC.toNat).data.toList = sgP OC := by
  obtain ⟨h1, h2⟩ := h
  have : OC = 1 ∨ OC = 2 ∨ OC = 3 := by omega
  rcases this with rfl | rfl | rfl <;> decide
theorem nd_oc {k : Int} {nm : ByteArray} {n : Nat} {oc : Int} (h : ndB k nm n oc = true) : 0 ≤ oc ∧ oc ≤ 3 := by
  unfold ndB at h
  simp only [Bool.and_eq_true, decide_eq_true_eq] at h
  exact h.1
end Go.Proofs.YtfohfljdgmlibaaDoor
