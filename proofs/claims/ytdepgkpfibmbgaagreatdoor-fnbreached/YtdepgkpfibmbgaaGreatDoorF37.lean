/-
  Texts put together: BrS, BrT, PlR.
-/
import Derived.Test.YtdepgkpfibmbgaaGreatDoorF35
import Derived.Maps.Own
import Derived.Maps.OwnOps
import Derived.Maps.OwnSet
import Derived.Maps.Views
import Derived.DeepKeys4
import Derived.Laws.CopyOwn
import Derived.Test.YtdepgkpfibmbgaaGreatDoorF7
/-
  Contracts of the program: sets of rows (maps whose keys are structs of four texts).
-/
namespace Go.Proofs.YtdepgkpfibmbgaaGreatDoor
open Go.RowKit Go.Joins Go.Maps
set_option linter.unusedVariables false
set_option linter.unusedSimpArgs false
/-- A row as a key. -/
def rkV (r : List ByteArray) : Value := .agg #[.string (r[0]?.getD ⟨#[]⟩), .string (r[1]?.getD ⟨#[]⟩), .string (r[2]?.getD ⟨#[]⟩), .string (r[3]?.getD ⟨#[]⟩)]
theorem rk_inj {r s : List ByteArray} (hl : r.length = s.length) (h4 : r.length ≤ 4) (h : rkV r = rkV s) : r = s := by
  unfold rkV at h
  simp only [Value.agg.injEq, Array.mk.injEq, List.cons.injEq, Value.string.injEq, and_true] at h
  obtain ⟨h0, h1, h2, h3⟩ := h
  refine List.ext_getElem hl (fun i hi hj => ?_)
  match i, hi, hj with
  | 0, hi, hj => rw [List.getElem?_eq_getElem hi, List.getElem?_eq_getElem hj] at h0; exact h0
  | 1, hi, hj => rw [List.getElem?_eq_getElem hi, List.getElem?_eq_getElem hj] at h1; exact h1
  | 2, hi, hj => rw [List.getElem?_eq_getElem hi, List.getElem?_eq_getElem hj] at h2; exact h2
  | 3, hi, hj => rw [List.getElem?_eq_getElem hi, List.getElem?_eq_getElem hj] at h3; exact h3
  | i + 4, hi, hj => omega
theorem laidR : laidOutB Tryz.prog = true := by kernel_rfl
theorem rowR : (183 : TypeId) < Tryz.prog.types.size := of_decide_eq_true (by kernel_rfl)
theorem wideR : (match Tryz.prog.underlying 183 with | some (.array _ _) | some (.struct _) => true | _ => false) = true := by kernel_rfl
set_option maxRecDepth 100000 in
theorem lawR : Keyed Tryz.prog 183 := Keyed.of_law (deep_law_laid laidR (m := 3) (by omega) rowR (by kernel_rfl) wideR)
theorem zeroR (w : World) : (zeroValue 153).run Tryz.prog w = .ok (.agg #[]) w := by kernel_rfl
theorem isR : ∃ fs, Tryz.prog.underlying 183 = some (.struct fs) := ⟨_, Tryz.underlying183⟩
theorem ktR : Tryz.prog.keyType 183 = true := by kernel_rfl
/-- All texts of a row are short enough. -/
def SzR (r : List ByteArray) : Prop := ∀ v ∈ r, v.size ≤ maxLen
theorem sz_at {r : List ByteArray} (h : SzR r) (i : Nat) : (r[i]?.getD ⟨#[]⟩).size ≤ maxLen := by
  by_cases hi : i < r.length
  · rw [List.getElem?_eq_getElem hi]; exact h _ (List.getElem_mem hi)
  · rw [List.getElem?_eq_none (by omega)]; exact Nat.zero_le _
theorem cellsR : Tryz.prog.cellsOf 183 = 4 := by kernel_rfl
theorem cellsA : Tryz.prog.cellsOf 181 = 4 := by kernel_rfl
theorem cellsS : Tryz.prog.cellsOf 9 = 1 := by kernel_rfl
set_option pp.maxSteps 100000
theorem key4 (a b c d : ByteArray) (ha : a.size ≤ maxLen) (hb : b.size ≤ maxLen) (hc : c.size ≤ maxLen) (hd : d.size ≤ maxLen) : ∃ l, keyOf Tryz.prog 183 (.agg #[.string a, .string b, .string c, .string d]) = some l := by
  obtain ⟨m, hm⟩ : ∃ m, Tryz.prog.types.size + 1 = m + 3 := ⟨Tryz.prog.types.size - 2, by have h : (183 : Nat) < Tryz.prog.types.size := rowR; omega⟩
  unfold keyOf
  rw [hm]
  simp [Tryz.underlying183, Tryz.underlying181, Tryz.underlying9, ktR, Value.formed, cellsR, cellsA, cellsS, Program.keyLits, Value.cells, show List.range 4 = [0, 1, 2, 3] from rfl, ha, hb, hc, hd]
noncomputable def rkL (r : List ByteArray) : Lit := (keyOf Tryz.prog 183 (rkV r)).getD .nil
theorem rk_key {r : List ByteArray} (h : SzR r) : keyOf Tryz.prog 183 (rkV r) = some (rkL r) := by
  obtain ⟨l, hl⟩ := key4 _ _ _ _ (sz_at h 0) (sz_at h 1) (sz_at h 2) (sz_at h 3)
  have hl2 : keyOf Tryz.prog 183 (rkV r) = some l := hl
  unfold rkL
  rw [hl2]
  rfl
theorem rkL_inj {r s : List ByteArray} (hr : SzR r) (hs : SzR s) (h : rkL r = rkL s) : rkV r = rkV s := lawR.inj (rk_key hr) (by rw [h]; exact rk_key hs)
theorem rkL_same {r s : List ByteArray} (h : rkV r = rkV s) : rkL r = rkL s := by unfold rkL; rw [h]
/-- A set of the first k rows of a table, in memory. -/
def RS (w : World) (b : Nat) (T : List (List ByteArray)) (k : Nat) : Prop := ∃ D : DataW Unit, w.ownsMap Tryz.prog 183 unitElem b k D ∧ Tidy D ∧ (∀ r, SzR r → (Maps.has D (rkL r) = true ↔ ∃ j, j < k ∧ rkV (T[j]?.getD []) = rkV r)) ∧ Maps.size D ≤ k ∧ (Maps.size D = k ↔ ∀ a c, c < a → a < k → rkV (T[a]?.getD []) ≠ rkV (T[c]?.getD []))
theorem rs_made {w : World} {b : Nat} {T : List (List ByteArray)} (h : w.ownsMap (H := Unit) Tryz.prog 183 unitElem b 0 (.map [])) : RS w b T 0 :=
  ⟨_, h, tidy_empty, fun r _ => ⟨fun h => (by cases h), fun h => (by obtain ⟨j, h, -⟩ := h; omega)⟩, Nat.le_refl _, ⟨fun _ a c _ h => by omega, fun _ => rfl⟩⟩
set_option maxRecDepth 100000 in
theorem rs_put {w : World} {b k : Nat} {T : List (List ByteArray)} {D : DataW Unit} {r : List ByteArray} (h : w.ownsMap Tryz.prog 183 unitElem b (k + 1) (D.put (rkL r) (.agg []))) (hT : Tidy D) (hh : ∀ r, SzR r → (Maps.has D (rkL r) = true ↔ ∃ j, j < k ∧ rkV (T[j]?.getD []) = rkV r)) (hs : Maps.size D ≤ k) (hd : Maps.size D = k ↔ ∀ a c, c < a → a < k → rkV (T[a]?.getD []) ≠ rkV (T[c]?.getD [])) (hr : T[k]?.getD [] = r) (hz : SzR r) : RS w b T (k + 1) := by
  have hkey := lawR.key (rk_key hz)
  have hsz := size_put (k := rkL r) hT (.agg [])
  refine ⟨_, h, hT.put hkey _, fun s hsz2 => ?_, ?_, ?_⟩
  · by_cases e : rkV s = rkV r
    · rw [rkL_same e, has_put_same hT.isMap hkey]
      exact ⟨fun _ => ⟨k, by omega, by rw [hr]; exact e.symm⟩, fun _ => rfl⟩
    · rw [has_put_other (fun h9 => e (rkL_inj hsz2 hz h9)), hh s hsz2]
      constructor
      · rintro ⟨j, h1, h2⟩; exact ⟨j, by omega, h2⟩
      · rintro ⟨j, h1, h2⟩
        by_cases e2 : j = k
        · subst e2; rw [hr] at h2; exact absurd h2.symm e
        · exact ⟨j, by omega, h2⟩
  · rw [hsz]; split <;> omega
  · rw [hsz]
    cases e : Maps.has D (rkL r)
    · rw [if_neg (by decide)]
      have hno : ¬ ∃ j, j < k ∧ rkV (T[j]?.getD []) = rkV r := fun h9 => by rw [← hh r hz, e] at h9; cases h9
      constructor
      · intro h9 a c hca hak
        by_cases e2 : a = k
        · subst e2
          intro h8
          exact hno ⟨c, hca, by rw [← h8, hr]⟩
        · exact hd.1 (by omega) a c hca (by omega)
      · intro h9
        have := hd.2 (fun a c h1 h2 => h9 a c h1 (by omega))
        omega
    · rw [if_pos rfl]
      obtain ⟨j, hj, hv⟩ := (hh r hz).1 e
      constructor
      · intro h9; omega
      · intro h9
        exact absurd (by rw [hr]; exact hv.symm) (h9 k j hj (by omega))
theorem rs_lt {w : World} {b k : Nat} {T : List (List ByteArray)} (h : RS w b T k) : b < w.heap.size := by obtain ⟨D, h1, -⟩ := h; exact h1.lt
theorem rs_go {w w' : World} {b k : Nat} {T : List (List ByteArray)} (h : RS w b T k) (hb : Below w.heap.size w w') : RS w' b T k := by
  obtain ⟨D, h1, h2⟩ := h
  have hlt := h1.lt
  obtain ⟨es, clock, hb1, F, hs, hD⟩ := h1
  exact ⟨D, ⟨es, clock, (hb.block b hlt).trans hb1, F, hs, hD⟩, h2⟩
theorem splice4 (r : List ByteArray) (h : r.length ≤ 4) : splice [Value.string ⟨#[]⟩, .string ⟨#[]⟩, .string ⟨#[]⟩, .string ⟨#[]⟩] 0 (r.map Value.string) = [.string (r[0]?.getD ⟨#[]⟩), .string (r[1]?.getD ⟨#[]⟩), .string (r[2]?.getD ⟨#[]⟩), .string (r[3]?.getD ⟨#[]⟩)] := by
  match r, h with
  | [], _ => rfl
  | [a], _ => rfl
  | [a, b], _ => rfl
  | [a, b, c], _ => rfl
  | [a, b, c, d], _ => rfl
  | a :: b :: c :: d :: e :: l, h => simp at h
theorem own_src {w : World} {B k rc : Nat} {ra : Option Addr} {r : List ByteArray} (hk : r.length = k) (hr : w.ownsRow B 9 1 (.slice ra k rc) k (r.map Value.string)) (h0 : 0 < k) : ∃ g, ra = some ⟨g, 0, none⟩ ∧ g < w.heap.size ∧ ∀ (W : World), Below w.heap.size w W → ∀ (j : Nat) (v : Value), (r.map Value.string)[j]? = some v → W.cell? ((⟨g, 0, none⟩ : Addr).add j) = some v := by
  have h2 := hr
  rcases hr.2 with ⟨e, hz⟩ | ⟨g, cap, cur, e, -, hg, -⟩
  · omega
  · simp only [Value.slice.injEq] at e
    obtain ⟨rfl, -⟩ := e
    have hgl := (Array.getElem?_eq_some_iff.1 hg).1
    refine ⟨g, rfl, hgl, fun W hW j v hv => ?_⟩
    have hj : j < (r.map Value.string).length := (List.getElem?_eq_some_iff.1 hv).1
    rw [List.length_map] at hj
    have h3 := h2.cellAt j (by omega)
    have h4 : W.cell? ⟨g, j, none⟩ = w.cell? ⟨g, j, none⟩ := hW.cell (p := ⟨g, j, none⟩) hgl
    rw [show (⟨g, 0, none⟩ : Addr).add j = ⟨g, j, none⟩ from by
      unfold Addr.add
      simp only [Nat.zero_add]
      split
      · rename_i e; rw [e]
      · rfl, h4, h3]
    exact hv
theorem one_cells (r : List ByteArray) : ∀ v ∈ r.map Value.string, v.oneCell' = true := by
  intro v hv
  obtain ⟨s, -, rfl⟩ := List.mem_map.1 hv
  rfl
set_option maxRecDepth 100000 in
set_option maxHeartbeats 4000000 in
theorem i_rowKey (B k rc : Nat) (ra : Option Addr) (r : List ByteArray) (w : World) (hk : r.length = k) (h4 : k ≤ 4) (hr : w.ownsRow B 9 1 (.slice ra k rc) k (r.map Value.string)) :
    Calls Tryz.prog 141 #[.slice ra k rc] w fun e w' => e = .returned (rkV r) ∧ Below w.heap.size w w' := by
  have HS := hide (fun h0 => own_src hk hr h0)
  have HSP := hide (splice4 r (by omega))
  have H1 := hide (one_cells r)
  have HL : Hid ((r.map Value.string).length = k) := hide (by rw [List.length_map]; exact hk)
  unfold rkV
  obtain ⟨cs, hcs⟩ : ∃ cs, r.map Value.string = cs := ⟨_, rfl⟩
  rw [hcs] at HS HSP H1 HL
  obtain ⟨r0, h0⟩ : ∃ r0, r[0]?.getD ⟨#[]⟩ = r0 := ⟨_, rfl⟩
  obtain ⟨r1, h1⟩ : ∃ r1, r[1]?.getD ⟨#[]⟩ = r1 := ⟨_, rfl⟩
  obtain ⟨r2, h2⟩ : ∃ r2, r[2]?.getD ⟨#[]⟩ = r2 := ⟨_, rfl⟩
  obtain ⟨r3, h3⟩ : ∃ r3, r[3]?.getD ⟨#[]⟩ = r3 := ⟨_, rfl⟩
  rw [h0, h1, h2, h3] at HSP
  rw [h0, h1, h2, h3]
  clear hr hcs h0 h1 h2 h3 hk
  have HG : Hid (((w.alloc (.cells #[.string ⟨#[]⟩, .string ⟨#[]⟩, .string ⟨#[]⟩, .string ⟨#[]⟩] 183)).alloc (.cells #[.string ⟨#[]⟩, .string ⟨#[]⟩, .string ⟨#[]⟩, .string ⟨#[]⟩] 183)).heap[w.heap.size + 1]? = some (.cells [Value.string ⟨#[]⟩, .string ⟨#[]⟩, .string ⟨#[]⟩, .string ⟨#[]⟩].toArray 183 (0, 0))) := hide (by
    have h9 := heap_alloc_new (w.alloc (.cells #[.string ⟨#[]⟩, .string ⟨#[]⟩, .string ⟨#[]⟩, .string ⟨#[]⟩] 183)) (.cells #[.string ⟨#[]⟩, .string ⟨#[]⟩, .string ⟨#[]⟩, .string ⟨#[]⟩] 183)
    simpa using h9)
  have HN : Hid (cs.length = Nat.min k 4) := hide (by rw [HL.out]; show k = min k 4; omega)
  have HP : Hid (0 < cs.length → ∃ ad, ra = some ad ∧ ∀ (j : Nat) (v : Value), cs[j]? = some v → ((w.alloc (.cells #[.string ⟨#[]⟩, .string ⟨#[]⟩, .string ⟨#[]⟩, .string ⟨#[]⟩] 183)).alloc (.cells #[.string ⟨#[]⟩, .string ⟨#[]⟩, .string ⟨#[]⟩, .string ⟨#[]⟩] 183)).cell? (ad.add j) = some v) := hide (fun h0 => by
    rw [HL.out] at h0
    obtain ⟨g, rfl, hg, hc⟩ := HS.out h0
    exact ⟨_, rfl, hc _ (((Below.refl _ _).alloc (Nat.le_refl _) _).alloc (by simp) _)⟩)
  have HF : Hid (0 + cs.length ≤ [Value.string ⟨#[]⟩, .string ⟨#[]⟩, .string ⟨#[]⟩, .string ⟨#[]⟩].length) := hide (by rw [HL.out]; show 0 + k ≤ 4; omega)
  have HBA : Hid (Below (w.heap.size + 1) (w.alloc (.cells #[.string ⟨#[]⟩, .string ⟨#[]⟩, .string ⟨#[]⟩, .string ⟨#[]⟩] 183)) ((w.alloc (.cells #[.string ⟨#[]⟩, .string ⟨#[]⟩, .string ⟨#[]⟩, .string ⟨#[]⟩] 183)).alloc (.cells #[.string ⟨#[]⟩, .string ⟨#[]⟩, .string ⟨#[]⟩, .string ⟨#[]⟩] 183))) := hide (by
    have h9 := (Below.refl (w.alloc (.cells #[.string ⟨#[]⟩, .string ⟨#[]⟩, .string ⟨#[]⟩, .string ⟨#[]⟩] 183)).heap.size (w.alloc (.cells #[.string ⟨#[]⟩, .string ⟨#[]⟩, .string ⟨#[]⟩, .string ⟨#[]⟩] 183))).alloc (Nat.le_refl _) (.cells #[.string ⟨#[]⟩, .string ⟨#[]⟩, .string ⟨#[]⟩, .string ⟨#[]⟩] 183)
    simpa using h9)
  clear HS HL
  go_enter Tryz.func141, Tryz.ntmps141
  go_wp2_with (refine wpList_copy_splice rfl (.tmp 5) (.tmp 6) 25 25 rfl 9 Tryz.underlying25 (by kernel_rfl) (some ⟨w.heap.size + 1, 0, none⟩) ra 4 4 k rc rfl rfl (w.heap.size + 1) 0 [.string ⟨#[]⟩, .string ⟨#[]⟩, .string ⟨#[]⟩, .string ⟨#[]⟩] 183 HG.out cs HN.out (fun h9 => ⟨rfl, HP.out h9⟩) HF.out H1.out (w.heap.size + 1) (w.alloc (.cells #[.string ⟨#[]⟩, .string ⟨#[]⟩, .string ⟨#[]⟩, .string ⟨#[]⟩] 183)) HBA.out (Nat.le_refl _) ?_; intro w3 hg3 hb3; have hg4 := hg3.out; rw [HSP.out] at hg4; have HC3 : Hid (CellsAt w3 (w.heap.size + 1) #[.string r0, .string r1, .string r2, .string r3]) := hide ⟨_, hg4⟩; have HR3 : Hid (CellsAt w3 w.heap.size #[.string ⟨#[]⟩, .string ⟨#[]⟩, .string ⟨#[]⟩, .string ⟨#[]⟩]) := hide (cellsAt_go (cellsAt_new w _ _) hb3 (by omega)); have HB3 : Hid (Below w.heap.size w w3) := hide (((Below.refl _ _).alloc (Nat.le_refl _) _).trans (hb3.mono (by omega))); clear hg3 hg4 hb3; have c0 : w3.cell? ⟨w.heap.size + 1, 0, none⟩ = some (.string r0) := cellsAt_cell HC3.out 0; have c1 : w3.cell? ⟨w.heap.size + 1, 1, none⟩ = some (.string r1) := cellsAt_cell HC3.out 1; have c2 : w3.cell? ⟨w.heap.size + 1, 2, none⟩ = some (.string r2) := cellsAt_cell HC3.out 2; have c3 : w3.cell? ⟨w.heap.size + 1, 3, none⟩ = some (.string r3) := cellsAt_cell HC3.out 3; have z0 : w3.cell? ⟨w.heap.size, 0, none⟩ = some (.string ⟨#[]⟩) := cellsAt_cell HR3.out 0; have z1 : w3.cell? ⟨w.heap.size, 1, none⟩ = some (.string ⟨#[]⟩) := cellsAt_cell HR3.out 1; have z2 : w3.cell? ⟨w.heap.size, 2, none⟩ = some (.string ⟨#[]⟩) := cellsAt_cell HR3.out 2; have z3 : w3.cell? ⟨w.heap.size, 3, none⟩ = some (.string ⟨#[]⟩) := cellsAt_cell HR3.out 3; have zf := cellsAt_frozen HR3.out; have hl1 : w.heap.size + 1 < w3.heap.size := cellsAt_lt HC3.out; have hl0 : w.heap.size < w3.heap.size := by omega)
  have hfin := cellsAt_set (i := 3) (cellsAt_set (i := 2) (cellsAt_set (i := 1) (cellsAt_set (i := 0) HR3.out (.string r0)) (.string r1)) (.string r2)) (.string r3)
  have y0 := cellsAt_cell hfin 0
  have y1 := cellsAt_cell hfin 1
  have y2 := cellsAt_cell hfin 2
  have y3 := cellsAt_cell hfin 3
  exact bodyPost_ret (v := .agg #[.string r0, .string r1, .string r2, .string r3]) (by simp [results, Tryz.results141, go_sem, y0, y1, y2, y3]) rfl ⟨rfl, (((HB3.out.setCell (p := ⟨w.heap.size, 0, none⟩) (Nat.le_refl _) _).setCell (p := ⟨w.heap.size, 1, none⟩) (Nat.le_refl _) _).setCell (p := ⟨w.heap.size, 2, none⟩) (Nat.le_refl _) _).setCell (p := ⟨w.heap.size, 3, none⟩) (Nat.le_refl _) _⟩
end Go.Proofs.YtdepgkpfibmbgaaGreatDoor

/-
  Contracts of the program: the set of a table's rows; are all rows among those of a set?
-/
namespace Go.Proofs.YtdepgkpfibmbgaaGreatDoor
open Go.RowKit Go.Joins Go.Maps
set_option linter.unusedVariables false
set_option linter.unusedSimpArgs false
/-- A table in memory. -/
def TbAt (B : Nat) (w : World) (ta : Option Addr) (k tc : Nat) (T : List (List ByteArray)) : Prop := T.length = k ∧ ∃ cs, w.ownsRow B 25 1 (.slice ta k tc) k cs ∧ RrS B w cs T
theorem tbAt_go {B : Nat} {w w' : World} {ta : Option Addr} {k tc : Nat} {T : List (List ByteArray)} (h : TbAt B w ta k tc T) (hb : Below w.heap.size w w') : TbAt B w' ta k tc T := by
  obtain ⟨h1, cs, h2, h3⟩ := h
  exact ⟨h1, cs, gOwn_after h2 hb, rrs_go h3 hb⟩
theorem tbAt_at {B : Nat} {w : World} {ta : Option Addr} {k tc : Nat} {T : List (List ByteArray)} (h : TbAt B w ta k tc T) (i : Nat) (hi : i < k) : ∃ g a c, ta = some ⟨g, 0, none⟩ ∧ g < w.heap.size ∧ w.cell? ⟨g, i, none⟩ = some (.slice a (T[i]?.getD []).length c) ∧ w.ownsRow B 9 1 (.slice a (T[i]?.getD []).length c) (T[i]?.getD []).length ((T[i]?.getD []).map Value.string) := by
  obtain ⟨h1, cs, h2, h3⟩ := h
  obtain ⟨a, c, h4, h5⟩ := h3.2.1 i (by omega)
  have h6 := h2
  rcases h2.2 with ⟨e, hz⟩ | ⟨g, cap, cur, e, -, hg, -⟩
  · omega
  · simp only [Value.slice.injEq] at e
    obtain ⟨rfl, -⟩ := e
    refine ⟨g, a, c, rfl, (Array.getElem?_eq_some_iff.1 hg).1, ?_, h5⟩
    rw [h6.cellAt i (by omega)]
    exact h4
theorem gOwn_afterB {w w' : World} {B n z : Nat} {e : TypeId} {v : Value} {xs : List Value} (h : w.ownsRow B e z v n xs) (hb : Below w.heap.size w w') : w'.ownsRow B e z v n xs := gOwn_after h hb
/-- The rows are few and short. -/
def RwsOk (T : List (List ByteArray)) : Prop := T.length ≤ 200 ∧ ∀ r ∈ T, r.length ≤ 4 ∧ SzR r
theorem rws_at {T : List (List ByteArray)} (h : RwsOk T) (i : Nat) : (T[i]?.getD []).length ≤ 4 ∧ SzR (T[i]?.getD []) := by
  by_cases hi : i < T.length
  · rw [List.getElem?_eq_getElem hi]; exact h.2 _ (List.getElem_mem hi)
  · rw [List.getElem?_eq_none (by omega)]; exact ⟨Nat.zero_le _, fun v hv => by cases hv⟩
set_option maxRecDepth 100000 in
set_option maxHeartbeats 8000000 in
theorem i_rowsIn (B : Nat) (ta : Option Addr) (k tc : Nat) (T : List (List ByteArray)) (w : World) (hT : TbAt B w ta k tc T) (hz : RwsOk T) :
    Calls Tryz.prog 105 #[.slice ta k tc] w fun e w' => e = .returned (.map (some w.heap.size)) ∧ RS w' w.heap.size T k ∧ Below w.heap.size w w' := by
  have hk2 : k ≤ 200 := by have := hz.1; have := hT.1; omega
  have HT := hide hT
  have HZ := hide hz
  have HM0 : Hid (RS (w.alloc (.map #[] 0)) w.heap.size T 0) := hide (rs_made (World.ownsMap_made w Tryz.prog 183 unitElem))
  clear hT hz
  have hmm := @run_makeMap Tryz.prog
  go_enter Tryz.func105, Tryz.ntmps105
  go_wp2
  go_loopw [9] (fun iv wr => ∃ i : Nat, i ≤ k ∧ iv = .int .i64 i ∧ Hid (RS wr w.heap.size T i) ∧ Hid (Below w.heap.size w wr)) (fun iv _ => k - (intOf iv).toNat)
  case atStart => exact ⟨0, Nat.zero_le _, rfl, HM0, hide ((Below.refl _ _).alloc (Nat.le_refl _) _)⟩
  case round =>
    obtain ⟨i, hik, rfl, HRS, HB⟩ := hrel
    by_cases hlt : i < k
    · have hci : (i : Int) < (k : Int) := by omega
      obtain ⟨g, a, c, hga, hgl, hc, hown⟩ := tbAt_at HT.out i hlt
      obtain ⟨hr4, hrz⟩ := rws_at HZ.out i
      obtain ⟨r, hr⟩ : ∃ r, T[i]?.getD [] = r := ⟨_, rfl⟩
      have HRR := hide hr
      rw [hr] at hc hown hr4 hrz
      obtain ⟨m, hm⟩ : ∃ m, r.length = m := ⟨_, rfl⟩
      rw [hm] at hc hown hr4
      have q0 : wr.cell? ⟨g, i, none⟩ = some (.slice a m c) := (HB.out.cell (p := ⟨g, i, none⟩) hgl).trans hc
      have CK := hide (i_rowKey B m c a r wr hm hr4 (gOwn_afterB hown HB.out))
      have HKEY := hide (rk_key hrz)
      have HRZ := hide hrz
      have hroom : i < maxLen := by unfold maxLen; omega
      subst hga
      clear hr hm hc hown hrz
      go_wp2_with (first
        | (go_at_call 141; refine CK.out.mono ?_; rintro e w5 ⟨rfl, hb5⟩; have HB5 := hide (HB.out.trans (hb5.mono HB.out.size)); obtain ⟨D, h1, h2, h3, h4, h5⟩ := rs_go HRS.out hb5; have HOW := hide h1; have HTI := hide h2; have HHS := hide h3; have HSZ := hide h4; have HDI := hide h5; clear h1 h2 h3 h4 h5 hb5)
        | (at_mapUpdate; refine wpList_mapUpdate_own _ rfl _ _ _ 132 rfl 183 153 lawR Tryz.underlying132 (unitElem (H := Unit)) w.heap.size i D rfl HOW.out hroom _ _ _ rfl rfl HKEY.out _ [] unitElem_mk ?_; intro w6 hown6 hgrow6; have HRS6 := hide (rs_put hown6 HTI.out HHS.out HSZ.out HDI.out HRR.out HRZ.out); have HB6 := hide (HB5.out.grown hgrow6 HB5.out.size (fun q hq => Nat.le_of_eq (Option.some.inj hq))); clear hown6 hgrow6))
      go_roundw
      case rel => exact ⟨i + 1, by omega, by go_num, HRS6, HB6⟩
      case measure => simp [intOf]; omega
    · have hie : i = k := by omega
      subst hie
      go_wp2
      go_ret
      exact ⟨rfl, HRS.out, HB.out⟩
set_option maxRecDepth 100000 in
set_option maxHeartbeats 8000000 in
theorem i_allAmong (B : Nat) (ta : Option Addr) (k tc : Nat) (T : List (List ByteArray)) (b m : Nat) (U : List (List ByteArray)) (w : World) (hT : TbAt B w ta k tc T) (hz : RwsOk T) (hU : RS w b U m) :
    Calls Tryz.prog 106 #[.slice ta k tc, .map (some b)] w fun e w' => (∃ V : Bool, e = .returned (.bool V) ∧ (V = true ↔ ∀ i, i < k → ∃ j, j < m ∧ rkV (U[j]?.getD []) = rkV (T[i]?.getD []))) ∧ Below w.heap.size w w' := by
  have hk2 : k ≤ 200 := by have := hz.1; have := hT.1; omega
  have HT := hide hT
  have HZ := hide hz
  have HU := hide hU
  clear hT hz hU
  go_enter Tryz.func106, Tryz.ntmps106
  go_wp2
  go_loopw [11] (fun iv wr => ∃ i : Nat, i ≤ k ∧ iv = .int .i64 i ∧ Hid (∀ q, q < i → ∃ j, j < m ∧ rkV (U[j]?.getD []) = rkV (T[q]?.getD [])) ∧ Hid (Below w.heap.size w wr)) (fun iv _ => k - (intOf iv).toNat)
  case atStart => exact ⟨0, Nat.zero_le _, rfl, hide (fun q h => by omega), hide (Below.refl _ _)⟩
  case round =>
    obtain ⟨i, hik, rfl, HA, HB⟩ := hrel
    by_cases hlt : i < k
    · have hci : (i : Int) < (k : Int) := by omega
      obtain ⟨g, a, c, hga, hgl, hc, hown⟩ := tbAt_at HT.out i hlt
      obtain ⟨hr4, hrz⟩ := rws_at HZ.out i
      obtain ⟨r, hr⟩ : ∃ r, T[i]?.getD [] = r := ⟨_, rfl⟩
      have HRR := hide hr
      rw [hr] at hc hown hr4 hrz
      obtain ⟨l, hl⟩ : ∃ l, r.length = l := ⟨_, rfl⟩
      rw [hl] at hc hown hr4
      have q0 : wr.cell? ⟨g, i, none⟩ = some (.slice a l c) := (HB.out.cell (p := ⟨g, i, none⟩) hgl).trans hc
      have CK := hide (i_rowKey B l c a r wr hl hr4 (gOwn_afterB hown HB.out))
      have HKEY := hide (rk_key hrz)
      obtain ⟨D, h1, h2, h3, h4, h5⟩ := HU.out
      have hhas := h3 r hrz
      have HOW : Hid (∀ w5, Below w.heap.size w w5 → w5.ownsMap Tryz.prog 183 unitElem b m D) := hide (fun w5 hb5 => by
        obtain ⟨es, clock, hb1, F, hs, hD⟩ := h1
        exact ⟨es, clock, (hb5.block b (Array.getElem?_eq_some_iff.1 hb1).1).trans hb1, F, hs, hD⟩)
      subst hga
      clear hr hl hc hown hrz h1 h2 h3 h4 h5
      cases hf : Maps.has D (rkL r)
      · have HNO : Hid (¬ ∃ j, j < m ∧ rkV (U[j]?.getD []) = rkV (T[i]?.getD [])) := hide (fun h => by rw [HRR.out, ← hhas, hf] at h; cases h)
        clear hhas
        go_wp2_with (first
          | (go_at_call 141; refine CK.out.mono ?_; rintro e w5 ⟨rfl, hb5⟩; have HB5 := hide (HB.out.trans (hb5.mono HB.out.size)); clear hb5)
          | (at_lookup; refine wpList_lookup_own_unit _ rfl _ _ 132 rfl 183 153 lawR Tryz.underlying132 (zeroR _) b m _ rfl (HOW.out _ HB5.out) _ _ rfl HKEY.out ?_; rw [hf]))
        go_ret
        exact ⟨⟨false, rfl, ⟨fun h => (by cases h), fun h => absurd (h i hlt) HNO.out⟩⟩, HB5.out.alloc HB5.out.size _⟩
      · have HA2 : Hid (∀ q, q < i + 1 → ∃ j, j < m ∧ rkV (U[j]?.getD []) = rkV (T[q]?.getD [])) := hide (fun q hq => by
          by_cases e : q = i
          · subst e; rw [HRR.out]; exact hhas.1 hf
          · exact HA.out q (by omega))
        clear hhas
        go_wp2_with (first
          | (go_at_call 141; refine CK.out.mono ?_; rintro e w5 ⟨rfl, hb5⟩; have HB5 := hide (HB.out.trans (hb5.mono HB.out.size)); clear hb5)
          | (at_lookup; refine wpList_lookup_own_unit _ rfl _ _ 132 rfl 183 153 lawR Tryz.underlying132 (zeroR _) b m _ rfl (HOW.out _ HB5.out) _ _ rfl HKEY.out ?_; rw [hf]))
        go_roundw
        case rel => exact ⟨i + 1, by omega, by go_num, HA2, hide (HB5.out.alloc HB5.out.size _)⟩
        case measure => simp [intOf]; omega
    · have hie : i = k := by omega
      subst hie
      go_wp2
      go_ret
      exact ⟨⟨true, rfl, ⟨fun _ => HA.out, fun _ => rfl⟩⟩, HB.out⟩
end Go.Proofs.YtdepgkpfibmbgaaGreatDoor

/-
  Contract: does a key refer right, by the program?
-/
namespace Go.Proofs.YtdepgkpfibmbgaaGreatDoor
open Go.RowKit Go.Joins
set_option linter.unusedVariables false
set_option linter.unusedSimpArgs false
theorem plO_goN {B N : Nat} {w w' : World} {ad : Option Addr} {m c : Nat} {Ps : List Pl} (h : PlO B w ad m c Ps) (hN : ∀ g, ad = some ⟨g, 0, none⟩ → g < N) (hb : Below N w w') : PlO B w' ad m c Ps := by
  obtain ⟨hl, h1, ⟨e, h0⟩ | ⟨g, cap, cur, e, hB, hg, rest⟩⟩ := h
  · exact ⟨hl, h1, .inl ⟨e, h0⟩⟩
  · have e2 := e
    simp only [Value.slice.injEq] at e2
    exact ⟨hl, h1, .inr ⟨g, cap, cur, e, hB, (hb.block g (hN g e2.1)).trans hg, rest⟩⟩
/-- What a plan refers to is right. -/
def RfP (Ps : List Pl) (m : Nat) (x : Ky) : Prop := (x.kd ≠ 3 → x.re = ⟨#[]⟩) ∧ (x.kd = 3 → ∃ j, j < m ∧ (plA Ps j).k.nm = x.re ∧ (plA Ps j).k.kd ≠ 3 ∧ (plA Ps j).k.fl.length = x.fl.length ∧ (plA Ps j).k.on = x.on)
/-- The answer. -/
def RfAns (Ps : List Pl) (m : Nat) (p : Pl) (N : Nat) (w : World) (e : Ending) (w' : World) : Prop := Below N w w' ∧ w.heap.size ≤ w'.heap.size ∧ ∃ (Bv : Bool) (r : Int), e = .returned (.bool Bv) ∧ (Bv = true ↔ RfP Ps m p.k) ∧ CellsAt w' N (plV { p with r := r }).toArray
theorem below_setN {N : Nat} {w : World} (i : Nat) (v : Value) : Below N w (w.setCell ⟨N, i, none⟩ v) := (Below.refl N w).setCell (p := ⟨N, i, none⟩) (Nat.le_refl _) v
theorem rf_set {N : Nat} {w : World} {p : Pl} (h : CellsAt w N (plV p).toArray) (r : Int) : CellsAt (w.setCell ⟨N, 9, none⟩ (.int .i64 r)) N (plV { p with r := r }).toArray := cellsAt_set (i := 9) h (.int .i64 r)
theorem rf_no {Ps : List Pl} {m : Nat} {p : Pl} {N : Nat} {w w' : World} {r : Int} (hb : Below N w w') (hs : w.heap.size ≤ w'.heap.size) (hc : CellsAt w' N (plV { p with r := r }).toArray) (h : ¬ RfP Ps m p.k) : RfAns Ps m p N w (.returned (.bool false)) w' :=
  ⟨hb, hs, false, r, rfl, by constructor; (intro h; cases h); (intro h2; exact absurd h2 h), hc⟩
theorem rf_yes {Ps : List Pl} {m : Nat} {p : Pl} {N : Nat} {w w' : World} {r : Int} (hb : Below N w w') (hs : w.heap.size ≤ w'.heap.size) (hc : CellsAt w' N (plV { p with r := r }).toArray) (h : RfP Ps m p.k) : RfAns Ps m p N w (.returned (.bool true)) w' :=
  ⟨hb, hs, true, r, rfl, ⟨fun _ => h, fun _ => rfl⟩, hc⟩
set_option maxRecDepth 100000 in
set_option maxHeartbeats 4000000 in
theorem i_refers (B : Nat) (ad : Option Addr) (m c : Nat) (Ps : List Pl) (p : Pl) (N : Nat) (w : World) (hP : PlO B w ad m c Ps) (hm : m ≤ 1048576) (hN : ∀ g, ad = some ⟨g, 0, none⟩ → g < N) (hU : ∀ i j, i < m → j < m → (plA Ps i).k.nm = (plA Ps j).k.nm → i = j) (hC : CellsAt w N (plV p).toArray) :
    Calls Tryz.prog 66 #[.pointer (some ⟨N, 0, none⟩), .slice ad m c] w (RfAns Ps m p N w) := by
  have hNl : N < w.heap.size := cellsAt_lt hC
  have HC := hide hC
  have HP := hide hP
  have HU := hide hU
  have HN := hide hN
  clear hP hU hN hC
  obtain ⟨⟨nm, kd, on, pa, fl, re⟩, af, cf, d, a1, n1, c1, fa, fc, r0⟩ := p
  obtain ⟨fm, hfm⟩ : ∃ fm, fl.length = fm := ⟨_, rfl⟩
  have HFM := hide hfm
  have q1 : w.cell? ⟨N, 1, none⟩ = some (.int .i64 kd) := cellsAt_cell HC.out 1
  have q5 : w.cell? ⟨N, 5, none⟩ = some (.string re) := cellsAt_cell HC.out 5
  clear hfm
  by_cases h3 : kd = 3
  · have h3b : (kd != 3) = false := by rw [h3]; rfl
    have H3 := hide h3
    clear h3
    have CP := hide (i_keyAt B ad m c Ps re w HP.out hm)
    go_enter Tryz.func66, Tryz.ntmps66
    go_wp2_with fail
    refine CP.out.mono ?_
    rintro e w2 ⟨⟨r, rfl, hr⟩, hb2⟩
    have hk2 := cellsAt_go HC.out hb2 hNl
    have HP2 := hide (plO_goN HP.out HN.out (hb2.mono (Nat.le_of_lt hNl)))
    have HB2 := hide (hb2.mono (Nat.le_of_lt hNl))
    have hs2 : w.heap.size ≤ w2.heap.size := hb2.size
    have v9 : w2.cell? ⟨N, 9, none⟩ = some (.int .i64 r0) := cellsAt_cell hk2 9
    have vf := cellsAt_frozen hk2
    have HK3 := hide (rf_set hk2 r)
    have HP3 := hide (plO_goN HP2.out HN.out (below_setN (w := w2) 9 (.int .i64 r)))
    have HB3 := hide (HB2.out.trans (below_setN (w := w2) 9 (.int .i64 r)))
    obtain ⟨W, hW⟩ : ∃ W, w2.setCell ⟨N, 9, none⟩ (.int .i64 r) = W := ⟨_, rfl⟩
    rw [hW] at HK3 HP3 HB3
    have hsW : w.heap.size ≤ W.heap.size := by rw [← hW]; simp; exact hs2
    have u9 : W.cell? ⟨N, 9, none⟩ = some (.int .i64 r) := cellsAt_cell HK3.out 9
    clear hb2 hk2
    rcases hr with ⟨rfl, hno⟩ | ⟨j, rfl, hj, hjn⟩
    · have HNO : Hid (¬ RfP Ps m ⟨nm, kd, on, pa, fl, re⟩) := hide (fun h => by
        obtain ⟨j, h1, h2, -⟩ := h.2 H3.out
        exact hno j h1 h2)
      clear hno
      go_wp2
      go_ret
      exact rf_no HB3.out hsW HK3.out HNO.out
    · obtain ⟨g, rfl, hBg, hg, hc⟩ := plO_cell HP3.out j hj
      have hji : (j : Int) < m := by omega
      have hgN := HN.out g rfl
      obtain ⟨p2, hp2⟩ : ∃ p2, plA Ps j = p2 := ⟨_, rfl⟩
      have HPP := hide hp2
      rw [hp2] at hc
      have HJN := hide hjn
      rw [hp2] at HJN
      obtain ⟨⟨onm, okd, oon, opa, ofl, ore⟩, oaf, ocf, od, oa1, on1, oc1, ofa, ofc, orr⟩ := p2
      obtain ⟨om, hom⟩ : ∃ om, ofl.length = om := ⟨_, rfl⟩
      have HOM := hide hom
      have q0 : W.cell? ⟨g, j * 10, none⟩ = some (.string onm) := hc 0 (by decide)
      have q1' : W.cell? ⟨g, j * 10 + 1, none⟩ = some (.int .i64 okd) := hc 1 (by decide)
      have q2 : W.cell? ⟨g, j * 10 + 2, none⟩ = some (.string oon) := hc 2 (by decide)
      have q3 : W.cell? ⟨g, j * 10 + 3, none⟩ = some (.string opa) := hc 3 (by decide)
      have q4 : W.cell? ⟨g, j * 10 + 4, none⟩ = some (.slice oaf ofl.length ocf) := hc 4 (by decide)
      have q5' : W.cell? ⟨g, j * 10 + 5, none⟩ = some (.string ore) := hc 5 (by decide)
      have q6 : W.cell? ⟨g, j * 10 + 6, none⟩ = some (.bool od) := hc 6 (by decide)
      have q7 : W.cell? ⟨g, j * 10 + 7, none⟩ = some (.slice oa1 on1 oc1) := hc 7 (by decide)
      have q8 : W.cell? ⟨g, j * 10 + 8, none⟩ = some (.slice ofa ofl.length ofc) := hc 8 (by decide)
      have q9 : W.cell? ⟨g, j * 10 + 9, none⟩ = some (.int .i64 orr) := hc 9 (by decide)
      have u2 : W.cell? ⟨N, 2, none⟩ = some (.string on) := cellsAt_cell HK3.out 2
      have u8 : W.cell? ⟨N, 8, none⟩ = some (.slice fa fl.length fc) := cellsAt_cell HK3.out 8
      have hNW : N < W.heap.size := cellsAt_lt HK3.out
      rw [hom] at q4 q8
      rw [HFM.out] at u8
      have HW := hide hW
      have hRF : (((okd != 3) && ((oon.toList == on.toList) && ((om : Int) == (fm : Int)))) = true) ↔ RfP Ps m ⟨nm, kd, on, pa, fl, re⟩ := by
        rw [Bool.and_eq_true, Bool.and_eq_true, ba_eq, bne_iff_ne, beq_iff_eq, Int.ofNat_inj]
        constructor
        · rintro ⟨h1, h2, h4⟩
          refine ⟨fun h => absurd H3.out h, fun _ => ⟨j, hj, ?_⟩⟩
          rw [HPP.out]
          exact ⟨HJN.out, h1, by show ofl.length = fl.length; rw [HOM.out, HFM.out]; exact h4, h2⟩
        · intro h
          obtain ⟨i, h1, h2, h4⟩ := h.2 H3.out
          have hij : i = j := HU.out i j h1 hj (by rw [h2, HPP.out]; exact HJN.out.symm)
          subst hij
          rw [HPP.out] at h4
          exact ⟨h4.1, h4.2.2, by rw [← HOM.out, ← HFM.out]; exact h4.2.1⟩
      have HRF := hide hRF
      have HB4 : ∀ o q, Below N w ((W.alloc o).drewN q) := fun o q => (HB3.out.alloc (Nat.le_of_lt hNW) o).trans ⟨rfl, rfl, rfl, Nat.le_refl _, fun _ _ => rfl⟩
      have HK4 : ∀ o q, CellsAt ((W.alloc o).drewN q) N (plV ⟨⟨nm, kd, on, pa, fl, re⟩, af, cf, d, a1, n1, c1, fa, fc, j⟩).toArray := fun o q => cellsAt_go HK3.out (((Below.refl W.heap.size _).alloc (Nat.le_refl _) o).trans ⟨rfl, rfl, rfl, Nat.le_refl _, fun _ _ => rfl⟩) hNW
      have HB5 := hide HB4
      have HK5 := hide HK4
      clear hc hom hRF HB4 HK4 hp2 hjn
      cases e2 : (okd != 3)
      · go_wp2
        go_quiet (fail)
        go_wp2
        go_ret
        exact rf_no (HB5.out _ _) (by simp; omega) (HK5.out _ _) (fun h => by have h9 := HRF.out.2 h; simp [e2] at h9)
      · cases e4 : (oon.toList == on.toList)
        · go_wp2
          go_quiet (fail)
          go_wp2
          go_ret
          exact rf_no (HB5.out _ _) (by simp; omega) (HK5.out _ _) (fun h => by have h9 := HRF.out.2 h; simp [e2, e4] at h9)
        · cases e3 : ((om : Int) == (fm : Int))
          · go_wp2
            go_quiet (fail)
            go_wp2
            go_ret
            exact rf_no (HB5.out _ _) (by simp; omega) (HK5.out _ _) (fun h => by have h9 := HRF.out.2 h; simp [e2, e3, e4] at h9)
          · go_wp2
            go_quiet (fail)
            go_wp2
            go_ret
            exact rf_yes (HB5.out _ _) (by simp; omega) (HK5.out _ _) (HRF.out.1 (by simp [e2, e3, e4]))
  · have h3b : (kd != 3) = true := by rw [bne_iff_ne]; exact h3
    have H3 := hide h3
    clear h3
    by_cases hre : re = ⟨#[]⟩
    · have hre3 : re.toList = [] := by simp [hre, ByteArray.toList_eq]
      have hre2 : re.toList.isEmpty = true := by rw [hre3]; rfl
      have HY : Hid (RfP Ps m ⟨nm, kd, on, pa, fl, re⟩) := hide ⟨fun _ => hre, fun h => absurd h H3.out⟩
      clear hre
      go_enter Tryz.func66, Tryz.ntmps66
      go_wp2
      go_ret
      exact rf_yes (Below.refl _ _) (Nat.le_refl _) HC.out HY.out
    · have hre3 : re.toList ≠ [] := fun e => hre ((ba_eq re ⟨#[]⟩).1 (by simp [e, ByteArray.toList_eq]))
      have hre2 : re.toList.isEmpty = false := by simpa using hre3
      have HY : Hid (¬ RfP Ps m ⟨nm, kd, on, pa, fl, re⟩) := hide (fun h => hre (h.1 H3.out))
      clear hre
      go_enter Tryz.func66, Tryz.ntmps66
      go_wp2
      go_ret
      exact rf_no (Below.refl _ _) (Nat.le_refl _) HC.out HY.out
end Go.Proofs.YtdepgkpfibmbgaaGreatDoor
