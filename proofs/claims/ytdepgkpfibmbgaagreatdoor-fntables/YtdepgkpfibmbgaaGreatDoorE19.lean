/-
  Contract of the draw of a key: whatever the code is, some key of short texts; the reader's own place alone is written.
-/
import Derived.Test.YtdepgkpfibmbgaaGreatDoorE18
import Derived.Test.YtdepgkpfibmbgaaGreatDoorE3
namespace Go.Proofs.YtdepgkpfibmbgaaGreatDoor
open Go.RowKit Go.Joins
set_option linter.unusedVariables false
set_option linter.unusedSimpArgs false
def TX (x : Value) : Prop := ∃ t : ByteArray, t.size ≤ 8 ∧ x = .string t
def TX4 (x : Value) : Prop := ∃ t : ByteArray, t.size ≤ 4 ∧ x = .string t
theorem wrap_k (x : Int) (h0 : 0 ≤ x) (h1 : x < 3) : IntKind.i64.wrap (1 + x) = 1 + x := by rw [IntKind.wrap_i64]; omega
def KD (x : Value) : Prop := ∃ y : Int, x = .int .i64 y ∧ 1 ≤ y ∧ y ≤ 3
def BLk (m : Int) (x : Value) : Prop := ∃ y : Int, x = .int .i64 y ∧ 0 ≤ y ∧ y < m
/-- A row of short texts that was built. -/
def SLk (N : Nat) (x : Value) (w : World) : Prop := ∃ (B : Nat) (xs : Array Value), x = .slice (some ⟨B, 0, none⟩) N N ∧ w.heap[B]? = some (.cells xs 9 (0, 0)) ∧ xs.size = N ∧ ∀ k, k < N → ∃ t : ByteArray, xs[k]? = some (.string t) ∧ t.size ≤ 8
def ADk (x : Value) (w : World) : Prop := ∃ (B o : Nat) (xs : Array Value) (t : ByteArray), x = .pointer (some ⟨B, o, none⟩) ∧ w.heap[B]? = some (.cells xs 9 (0, 0)) ∧ xs[o]? = some (.string t) ∧ t.size ≤ 8
/-- A row of one short text of the call's own. -/
def F1 (w0 : World) (x : Value) (w : World) : Prop := ∃ ad cp t, x = .slice ad 1 cp ∧ t.size ≤ 8 ∧ w.ownsRow w0.heap.size 9 1 (.slice ad 1 cp) 1 [.string t]
def KOk (nm : ByteArray) (kd : Int) (on pa re : ByteArray) : Prop := nm.size ≤ 8 ∧ on.size ≤ 8 ∧ pa.size ≤ 8 ∧ re.size ≤ 8 ∧ 0 ≤ kd ∧ kd ≤ 3
def AGk (w0 : World) (x : Value) (w : World) : Prop := ∃ t1 x2 t3 t4 ad cp t5, x = .agg #[.string t1, .int .i64 x2, .string t3, .string t4, .slice ad 1 cp, .string ⟨#[]⟩] ∧ KOk t1 x2 t3 t4 ⟨#[]⟩ ∧ t5.size ≤ 8 ∧ w.ownsRow w0.heap.size 9 1 (.slice ad 1 cp) 1 [.string t5]
/-- A key of short texts lies in block 'B'; the row of its fields, at most 'b', is the call's own. -/
def KE (b : Nat) (w0 : World) (w : World) (B : Nat) (nm : ByteArray) (kd : Int) (on pa : ByteArray) (ad : Option Addr) (fl : List ByteArray) (cp : Nat) (re : ByteArray) : Prop := w.heap[B]? = some (.cells #[.string nm, .int .i64 kd, .string on, .string pa, .slice ad fl.length cp, .string re] 27 (0, 0)) ∧ KOk nm kd on pa re ∧ fl.length ≤ b ∧ (∀ t ∈ fl, t.size ≤ 8) ∧ w.ownsRow w0.heap.size 9 1 (.slice ad fl.length cp) fl.length (fl.map Value.string)
def KSh (w0 : World) (w : World) (B : Nat) : Prop := ∃ (nm : ByteArray) (kd : Int) (on pa : ByteArray) (ad : Option Addr) (fl : List ByteArray) (cp : Nat) (re : ByteArray), KE 1 w0 w B nm kd on pa ad fl cp re
def BXk (w0 : World) (x : Value) (w : World) : Prop := ∃ B : Nat, x = .pointer (some ⟨B, 0, none⟩) ∧ w0.heap.size < B ∧ KSh w0 w B
def VK (w0 : World) (G : Nat) (q : Int) (k : Nat) (x : Value) (w : World) : Prop :=
  match k with
  | 0 => x = .int .i64 q
  | 1 => TX4 x
  | 2 => TX x
  | 3 => x = .pointer (some ⟨G, 0, none⟩)
  | 4 => BLk 3 x
  | 5 => KD x
  | 6 => SLk 3 x w
  | 7 => x = .pointer (some ⟨G, 0, none⟩)
  | 8 => BLk 3 x
  | 9 => ADk x w
  | 10 => TX x
  | 11 => SLk 5 x w
  | 12 => x = .pointer (some ⟨G, 0, none⟩)
  | 13 => BLk 5 x
  | 14 => ADk x w
  | 15 => TX x
  | 16 => SLk 4 x w
  | 17 => x = .pointer (some ⟨G, 0, none⟩)
  | 18 => BLk 4 x
  | 19 => ADk x w
  | 20 => TX x
  | 21 => F1 w0 x w
  | 22 => AGk w0 x w
  | 23 => BXk w0 x w
  | 24 => True
  | _ => True
/-- What holds of the world while a key is drawn. -/
def DK (w0 : World) (G : Nat) (a : Option Addr) (n cap : Nat) (zs : List Int) (w : World) : Prop := RdAt w G a n cap zs ∧ w0.grownBy w (some G) ∧ w.heap[w0.heap.size]? = some (.cells #[.string ⟨#[]⟩, .int .i64 0, .string ⟨#[]⟩, .string ⟨#[]⟩, .slice none 0 0, .string ⟨#[]⟩] 27 (0, 0)) ∧ G < w0.heap.size
theorem own_fullK {w : World} {B : Nat} {e : TypeId} (xs : List Value) (hb : B ≤ w.heap.size) (hm : xs.length ≤ maxLen) : (w.alloc (.cells xs.toArray e)).ownsRow B e 1 (.slice (some ⟨w.heap.size, 0, none⟩) xs.length xs.length) xs.length xs := ⟨by simp, .inr ⟨w.heap.size, xs.length, xs.toArray, rfl, hb, heap_alloc_new w _, Nat.le_refl _, hm, by simp, by simp⟩⟩
section
variable {w0 w w1 : World} {G B : Nat} {a : Option Addr} {n cap : Nat} {zs : List Int} {q : Int}
theorem dk_lt (h : DK w0 G a n cap zs w) : w0.heap.size < w.heap.size := (Array.getElem?_eq_some_iff.1 h.2.2.1).1
theorem own_low {e : TypeId} {z : Nat} {v : Value} {m : Nat} {xs : List Value} {b : Nat} (h : w.ownsRow w0.heap.size e z v m xs) (hg : w.grownBy w1 (some b)) (hb : b < w0.heap.size) : w1.ownsRow w0.heap.size e z v m xs := by
  refine h.kept hg ?_
  cases hv : v.ownBlock with
  | none => exact .inl rfl
  | some k => exact .inr (fun e => by
      cases e
      have := (h.lt _ hv).1
      omega)
theorem own_none {e : TypeId} {z : Nat} {v : Value} {m : Nat} {xs : List Value} (h : w.ownsRow w0.heap.size e z v m xs) (hg : w.grownBy w1 none) : w1.ownsRow w0.heap.size e z v m xs := by
  refine h.kept hg ?_
  cases hv : v.ownBlock with
  | none => exact .inl rfl
  | some k => exact .inr (fun e => by cases e)
/-- What stays behind a step: rows of texts as they lay, rows of the call's own, keys in blocks. -/
def KeepK (w0 w w1 : World) : Prop := (∀ (B : Nat) (xs : Array Value), w.heap[B]? = some (Obj.cells xs 9 (0, 0)) → w1.heap[B]? = some (Obj.cells xs 9 (0, 0))) ∧ (∀ (v : Value) (m : Nat) (xs : List Value), w.ownsRow w0.heap.size 9 1 v m xs → w1.ownsRow w0.heap.size 9 1 v m xs) ∧ ∀ B, w0.heap.size < B → KSh w0 w B → KSh w0 w1 B
theorem vk_keeps (h : KeepK w0 w w1) (k : Nat) (x : Value) (hv : VK w0 G q k x w) : VK w0 G q k x w1 := by
  have s : ∀ N, SLk N x w → SLk N x w1 := fun N ⟨B, xs, h1, h2, h3⟩ => ⟨B, xs, h1, h.1 B xs h2, h3⟩
  have d : ADk x w → ADk x w1 := fun ⟨B, o, xs, y, h1, h2, h3⟩ => ⟨B, o, xs, y, h1, h.1 B xs h2, h3⟩
  have b : BXk w0 x w → BXk w0 x w1 := fun ⟨B, h1, h2, h3⟩ => ⟨B, h1, h2, h.2.2 B h2 h3⟩
  have f : F1 w0 x w → F1 w0 x w1 := fun ⟨ad, cp, t, h1, h2, h3⟩ => ⟨ad, cp, t, h1, h2, h.2.1 _ _ _ h3⟩
  have g : AGk w0 x w → AGk w0 x w1 := fun ⟨t1, x2, t3, t4, ad, cp, t5, h1, h2, h3, h4⟩ => ⟨t1, x2, t3, t4, ad, cp, t5, h1, h2, h3, h.2.1 _ _ _ h4⟩
  unfold VK at hv ⊢
  split at hv <;> first | exact s _ hv | exact d hv | exact b hv | exact f hv | exact g hv | exact hv
theorem keepk_below (hb : Below w.heap.size w w1) : KeepK w0 w w1 := by
  have hg : w.grownBy w1 none := ⟨hb.os, hb.tape, hb.output, hb.size, fun k hk _ => hb.block k hk⟩
  refine ⟨fun B xs h => (hb.block B (Array.getElem?_eq_some_iff.1 h).1).trans h, fun v m xs h => own_none h hg, fun B _ ⟨nm, kd, on, pa, ad, fl, cp, re, h1, h2, h3, h4, h5⟩ => ⟨nm, kd, on, pa, ad, fl, cp, re, (hb.block B (Array.getElem?_eq_some_iff.1 h1).1).trans h1, h2, h3, h4, own_none h5 hg⟩⟩
theorem keepk_alloc (o : Obj) : KeepK w0 w (w.alloc o) := keepk_below ((Below.refl _ _).alloc (Nat.le_refl _) o)
theorem dk_below (h : DK w0 G a n cap zs w) (hb : Below w.heap.size w w1) : DK w0 G a n cap zs w1 := by
  have hg : w.grownBy w1 (some G) := ⟨hb.os, hb.tape, hb.output, hb.size, fun k hk _ => hb.block k hk⟩
  exact ⟨rd_grown h.1 (row := none) ⟨hb.os, hb.tape, hb.output, hb.size, fun k hk _ => hb.block k hk⟩ (fun k hk => by cases hk), grown_trans h.2.1 hg, (hb.block _ (dk_lt h)).trans h.2.2.1, h.2.2.2⟩
theorem dk_alloc (h : DK w0 G a n cap zs w) (o : Obj) : DK w0 G a n cap zs (w.alloc o) := dk_below h ((Below.refl _ _).alloc (Nat.le_refl _) o)
theorem dk_drew (h : DK w0 G a n cap zs w) (hd : Drew G a n cap zs w w1) : DK w0 G a n cap zs w1 :=
  ⟨hd.1, grown_trans h.2.1 hd.2, (hd.2.block _ (dk_lt h) (fun e => by cases e; have := h.2.2.2; omega)).trans h.2.2.1, h.2.2.2⟩
theorem ksh_drew (hG : G < w0.heap.size) (hB : w0.heap.size < B) (h : KSh w0 w B) (hd : w.grownBy w1 (some G)) : KSh w0 w1 B := by
  obtain ⟨nm, kd, on, pa, ad, fl, cp, re, h1, h2, h3, h4, h5⟩ := h
  exact ⟨nm, kd, on, pa, ad, fl, cp, re, (hd.block B (Array.getElem?_eq_some_iff.1 h1).1 (fun e => by cases e; omega)).trans h1, h2, h3, h4, own_low h5 hd hG⟩
theorem keepk_drew (hj : DK w0 G a n cap zs w) (hd : Drew G a n cap zs w w1) : KeepK w0 w w1 := by
  refine ⟨fun B xs hB => ?_, fun v m xs h => own_low h hd.2 hj.2.2.2, fun B hlt hk => ksh_drew hj.2.2.2 hlt hk hd.2⟩
  refine (hd.2.block B (Array.getElem?_eq_some_iff.1 hB).1 (fun e => ?_)).trans hB
  cases e
  obtain ⟨⟨p, _, hg⟩, _⟩ := hj.1
  rw [hg] at hB
  simp at hB
theorem key_cells {nm : ByteArray} {kd : Int} {on pa : ByteArray} {sl : Value} {re : ByteArray} (hx : w.heap[B]? = some (.cells #[.string nm, .int .i64 kd, .string on, .string pa, sl, .string re] 27 (0, 0))) :
    (w.cell? ⟨B, 0, none⟩ = some (.string nm) ∧ w.cell? ⟨B, 1, none⟩ = some (.int .i64 kd) ∧ w.cell? ⟨B, 2, none⟩ = some (.string on) ∧ w.cell? ⟨B, 3, none⟩ = some (.string pa) ∧ w.cell? ⟨B, 4, none⟩ = some sl ∧ w.cell? ⟨B, 5, none⟩ = some (.string re)) ∧ w.frozen? ⟨B, 0, none⟩ = false ∧ w.frozen? ⟨B, 1, none⟩ = false ∧ w.frozen? ⟨B, 2, none⟩ = false ∧ w.frozen? ⟨B, 3, none⟩ = false ∧ w.frozen? ⟨B, 4, none⟩ = false ∧ w.frozen? ⟨B, 5, none⟩ = false :=
  ⟨⟨by rw [cell_of_row w B 0 _ 27 (0, 0) hx]; rfl, by rw [cell_of_row w B 1 _ 27 (0, 0) hx]; rfl, by rw [cell_of_row w B 2 _ 27 (0, 0) hx]; rfl, by rw [cell_of_row w B 3 _ 27 (0, 0) hx]; rfl, by rw [cell_of_row w B 4 _ 27 (0, 0) hx]; rfl, by rw [cell_of_row w B 5 _ 27 (0, 0) hx]; rfl⟩, frozen_of_row w B 0 _ 27 hx, frozen_of_row w B 1 _ 27 hx, frozen_of_row w B 2 _ 27 hx, frozen_of_row w B 3 _ 27 hx, frozen_of_row w B 4 _ 27 hx, frozen_of_row w B 5 _ 27 hx⟩
theorem own_keyset {v : Value} {m : Nat} {xs : List Value} {cs : Array Value} (h : w.ownsRow w0.heap.size 9 1 v m xs) (hB : w.heap[B]? = some (.cells cs 27 (0, 0))) (i : Nat) (u : Value) : (w.setCell ⟨B, i, none⟩ u).ownsRow w0.heap.size 9 1 v m xs := by
  refine gOwn_set h _ _ (fun e => ?_)
  rcases h.2 with ⟨rfl, -⟩ | ⟨g, cap, cur, rfl, -, hg, -⟩
  · cases e
  · have e2 : g = B := by simpa [Value.ownBlock] using e
    subst e2
    rw [hg] at hB
    simp at hB
theorem key_sets {x0 x1 x2 x3 x4 x5 y0 y1 y2 y3 y4 y5 : Value} (hB : w.heap[B]? = some (.cells #[y0, y1, y2, y3, y4, y5] 27 (0, 0))) : ((((((w.setCell ⟨B, 0, none⟩ (x0)).setCell ⟨B, 1, none⟩ (x1)).setCell ⟨B, 2, none⟩ (x2)).setCell ⟨B, 3, none⟩ (x3)).setCell ⟨B, 4, none⟩ (x4)).setCell ⟨B, 5, none⟩ (x5)).heap[B]? = some (.cells #[x0, x1, x2, x3, x4, x5] 27 (0, 0)) := by
  have h0 := block_setCell (i := 0) hB x0
  have h1 := block_setCell (i := 1) h0 x1
  have h2 := block_setCell (i := 2) h1 x2
  have h3 := block_setCell (i := 3) h2 x3
  have h4 := block_setCell (i := 4) h3 x4
  have h5 := block_setCell (i := 5) h4 x5
  simpa using h5
theorem grown_setK (w : World) (B i : Nat) (v : Value) : w.grownBy (w.setCell ⟨B, i, none⟩ v) (some B) :=
  ⟨rfl, rfl, rfl, by simp, fun k hk hne => Below.heap_setCell w ⟨B, i, none⟩ v k (fun e => hne (by rw [e]))⟩
theorem grown_sets (x0 x1 x2 x3 x4 x5 : Value) : w.grownBy ((((((w.setCell ⟨B, 0, none⟩ (x0)).setCell ⟨B, 1, none⟩ (x1)).setCell ⟨B, 2, none⟩ (x2)).setCell ⟨B, 3, none⟩ (x3)).setCell ⟨B, 4, none⟩ (x4)).setCell ⟨B, 5, none⟩ (x5)) (some B) := grown_trans (grown_trans (grown_trans (grown_trans (grown_trans (grown_setK _ _ _ _) (grown_setK _ _ _ _)) (grown_setK _ _ _ _)) (grown_setK _ _ _ _)) (grown_setK _ _ _ _)) (grown_setK _ _ _ _)
theorem own_sets {v : Value} {m : Nat} {xs : List Value} {cs : Array Value} (h : w.ownsRow w0.heap.size 9 1 v m xs) (hB : w.heap[B]? = some (.cells cs 27 (0, 0))) (x0 x1 x2 x3 x4 x5 : Value) : ((((((w.setCell ⟨B, 0, none⟩ (x0)).setCell ⟨B, 1, none⟩ (x1)).setCell ⟨B, 2, none⟩ (x2)).setCell ⟨B, 3, none⟩ (x3)).setCell ⟨B, 4, none⟩ (x4)).setCell ⟨B, 5, none⟩ (x5)).ownsRow w0.heap.size 9 1 v m xs := by
  refine h.kept (grown_sets x0 x1 x2 x3 x4 x5) ?_
  cases hv : v.ownBlock with
  | none => exact .inl rfl
  | some k => exact .inr (fun e => by
      cases e
      rcases h.2 with ⟨rfl, -⟩ | ⟨g, cap, cur, rfl, -, hg, -⟩
      · cases hv
      · have e2 : g = B := by simpa [Value.ownBlock] using hv
        subst e2
        rw [hg] at hB
        simp at hB)
theorem dk_grown (h : DK w0 G a n cap zs w) (hg : w.grownBy w1 (some B)) (hB : w0.heap.size < B) : DK w0 G a n cap zs w1 :=
  ⟨rd_grown h.1 hg (fun k hk => by cases hk; have := h.2.2.2; omega), ⟨hg.os.trans h.2.1.os, hg.tape.trans h.2.1.tape, hg.output.trans h.2.1.output, Nat.le_trans h.2.1.size hg.size, fun k hk hne => (hg.block k (Nat.lt_of_lt_of_le hk h.2.1.size) (fun e => by cases e; omega)).trans (h.2.1.block k hk hne)⟩, (hg.block _ (dk_lt h) (fun e => by cases e; omega)).trans h.2.2.1, h.2.2.2⟩
theorem dk_set6 {t1 : ByteArray} {x2 : Int} {t3 t4 : ByteArray} {ad : Option Addr} {cp : Nat} {t5 : ByteArray} (h : DK w0 G a n cap zs w) (hlt : w0.heap.size < B) (hk : KSh w0 w B) (hok : KOk t1 x2 t3 t4 ⟨#[]⟩) (ht : t5.size ≤ 8) (ho : w.ownsRow w0.heap.size 9 1 (.slice ad 1 cp) 1 [.string t5]) :
    DK w0 G a n cap zs ((((((w.setCell ⟨B, 0, none⟩ (.string t1)).setCell ⟨B, 1, none⟩ (.int .i64 x2)).setCell ⟨B, 2, none⟩ (.string t3)).setCell ⟨B, 3, none⟩ (.string t4)).setCell ⟨B, 4, none⟩ (.slice ad 1 cp)).setCell ⟨B, 5, none⟩ (.string ⟨#[]⟩)) ∧ KeepK w0 w ((((((w.setCell ⟨B, 0, none⟩ (.string t1)).setCell ⟨B, 1, none⟩ (.int .i64 x2)).setCell ⟨B, 2, none⟩ (.string t3)).setCell ⟨B, 3, none⟩ (.string t4)).setCell ⟨B, 4, none⟩ (.slice ad 1 cp)).setCell ⟨B, 5, none⟩ (.string ⟨#[]⟩)) := by
  obtain ⟨nm, kd, on, pa, ad2, fl, cp2, re, h1, -⟩ := hk
  have hg : w.grownBy ((((((w.setCell ⟨B, 0, none⟩ (.string t1)).setCell ⟨B, 1, none⟩ (.int .i64 x2)).setCell ⟨B, 2, none⟩ (.string t3)).setCell ⟨B, 3, none⟩ (.string t4)).setCell ⟨B, 4, none⟩ (.slice ad 1 cp)).setCell ⟨B, 5, none⟩ (.string ⟨#[]⟩)) (some B) := grown_sets _ _ _ _ _ _
  have hs : ((((((w.setCell ⟨B, 0, none⟩ (.string t1)).setCell ⟨B, 1, none⟩ (.int .i64 x2)).setCell ⟨B, 2, none⟩ (.string t3)).setCell ⟨B, 3, none⟩ (.string t4)).setCell ⟨B, 4, none⟩ (.slice ad 1 cp)).setCell ⟨B, 5, none⟩ (.string ⟨#[]⟩)).heap[B]? = some (.cells #[.string t1, .int .i64 x2, .string t3, .string t4, .slice ad 1 cp, .string ⟨#[]⟩] 27 (0, 0)) := key_sets h1
  refine ⟨dk_grown h hg hlt, fun C xs hC => ?_, fun v m xs hv => own_sets hv h1 _ _ _ _ _ _, fun C hC hk2 => ?_⟩
  · refine (hg.block C (Array.getElem?_eq_some_iff.1 hC).1 (fun e => ?_)).trans hC
    cases e
    rw [h1] at hC
    simp at hC
  · by_cases e : C = B
    · subst e
      exact ⟨t1, x2, t3, t4, ad, [t5], cp, ⟨#[]⟩, hs, hok, by simp, fun t ht2 => by rw [List.mem_singleton] at ht2; subst ht2; exact ht, own_sets ho h1 _ _ _ _ _ _⟩
    · obtain ⟨nm', kd', on', pa', ad', fl', cp', re', g1, g2, g3, g4, g5⟩ := hk2
      exact ⟨nm', kd', on', pa', ad', fl', cp', re', (hg.block C (Array.getElem?_eq_some_iff.1 g1).1 (fun e2 => e (by cases e2; rfl))).trans g1, g2, g3, g4, own_sets g5 h1 _ _ _ _ _ _⟩
theorem ke_grown {b : Nat} {nm : ByteArray} {kd : Int} {on pa : ByteArray} {ad : Option Addr} {fl : List ByteArray} {cp : Nat} {re : ByteArray} (h : KE b w0 w B nm kd on pa ad fl cp re) (hd : w.grownBy w1 (some G)) (hG : G < w0.heap.size) (hB : w0.heap.size < B) : KE b w0 w1 B nm kd on pa ad fl cp re :=
  ⟨(hd.block B (Array.getElem?_eq_some_iff.1 h.1).1 (fun e => by cases e; omega)).trans h.1, h.2.1, h.2.2.1, h.2.2.2.1, own_low h.2.2.2.2 hd hG⟩
theorem ke_below {b : Nat} {nm : ByteArray} {kd : Int} {on pa : ByteArray} {ad : Option Addr} {fl : List ByteArray} {cp : Nat} {re : ByteArray} (h : KE b w0 w B nm kd on pa ad fl cp re) (hb : Below w.heap.size w w1) : KE b w0 w1 B nm kd on pa ad fl cp re :=
  ⟨(hb.block B (Array.getElem?_eq_some_iff.1 h.1).1).trans h.1, h.2.1, h.2.2.1, h.2.2.2.1, own_none h.2.2.2.2 ⟨hb.os, hb.tape, hb.output, hb.size, fun k hk _ => hb.block k hk⟩⟩
theorem ke_two {nm : ByteArray} {kd : Int} {on pa : ByteArray} {ad : Option Addr} {fl : List ByteArray} {cp : Nat} {re : ByteArray} (h : KE 1 w0 w B nm kd on pa ad fl cp re) : KE 2 w0 w B nm kd on pa ad fl cp re := ⟨h.1, h.2.1, Nat.le_trans h.2.2.1 (by omega), h.2.2.2⟩
theorem ke_set5 {b : Nat} {nm : ByteArray} {kd : Int} {on pa : ByteArray} {ad : Option Addr} {fl : List ByteArray} {cp : Nat} {re R : ByteArray} (h : KE b w0 w B nm kd on pa ad fl cp re) (hR : R.size ≤ 8) : KE b w0 (w.setCell ⟨B, 5, none⟩ (.string R)) B nm kd on pa ad fl cp R := by
  obtain ⟨h1, ⟨k0, k1, k2, k3, k4⟩, h3, h4, h5⟩ := h
  exact ⟨heap_setCell_same w B 5 _ _ _ h1, ⟨k0, k1, k2, hR, k4⟩, h3, h4, own_keyset h5 h1 5 _⟩
theorem own_not {v : Value} {m : Nat} {xs : List Value} {cs : Array Value} (h : w.ownsRow w0.heap.size 9 1 v m xs) (hB : w.heap[B]? = some (.cells cs 27 (0, 0))) : v.ownBlock ≠ some B := fun hv => by
  rcases h.2 with ⟨rfl, -⟩ | ⟨g, cap, cur, rfl, -, hg, -⟩
  · cases hv
  · have e2 : g = B := by simpa [Value.ownBlock] using hv
    subst e2
    rw [hg] at hB
    simp at hB
/-- Behind the append: the block holds the old row's head, the longer row is the call's own. -/
def KM (w0 : World) (w : World) (B : Nat) (nm : ByteArray) (kd : Int) (on pa : ByteArray) (sl : Value) (ad : Option Addr) (fl : List ByteArray) (n cp : Nat) (re : ByteArray) : Prop := w.heap[B]? = some (.cells #[.string nm, .int .i64 kd, .string on, .string pa, sl, .string re] 27 (0, 0)) ∧ KOk nm kd on pa re ∧ fl.length = n ∧ n ≤ 2 ∧ (∀ t ∈ fl, t.size ≤ 8) ∧ w.ownsRow w0.heap.size 9 1 (.slice ad n cp) n (fl.map Value.string)
theorem ke_own {nm : ByteArray} {kd : Int} {on pa : ByteArray} {ad : Option Addr} {fl : List ByteArray} {cp : Nat} {re t2 : ByteArray} {gg cap9 : Nat} (h : KE 1 w0 w B nm kd on pa ad fl cp re) (hg : w.grownBy w1 (Value.slice ad fl.length cp).ownBlock) (ho : w1.ownsRow w0.heap.size 9 1 (.slice (some ⟨gg, 0, none⟩) (fl.length + 1) cap9) (fl.length + 1) (fl.map Value.string ++ [.string t2])) (ht : t2.size ≤ 8) :
    KM w0 w1 B nm kd on pa (.slice ad fl.length cp) (some ⟨gg, 0, none⟩) (fl ++ [t2]) (fl.length + 1) cap9 re := by
  obtain ⟨h1, h2, h3, h4, h5⟩ := h
  have hne := own_not h5 h1
  refine ⟨(hg.block B (Array.getElem?_eq_some_iff.1 h1).1 (fun e => hne e.symm)).trans h1, h2, by simp, by omega, fun t ht2 => ?_, by rw [List.map_append]; exact ho⟩
  rcases List.mem_append.1 ht2 with h | h
  · exact h4 t h
  · rw [List.mem_singleton] at h; subst h; exact ht
theorem ke_set4 {nm : ByteArray} {kd : Int} {on pa : ByteArray} {sl : Value} {gg m cap9 : Nat} {fl : List ByteArray} {re : ByteArray} (h : KM w0 w B nm kd on pa sl (some ⟨gg, 0, none⟩) fl m cap9 re) : KE 2 w0 (w.setCell ⟨B, 4, none⟩ (.slice (some ⟨gg, 0, none⟩) m cap9)) B nm kd on pa (some ⟨gg, 0, none⟩) fl cap9 re := by
  obtain ⟨h1, h2, h3, h4, h5, h6⟩ := h
  subst h3
  exact ⟨heap_setCell_same w B 4 _ _ _ h1, h2, h4, h5, own_keyset h6 h1 4 _⟩
theorem dk_own {v : Value} {m : Nat} {xs : List Value} (h : DK w0 G a n cap zs w) (ho : w.ownsRow w0.heap.size 9 1 v m xs) (hg : w.grownBy w1 v.ownBlock) : DK w0 G a n cap zs w1 := by
  have hlo : ∀ k, v.ownBlock = some k → w0.heap.size ≤ k := fun k hk => (ho.lt k hk).1
  have hne := own_not ho h.2.2.1
  refine ⟨rd_grown h.1 hg (fun k hk => by have := hlo k hk; have := h.2.2.2; omega), ⟨hg.os.trans h.2.1.os, hg.tape.trans h.2.1.tape, hg.output.trans h.2.1.output, Nat.le_trans h.2.1.size hg.size, fun k hk hne2 => (hg.block k (Nat.lt_of_lt_of_le hk h.2.1.size) (fun e => by have := hlo k e.symm; omega)).trans (h.2.1.block k hk hne2)⟩, (hg.block _ (dk_lt h) (fun e => hne e.symm)).trans h.2.2.1, h.2.2.2⟩
theorem drew_res (h : DK w0 G a n cap zs w) (x0 x1 x2 x3 x4 x5 : Value) : Drew G a n cap zs w0 ((((((w.setCell ⟨w0.heap.size, 0, none⟩ (x0)).setCell ⟨w0.heap.size, 1, none⟩ (x1)).setCell ⟨w0.heap.size, 2, none⟩ (x2)).setCell ⟨w0.heap.size, 3, none⟩ (x3)).setCell ⟨w0.heap.size, 4, none⟩ (x4)).setCell ⟨w0.heap.size, 5, none⟩ (x5)) := by
  have hg : w.grownBy ((((((w.setCell ⟨w0.heap.size, 0, none⟩ (x0)).setCell ⟨w0.heap.size, 1, none⟩ (x1)).setCell ⟨w0.heap.size, 2, none⟩ (x2)).setCell ⟨w0.heap.size, 3, none⟩ (x3)).setCell ⟨w0.heap.size, 4, none⟩ (x4)).setCell ⟨w0.heap.size, 5, none⟩ (x5)) (some w0.heap.size) := grown_sets _ _ _ _ _ _
  exact ⟨rd_grown h.1 hg (fun k hk => by cases hk; have := h.2.2.2; omega), ⟨hg.os.trans h.2.1.os, hg.tape.trans h.2.1.tape, hg.output.trans h.2.1.output, Nat.le_trans h.2.1.size hg.size, fun k hk hne => (hg.block k (Nat.lt_of_lt_of_le hk h.2.1.size) (fun e => by cases e; omega)).trans (h.2.1.block k hk hne)⟩⟩
end
def DDk : Nat → Nat := fun k => if k ≤ 22 then k + 6 else if k = 23 then 5 else 100
end Go.Proofs.YtdepgkpfibmbgaaGreatDoor
