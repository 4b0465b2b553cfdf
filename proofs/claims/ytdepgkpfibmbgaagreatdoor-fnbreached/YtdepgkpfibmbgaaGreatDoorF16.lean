/-
  Texts put together: FfD, KyD1, RegInv, KyD2.
-/
import Derived.Test.YtdepgkpfibmbgaaGreatDoorF15
import Derived.Laws.BytesArg
import Derived.Test.YtdepgkpfibmbgaaGreatDoorF1
import Derived.Orders
import Derived.RegionTactic
import Derived.WalkKit
import Derived.Test.YtdepgkpfibmbgaaGreatDoorF3
/-
  Contract: what is drawn for a field: a document, a place, a field.
-/
namespace Go.Proofs.YtdepgkpfibmbgaaGreatDoor
open Go.RowKit Go.Joins
set_option linter.unusedVariables false
set_option linter.unusedSimpArgs false
theorem str_cellP {w w1 : World} {G : Nat} (Q : ByteArray → Prop) {cs : Array Value} {T : TypeId} {x : Int} {N : Nat} (hg : (w.alloc (.cells cs T)).grownBy w1 (some G)) (h0 : 0 ≤ x) (hx : x < N) (hN : cs.size = N) (hG : G < w.heap.size) (hK : ∀ k, k < N → ∃ s : ByteArray, cs[k]? = some (.string s) ∧ Q s) : ∃ s : ByteArray, w1.cell? ⟨w.heap.size, x.toNat, none⟩ = some (.string s) ∧ Q s := by
  have hb := hg.block w.heap.size (by simp) (fun e => by cases e; omega)
  rw [World.cell?_of_block (a := ⟨w.heap.size, x.toNat, none⟩) hb, cell_of_row _ w.heap.size x.toNat _ T (0, 0) (heap_alloc_new w _)]
  exact hK x.toNat (by omega)
set_option maxHeartbeats 1000000 in
theorem d_field (G : Nat) (a : Option Addr) (n cap : Nat) (zs : List Int) (w : World) (h : RdAt w G a n cap zs) :
    Calls Tryz.prog 48 #[.pointer (some ⟨G, 0, none⟩)] w fun e w' => ∃ s : ByteArray, (s.size ≤ 8 ∧ 1 ≤ s.size) ∧ e = .returned (.string s) ∧ Drew G a n cap zs w w' := by
  have HH := hide h
  have hG := rd_lt h
  clear h
  go_enter Tryz.func48, Tryz.ntmps48
  go_wp2_with fail
  refine (d_below G a n cap zs 11 _ (by omega) (by omega) (rd_alloc HH.out _)).mono ?_
  rintro e w1 ⟨x, hx0, hx1, rfl, hd⟩
  obtain ⟨s, hs, hs1⟩ := str_cellP (fun s => s.size ≤ 8 ∧ 1 ≤ s.size) hd.2 hx0 hx1 rfl hG (fun k hk => by
    have hk' : k < 11 := hk
    have hx : k = 0 ∨ k = 1 ∨ k = 2 ∨ k = 3 ∨ k = 4 ∨ k = 5 ∨ k = 6 ∨ k = 7 ∨ k = 8 ∨ k = 9 ∨ k = 10 := by omega
    rcases hx with e | e | e | e | e | e | e | e | e | e | e <;> subst e <;> exact ⟨_, rfl, by decide⟩)
  have HD := hide (drew_alloc _ hd)
  clear hd
  go_wp2
  go_ret
  exact ⟨s, hs1, rfl, HD.out⟩
end Go.Proofs.YtdepgkpfibmbgaaGreatDoor

/-
  Contract of the specification: the text of a number of one digit.
-/
namespace Go.Proofs.YtdepgkpfibmbgaaGreatDoor
open Go.RowKit Go.Joins
set_option linter.unusedVariables false
set_option linter.unusedSimpArgs false
theorem conv_newK (w : World) (xs : List Int) :
    (convert 22 9 (.slice (some ⟨w.heap.size, 0, none⟩) xs.length xs.length)).run Tryz.prog (w.alloc (.cells (xs.map (Value.int .u8)).toArray 5)) = .ok (.string (strOfNums xs)) (w.alloc (.cells (xs.map (Value.int .u8)).toArray 5)) := by
  refine run_convert_bytes_arg _ 22 5 Tryz.underlying22 Tryz.underlying5 w.heap.size 0 xs.length xs.length xs rfl ?_ 9 Tryz.underlying9
  intro i hi
  rw [show (0 + i) = i by omega, cell_of_row _ w.heap.size i _ 5 (0, 0) (heap_alloc_new w _)]
  simp [List.getElem?_eq_getElem hi]
set_option maxRecDepth 100000 in
set_option maxHeartbeats 4000000 in
theorem s_dig1 (n : Int) (w : World) (h0 : 0 ≤ n) (h9 : n < 10) : Calls Tryz.prog 47 #[.int .i64 n] w fun e w' => ∃ s : ByteArray, s.size ≤ 4 ∧ e = .returned (.string s) ∧ Below w.heap.size w w' := by
  have hcv := conv_newK w [48 + n]
  simp only [List.map_cons, List.map_nil, List.length_cons, List.length_nil, Nat.zero_add] at hcv
  have hsz : (strOfNums [48 + n]).size = 1 := rfl
  obtain ⟨S, hS⟩ : ∃ S, strOfNums [48 + n] = S := ⟨_, rfl⟩
  rw [hS] at hcv hsz
  have hs1 : S.size ≤ 1 := by omega
  have HZ := hide hs1
  clear hS hsz
  go_enter Tryz.func47, Tryz.ntmps47
  go_wp2
  go_loopw [0, 3] (fun nv sv wr => nv = .int .i64 n ∧ sv = .string ⟨#[]⟩ ∧ wr = w) (fun _ _ _ => 0)
  case atStart => exact ⟨rfl, rfl, rfl⟩
  case round =>
    obtain ⟨rfl, rfl, rfl⟩ := hrel
    go_wp2
    go_ret
    refine ⟨_, ?_, rfl, (Below.refl _ _).alloc (Nat.le_refl _) _⟩
    first | (have h8 := HZ.out; omega) | (rw [ByteArray.size_append]; have h8 := HZ.out; show 0 + _ ≤ _; omega) | (rw [ByteArray.size_append]; have h8 := HZ.out; show _ + 0 ≤ _; omega)
end Go.Proofs.YtdepgkpfibmbgaaGreatDoor

/-
  Plain facts, of no program: a region that draws its order of evaluation, by an invariant: what each operation leaves in its place, whatever came up ahead of it.
-/
namespace Go.Proofs.YtdepgkpfibmbgaaGreatDoor
open Go.RowKit
set_option linter.unusedVariables false
set_option linter.unusedSimpArgs false
theorem filter_less {p p' : Nat → Bool} {i : Nat} (hpp : ∀ k, p' k = true → p k = true) (hi : p i = true) (hi' : p' i = false) : ∀ (xs : List Nat), i ∈ xs → (xs.filter p').length < (xs.filter p).length
  | [], h => by cases h
  | x :: xs, h => by
    have hle : ∀ ys : List Nat, (ys.filter p').length ≤ (ys.filter p).length := by
      intro ys
      induction ys with
      | nil => simp
      | cons y ys ih =>
        by_cases hy : p' y = true
        · rw [List.filter_cons_of_pos hy, List.filter_cons_of_pos (hpp y hy)]; simpa using ih
        · rw [List.filter_cons_of_neg hy]
          by_cases hz : p y = true
          · rw [List.filter_cons_of_pos hz, List.length_cons]; omega
          · rw [List.filter_cons_of_neg hz]; exact ih
    rcases List.mem_cons.1 h with e | e
    · subst e
      rw [List.filter_cons_of_neg (by rw [hi']; decide), List.filter_cons_of_pos hi, List.length_cons]
      have := hle xs
      omega
    · have ih := filter_less hpp hi hi' xs e
      by_cases hy : p' x = true
      · rw [List.filter_cons_of_pos hy, List.filter_cons_of_pos (hpp x hy)]; simpa using ih
      · rw [List.filter_cons_of_neg hy]
        by_cases hz : p x = true
        · rw [List.filter_cons_of_pos hz, List.length_cons]; omega
        · rw [List.filter_cons_of_neg hz]; exact ih
section
variable {P : Program} {ops : Array Oper} {Q : Exit → Act → World → Prop}
/-- How many operations have not come up yet. -/
def left (n : Nat) (l : Array Bool) : Nat := ((List.range n).filter fun k => !(l.getD k true)).length
theorem left_less {n i : Nat} {l : Array Bool} (hi : i < n) (h : l.getD i true = false) : left n (l.setIfInBounds i true) < left n l := by
  have hsz : i < l.size := by
    rcases Nat.lt_or_ge i l.size with h' | h'
    · exact h'
    · rw [Array.getD_eq_getD_getElem?, Array.getElem?_eq_none h'] at h; simp at h
  refine filter_less (i := i) (fun k hk => ?_) (by simp [h]) ?_ _ (List.mem_range.2 hi)
  · by_cases e : i = k
    · subst e; simp [h]
    · rw [getD_set_ne true e] at hk; exact hk
  · rw [Array.getD_eq_getD_getElem?]
    simp [hsz]
theorem wpAny_inv (I : Array Bool → Act → World → Prop)
    (hdone : ∀ l a w, I l a w → Region.ready .any ops l = [] → Q .normal a w)
    (hstep : ∀ l a w i, I l a w → i ∈ Region.ready .any ops l → wpOp P ops Q i (I (l.setIfInBounds i true)) a w) :
    ∀ (fuel : Nat) (l : Array Bool) (a : Act) (w : World), left ops.size l ≤ fuel → I l a w → wpAny P .any ops Q fuel l a w := by
  have hlt : ∀ (l : Array Bool) (i : Nat), i ∈ Region.ready .any ops l → i < ops.size ∧ l.getD i true = false := by
    intro l i hi
    obtain ⟨h0, o, ho, _⟩ := mem_ready.1 hi
    exact ⟨(Array.getElem?_eq_some_iff.1 ho).1, h0⟩
  intro fuel
  induction fuel with
  | zero =>
    intro l a w hf hI
    have hnil : Region.ready .any ops l = [] := by
      cases hr : Region.ready .any ops l with
      | nil => rfl
      | cons i is =>
        obtain ⟨h1, h2⟩ := hlt l i (by rw [hr]; exact List.mem_cons_self ..)
        have := left_less h1 h2
        omega
    exact ⟨hnil, hdone l a w hI hnil⟩
  | succ fuel ih =>
    intro l a w hf hI
    refine ⟨hdone l a w hI, fun i hi => ?_⟩
    obtain ⟨h1, h2⟩ := hlt l i hi
    have := left_less h1 h2
    exact wpOp_mono (fun a' w' h' => ih _ a' w' (by omega) h') (hstep l a w i hI hi)
/-- A region that draws its order: 'V i' is what operation 'i' leaves at its place 'D i' of the frame 'A'; 'J' is what holds of the world throughout. -/
theorem wp_region_inv {id : Nat} {w : World} (hm : P.follows .mixedOrders = true)
    (hlow : (List.range ops.size).all (fun i => ((ops[i]?).map fun o => o.after.all fun e => !(Region.binds .any e) || decide (e.on < i)).getD true) = true)
    (A : (Nat → Value) → Act) (D : Nat → Nat) (V : Nat → Value → World → Prop) (J : World → Prop) (u0 : Nat → Value) (hJ : J { w with drawn := w.drawn + 1 })
    (hput : ∀ i o, ops[i]? = some o → ∀ u v, (A u).put o.dst v = A (fun k => if k = D i then v else u k))
    (hD : ∀ i k, i < ops.size → k < ops.size → i ≠ k → D i ≠ D k)
    (step : ∀ i o, ops[i]? = some o → ∀ u w, J w → (∀ e ∈ o.after, Region.binds .any e = true → V e.on (u (D e.on)) w) →
      ∀ K : Act → World → Prop, (∀ v w', J w' → V i v w' → (∀ k x, V k x w → V k x w') → K ((A u).put o.dst v) w') →
        if Region.wanted o (yielded ops (A u).tmps) = true then Oper.wp P o (A u) w K Q else K ((A u).put o.dst undef) w)
    (done : ∀ u w, J w → (∀ k, k < ops.size → V k (u (D k)) w) → Q .normal (A u) w) :
    (Code.region id ops true).wp P Q (A u0) w := by
  refine wp_region_any hm ?_
  refine wpAny_inv (fun l a w => l.size = ops.size ∧ J w ∧ ∃ u, a = A u ∧ ∀ k, k < ops.size → l.getD k false = true → V k (u (D k)) w) ?_ ?_ _ _ _ _ ?_ ?_
  · rintro l a w ⟨hl, hj, u, rfl, hV⟩ hr
    refine done u w hj (fun k hk => hV k hk ?_)
    have all : ∀ (n : Nat), n ≤ ops.size → ∀ k, k < n → l.getD k false = true := by
      intro n
      induction n with
      | zero => intro _ k hk; omega
      | succ n ih =>
        intro hn k hk
        by_cases e : k < n
        · exact ih (by omega) k e
        · have e : k = n := by omega
          subst e
          have hks : k < ops.size := by omega
          cases hb : l.getD k true with
          | true =>
            rw [Array.getD_eq_getD_getElem?, Array.getElem?_eq_getElem (by omega)] at hb ⊢
            simpa using hb
          | false =>
            exfalso
            have hmem : k ∈ Region.ready .any ops l := by
              refine mem_ready.2 ⟨hb, ops[k], Array.getElem?_eq_getElem hks, fun e he hbd => ?_⟩
              have h1 := List.all_eq_true.1 hlow k (List.mem_range.2 hks)
              rw [Array.getElem?_eq_getElem hks] at h1
              simp only [Option.map_some, Option.getD_some] at h1
              have h2 := Array.all_eq_true_iff_forall_mem.1 h1 e he
              rw [hbd] at h2
              exact ih (by omega) e.on (of_decide_eq_true (by simpa using h2))
            rw [hr] at hmem
            cases hmem
    exact all ops.size (Nat.le_refl _) k hk
  · rintro l a w i ⟨hl, hj, u, rfl, hV⟩ hi
    obtain ⟨h0, o, ho, hdep⟩ := mem_ready.1 hi
    have hilt := (Array.getElem?_eq_some_iff.1 ho).1
    refine wpOp_step ho (fun K' hK => ?_)
    refine step i o ho u w hj (fun e he hb => ?_) K' (fun v w' hj' hv hmono => ?_)
    · have h1 := List.all_eq_true.1 hlow i (List.mem_range.2 hilt)
      rw [ho] at h1
      simp only [Option.map_some, Option.getD_some] at h1
      have h2 := Array.all_eq_true_iff_forall_mem.1 h1 e he
      rw [hb] at h2
      have h3 : e.on < i := of_decide_eq_true (by simpa using h2)
      exact hV e.on (by omega) (hdep e he hb)
    · refine hK _ _ ⟨by simp [hl], hj', _, hput i o ho u v, fun k hk hl' => ?_⟩
      by_cases e : i = k
      · subst e; simpa using hv
      · have hd := hD k i hk hilt (fun h => e h.symm)
        rw [if_neg hd]
        rw [getD_set_ne false e] at hl'
        exact hmono k _ (hV k hk hl')
  · have : left ops.size (Array.replicate ops.size false) ≤ (List.range ops.size).length := List.length_filter_le _ _
    simpa using this
  · refine ⟨by simp, hJ, u0, rfl, fun k hk hl => ?_⟩
    rw [Array.getD_eq_getD_getElem?] at hl
    simp [hk] at hl
end
end Go.Proofs.YtdepgkpfibmbgaaGreatDoor

/-
  Contract of the draw of a key: whatever the code is, some key of short texts; the reader's own place alone is written.
-/
namespace Go.Proofs.YtdepgkpfibmbgaaGreatDoor
open Go.RowKit Go.Joins
set_option linter.unusedVariables false
set_option linter.unusedSimpArgs false
def TX (x : Value) : Prop := ∃ t : ByteArray, t.size ≤ 8 ∧ x = .string t
def TX4 (x : Value) : Prop := ∃ t : ByteArray, t.size ≤ 4 ∧ x = .string t
theorem wrap_k (x : Int) (h0 : 0 ≤ x) (h1 : x < 3) : IntKind.i64.wrap (1 + x) = 1 + x := by rw [IntKind.wrap_i64]; omega
def KD (x : Value) : Prop := ∃ y : Int, x = .int .i64 y ∧ 1 ≤ y ∧ y ≤ 3
def BLk (m : Int) (x : Value) : Prop := ∃ y : Int, x = .int .i64 y ∧ 0 ≤ y ∧ y < m
/-- A row of short texts that was built. -/
def SLk (N : Nat) (x : Value) (w : World) : Prop := ∃ (B : Nat) (xs : Array Value), x = .slice (some ⟨B, 0, none⟩) N N ∧ w.heap[B]? = some (.cells xs 9 (0, 0)) ∧ xs.size = N ∧ ∀ k, k < N → ∃ t : ByteArray, xs[k]? = some (.string t) ∧ t.size ≤ 8
def ADk (x : Value) (w : World) : Prop := ∃ (B o : Nat) (xs : Array Value) (t : ByteArray), x = .pointer (some ⟨B, o, none⟩) ∧ w.heap[B]? = some (.cells xs 9 (0, 0)) ∧ xs[o]? = some (.string t) ∧ t.size ≤ 8
/-- A row of one short text of the call's own. -/
def F1 (w0 : World) (x : Value) (w : World) : Prop := ∃ ad cp t, x = .slice ad 1 cp ∧ t.size ≤ 8 ∧ w.ownsRow w0.heap.size 9 1 (.slice ad 1 cp) 1 [.string t]
def KOk (nm : ByteArray) (kd : Int) (on pa re : ByteArray) : Prop := nm.size ≤ 8 ∧ on.size ≤ 8 ∧ pa.size ≤ 8 ∧ re.size ≤ 8 ∧ 0 ≤ kd ∧ kd ≤ 3
def AGk (w0 : World) (x : Value) (w : World) : Prop := ∃ t1 x2 t3 t4 ad cp t5, x = .agg #[.string t1, .int .i64 x2, .string t3, .string t4, .slice ad 1 cp, .string ⟨#[]⟩] ∧ KOk t1 x2 t3 t4 ⟨#[]⟩ ∧ t5.size ≤ 8 ∧ w.ownsRow w0.heap.size 9 1 (.slice ad 1 cp) 1 [.string t5]
/-- A key of short texts lies in block 'B'; the row of its fields, at most 'b', is the call's own. -/
def KE (b : Nat) (w0 : World) (w : World) (B : Nat) (nm : ByteArray) (kd : Int) (on pa : ByteArray) (ad : Option Addr) (fl : List ByteArray) (cp : Nat) (re : ByteArray) : Prop := w.heap[B]? = some (.cells #[.string nm, .int .i64 kd, .string on, .string pa, .slice ad fl.length cp, .string re] 27 (0, 0)) ∧ KOk nm kd on pa re ∧ fl.length ≤ b ∧ (∀ t ∈ fl, t.size ≤ 8) ∧ w.ownsRow w0.heap.size 9 1 (.slice ad fl.length cp) fl.length (fl.map Value.string)
def KSh (w0 : World) (w : World) (B : Nat) : Prop := ∃ (nm : ByteArray) (kd : Int) (on pa : ByteArray) (ad : Option Addr) (fl : List ByteArray) (cp : Nat) (re : ByteArray), KE 1 w0 w B nm kd on pa ad fl cp re
def BXk (w0 : World) (x : Value) (w : World) : Prop := ∃ B : Nat, x = .pointer (some ⟨B, 0, none⟩) ∧ w0.heap.size < B ∧ KSh w0 w B
def VK (w0 : World) (G : Nat) (q : Int) (k : Nat) (x : Value) (w : World) : Prop :=
  match k with
  | 0 => x = .int .i64 q
  | 1 => TX4 x
  | 2 => TX x
  | 3 => x = .pointer (some ⟨G, 0, none⟩)
  | 4 => BLk 3 x
  | 5 => KD x
  | 6 => SLk 3 x w
  | 7 => x = .pointer (some ⟨G, 0, none⟩)
  | 8 => BLk 3 x
  | 9 => ADk x w
  | 10 => TX x
  | 11 => SLk 5 x w
  | 12 => x = .pointer (some ⟨G, 0, none⟩)
  | 13 => BLk 5 x
  | 14 => ADk x w
  | 15 => TX x
  | 16 => SLk 4 x w
  | 17 => x = .pointer (some ⟨G, 0, none⟩)
  | 18 => BLk 4 x
  | 19 => ADk x w
  | 20 => TX x
  | 21 => F1 w0 x w
  | 22 => AGk w0 x w
  | 23 => BXk w0 x w
  | 24 => True
  | _ => True
/-- What holds of the world while a key is drawn. -/
def DK (w0 : World) (G : Nat) (a : Option Addr) (n cap : Nat) (zs : List Int) (w : World) : Prop := RdAt w G a n cap zs ∧ w0.grownBy w (some G) ∧ w.heap[w0.heap.size]? = some (.cells #[.string ⟨#[]⟩, .int .i64 0, .string ⟨#[]⟩, .string ⟨#[]⟩, .slice none 0 0, .string ⟨#[]⟩] 27 (0, 0)) ∧ G < w0.heap.size
theorem own_fullK {w : World} {B : Nat} {e : TypeId} (xs : List Value) (hb : B ≤ w.heap.size) (hm : xs.length ≤ maxLen) : (w.alloc (.cells xs.toArray e)).ownsRow B e 1 (.slice (some ⟨w.heap.size, 0, none⟩) xs.length xs.length) xs.length xs := ⟨by simp, .inr ⟨w.heap.size, xs.length, xs.toArray, rfl, hb, heap_alloc_new w _, Nat.le_refl _, hm, by simp, by simp⟩⟩
section
variable {w0 w w1 : World} {G B : Nat} {a : Option Addr} {n cap : Nat} {zs : List Int} {q : Int}
theorem dk_lt (h : DK w0 G a n cap zs w) : w0.heap.size < w.heap.size := (Array.getElem?_eq_some_iff.1 h.2.2.1).1
theorem own_low {e : TypeId} {z : Nat} {v : Value} {m : Nat} {xs : List Value} {b : Nat} (h : w.ownsRow w0.heap.size e z v m xs) (hg : w.grownBy w1 (some b)) (hb : b < w0.heap.size) : w1.ownsRow w0.heap.size e z v m xs := by
  refine h.kept hg ?_
  cases hv : v.ownBlock with
  | none => exact .inl rfl
  | some k => exact .inr (fun e => by
      cases e
      have := (h.lt _ hv).1
      omega)
theorem own_none {e : TypeId} {z : Nat} {v : Value} {m : Nat} {xs : List Value} (h : w.ownsRow w0.heap.size e z v m xs) (hg : w.grownBy w1 none) : w1.ownsRow w0.heap.size e z v m xs := by
  refine h.kept hg ?_
  cases hv : v.ownBlock with
  | none => exact .inl rfl
  | some k => exact .inr (fun e => by cases e)
/-- What stays behind a step: rows of texts as they lay, rows of the call's own, keys in blocks. -/
def KeepK (w0 w w1 : World) : Prop := (∀ (B : Nat) (xs : Array Value), w.heap[B]? = some (Obj.cells xs 9 (0, 0)) → w1.heap[B]? = some (Obj.cells xs 9 (0, 0))) ∧ (∀ (v : Value) (m : Nat) (xs : List Value), w.ownsRow w0.heap.size 9 1 v m xs → w1.ownsRow w0.heap.size 9 1 v m xs) ∧ ∀ B, w0.heap.size < B → KSh w0 w B → KSh w0 w1 B
theorem vk_keeps (h : KeepK w0 w w1) (k : Nat) (x : Value) (hv : VK w0 G q k x w) : VK w0 G q k x w1 := by
  have s : ∀ N, SLk N x w → SLk N x w1 := fun N ⟨B, xs, h1, h2, h3⟩ => ⟨B, xs, h1, h.1 B xs h2, h3⟩
  have d : ADk x w → ADk x w1 := fun ⟨B, o, xs, y, h1, h2, h3⟩ => ⟨B, o, xs, y, h1, h.1 B xs h2, h3⟩
  have b : BXk w0 x w → BXk w0 x w1 := fun ⟨B, h1, h2, h3⟩ => ⟨B, h1, h2, h.2.2 B h2 h3⟩
  have f : F1 w0 x w → F1 w0 x w1 := fun ⟨ad, cp, t, h1, h2, h3⟩ => ⟨ad, cp, t, h1, h2, h.2.1 _ _ _ h3⟩
  have g : AGk w0 x w → AGk w0 x w1 := fun ⟨t1, x2, t3, t4, ad, cp, t5, h1, h2, h3, h4⟩ => ⟨t1, x2, t3, t4, ad, cp, t5, h1, h2, h3, h.2.1 _ _ _ h4⟩
  unfold VK at hv ⊢
  split at hv <;> first | exact s _ hv | exact d hv | exact b hv | exact f hv | exact g hv | exact hv
theorem keepk_below (hb : Below w.heap.size w w1) : KeepK w0 w w1 := by
  have hg : w.grownBy w1 none := ⟨hb.os, hb.tape, hb.output, hb.size, fun k hk _ => hb.block k hk⟩
  refine ⟨fun B xs h => (hb.block B (Array.getElem?_eq_some_iff.1 h).1).trans h, fun v m xs h => own_none h hg, fun B _ ⟨nm, kd, on, pa, ad, fl, cp, re, h1, h2, h3, h4, h5⟩ => ⟨nm, kd, on, pa, ad, fl, cp, re, (hb.block B (Array.getElem?_eq_some_iff.1 h1).1).trans h1, h2, h3, h4, own_none h5 hg⟩⟩
theorem keepk_alloc (o : Obj) : KeepK w0 w (w.alloc o) := keepk_below ((Below.refl _ _).alloc (Nat.le_refl _) o)
theorem dk_below (h : DK w0 G a n cap zs w) (hb : Below w.heap.size w w1) : DK w0 G a n cap zs w1 := by
  have hg : w.grownBy w1 (some G) := ⟨hb.os, hb.tape, hb.output, hb.size, fun k hk _ => hb.block k hk⟩
  exact ⟨rd_grown h.1 (row := none) ⟨hb.os, hb.tape, hb.output, hb.size, fun k hk _ => hb.block k hk⟩ (fun k hk => by cases hk), grown_trans h.2.1 hg, (hb.block _ (dk_lt h)).trans h.2.2.1, h.2.2.2⟩
theorem dk_alloc (h : DK w0 G a n cap zs w) (o : Obj) : DK w0 G a n cap zs (w.alloc o) := dk_below h ((Below.refl _ _).alloc (Nat.le_refl _) o)
theorem dk_drew (h : DK w0 G a n cap zs w) (hd : Drew G a n cap zs w w1) : DK w0 G a n cap zs w1 :=
  ⟨hd.1, grown_trans h.2.1 hd.2, (hd.2.block _ (dk_lt h) (fun e => by cases e; have := h.2.2.2; omega)).trans h.2.2.1, h.2.2.2⟩
theorem ksh_drew (hG : G < w0.heap.size) (hB : w0.heap.size < B) (h : KSh w0 w B) (hd : w.grownBy w1 (some G)) : KSh w0 w1 B := by
  obtain ⟨nm, kd, on, pa, ad, fl, cp, re, h1, h2, h3, h4, h5⟩ := h
  exact ⟨nm, kd, on, pa, ad, fl, cp, re, (hd.block B (Array.getElem?_eq_some_iff.1 h1).1 (fun e => by cases e; omega)).trans h1, h2, h3, h4, own_low h5 hd hG⟩
theorem keepk_drew (hj : DK w0 G a n cap zs w) (hd : Drew G a n cap zs w w1) : KeepK w0 w w1 := by
  refine ⟨fun B xs hB => ?_, fun v m xs h => own_low h hd.2 hj.2.2.2, fun B hlt hk => ksh_drew hj.2.2.2 hlt hk hd.2⟩
  refine (hd.2.block B (Array.getElem?_eq_some_iff.1 hB).1 (fun e => ?_)).trans hB
  cases e
  obtain ⟨⟨p, _, hg⟩, _⟩ := hj.1
  rw [hg] at hB
  simp at hB
theorem key_cells {nm : ByteArray} {kd : Int} {on pa : ByteArray} {sl : Value} {re : ByteArray} (hx : w.heap[B]? = some (.cells #[.string nm, .int .i64 kd, .string on, .string pa, sl, .string re] 27 (0, 0))) :
    (w.cell? ⟨B, 0, none⟩ = some (.string nm) ∧ w.cell? ⟨B, 1, none⟩ = some (.int .i64 kd) ∧ w.cell? ⟨B, 2, none⟩ = some (.string on) ∧ w.cell? ⟨B, 3, none⟩ = some (.string pa) ∧ w.cell? ⟨B, 4, none⟩ = some sl ∧ w.cell? ⟨B, 5, none⟩ = some (.string re)) ∧ w.frozen? ⟨B, 0, none⟩ = false ∧ w.frozen? ⟨B, 1, none⟩ = false ∧ w.frozen? ⟨B, 2, none⟩ = false ∧ w.frozen? ⟨B, 3, none⟩ = false ∧ w.frozen? ⟨B, 4, none⟩ = false ∧ w.frozen? ⟨B, 5, none⟩ = false :=
  ⟨⟨by rw [cell_of_row w B 0 _ 27 (0, 0) hx]; rfl, by rw [cell_of_row w B 1 _ 27 (0, 0) hx]; rfl, by rw [cell_of_row w B 2 _ 27 (0, 0) hx]; rfl, by rw [cell_of_row w B 3 _ 27 (0, 0) hx]; rfl, by rw [cell_of_row w B 4 _ 27 (0, 0) hx]; rfl, by rw [cell_of_row w B 5 _ 27 (0, 0) hx]; rfl⟩, frozen_of_row w B 0 _ 27 hx, frozen_of_row w B 1 _ 27 hx, frozen_of_row w B 2 _ 27 hx, frozen_of_row w B 3 _ 27 hx, frozen_of_row w B 4 _ 27 hx, frozen_of_row w B 5 _ 27 hx⟩
theorem own_keyset {v : Value} {m : Nat} {xs : List Value} {cs : Array Value} (h : w.ownsRow w0.heap.size 9 1 v m xs) (hB : w.heap[B]? = some (.cells cs 27 (0, 0))) (i : Nat) (u : Value) : (w.setCell ⟨B, i, none⟩ u).ownsRow w0.heap.size 9 1 v m xs := by
  refine gOwn_set h _ _ (fun e => ?_)
  rcases h.2 with ⟨rfl, -⟩ | ⟨g, cap, cur, rfl, -, hg, -⟩
  · cases e
  · have e2 : g = B := by simpa [Value.ownBlock] using e
    subst e2
    rw [hg] at hB
    simp at hB
theorem key_sets {x0 x1 x2 x3 x4 x5 y0 y1 y2 y3 y4 y5 : Value} (hB : w.heap[B]? = some (.cells #[y0, y1, y2, y3, y4, y5] 27 (0, 0))) : ((((((w.setCell ⟨B, 0, none⟩ (x0)).setCell ⟨B, 1, none⟩ (x1)).setCell ⟨B, 2, none⟩ (x2)).setCell ⟨B, 3, none⟩ (x3)).setCell ⟨B, 4, none⟩ (x4)).setCell ⟨B, 5, none⟩ (x5)).heap[B]? = some (.cells #[x0, x1, x2, x3, x4, x5] 27 (0, 0)) := by
  have h0 := block_setCell (i := 0) hB x0
  have h1 := block_setCell (i := 1) h0 x1
  have h2 := block_setCell (i := 2) h1 x2
  have h3 := block_setCell (i := 3) h2 x3
  have h4 := block_setCell (i := 4) h3 x4
  have h5 := block_setCell (i := 5) h4 x5
  simpa using h5
theorem grown_setK (w : World) (B i : Nat) (v : Value) : w.grownBy (w.setCell ⟨B, i, none⟩ v) (some B) :=
  ⟨rfl, rfl, rfl, by simp, fun k hk hne => Below.heap_setCell w ⟨B, i, none⟩ v k (fun e => hne (by rw [e]))⟩
theorem grown_sets (x0 x1 x2 x3 x4 x5 : Value) : w.grownBy ((((((w.setCell ⟨B, 0, none⟩ (x0)).setCell ⟨B, 1, none⟩ (x1)).setCell ⟨B, 2, none⟩ (x2)).setCell ⟨B, 3, none⟩ (x3)).setCell ⟨B, 4, none⟩ (x4)).setCell ⟨B, 5, none⟩ (x5)) (some B) := grown_trans (grown_trans (grown_trans (grown_trans (grown_trans (grown_setK _ _ _ _) (grown_setK _ _ _ _)) (grown_setK _ _ _ _)) (grown_setK _ _ _ _)) (grown_setK _ _ _ _)) (grown_setK _ _ _ _)
theorem own_sets {v : Value} {m : Nat} {xs : List Value} {cs : Array Value} (h : w.ownsRow w0.heap.size 9 1 v m xs) (hB : w.heap[B]? = some (.cells cs 27 (0, 0))) (x0 x1 x2 x3 x4 x5 : Value) : ((((((w.setCell ⟨B, 0, none⟩ (x0)).setCell ⟨B, 1, none⟩ (x1)).setCell ⟨B, 2, none⟩ (x2)).setCell ⟨B, 3, none⟩ (x3)).setCell ⟨B, 4, none⟩ (x4)).setCell ⟨B, 5, none⟩ (x5)).ownsRow w0.heap.size 9 1 v m xs := by
  refine h.kept (grown_sets x0 x1 x2 x3 x4 x5) ?_
  cases hv : v.ownBlock with
  | none => exact .inl rfl
  | some k => exact .inr (fun e => by
      cases e
      rcases h.2 with ⟨rfl, -⟩ | ⟨g, cap, cur, rfl, -, hg, -⟩
      · cases hv
      · have e2 : g = B := by simpa [Value.ownBlock] using hv
        subst e2
        rw [hg] at hB
        simp at hB)
theorem dk_grown (h : DK w0 G a n cap zs w) (hg : w.grownBy w1 (some B)) (hB : w0.heap.size < B) : DK w0 G a n cap zs w1 :=
  ⟨rd_grown h.1 hg (fun k hk => by cases hk; have := h.2.2.2; omega), ⟨hg.os.trans h.2.1.os, hg.tape.trans h.2.1.tape, hg.output.trans h.2.1.output, Nat.le_trans h.2.1.size hg.size, fun k hk hne => (hg.block k (Nat.lt_of_lt_of_le hk h.2.1.size) (fun e => by cases e; omega)).trans (h.2.1.block k hk hne)⟩, (hg.block _ (dk_lt h) (fun e => by cases e; omega)).trans h.2.2.1, h.2.2.2⟩
theorem dk_set6 {t1 : ByteArray} {x2 : Int} {t3 t4 : ByteArray} {ad : Option Addr} {cp : Nat} {t5 : ByteArray} (h : DK w0 G a n cap zs w) (hlt : w0.heap.size < B) (hk : KSh w0 w B) (hok : KOk t1 x2 t3 t4 ⟨#[]⟩) (ht : t5.size ≤ 8) (ho : w.ownsRow w0.heap.size 9 1 (.slice ad 1 cp) 1 [.string t5]) :
    DK w0 G a n cap zs ((((((w.setCell ⟨B, 0, none⟩ (.string t1)).setCell ⟨B, 1, none⟩ (.int .i64 x2)).setCell ⟨B, 2, none⟩ (.string t3)).setCell ⟨B, 3, none⟩ (.string t4)).setCell ⟨B, 4, none⟩ (.slice ad 1 cp)).setCell ⟨B, 5, none⟩ (.string ⟨#[]⟩)) ∧ KeepK w0 w ((((((w.setCell ⟨B, 0, none⟩ (.string t1)).setCell ⟨B, 1, none⟩ (.int .i64 x2)).setCell ⟨B, 2, none⟩ (.string t3)).setCell ⟨B, 3, none⟩ (.string t4)).setCell ⟨B, 4, none⟩ (.slice ad 1 cp)).setCell ⟨B, 5, none⟩ (.string ⟨#[]⟩)) := by
  obtain ⟨nm, kd, on, pa, ad2, fl, cp2, re, h1, -⟩ := hk
  have hg : w.grownBy ((((((w.setCell ⟨B, 0, none⟩ (.string t1)).setCell ⟨B, 1, none⟩ (.int .i64 x2)).setCell ⟨B, 2, none⟩ (.string t3)).setCell ⟨B, 3, none⟩ (.string t4)).setCell ⟨B, 4, none⟩ (.slice ad 1 cp)).setCell ⟨B, 5, none⟩ (.string ⟨#[]⟩)) (some B) := grown_sets _ _ _ _ _ _
  have hs : ((((((w.setCell ⟨B, 0, none⟩ (.string t1)).setCell ⟨B, 1, none⟩ (.int .i64 x2)).setCell ⟨B, 2, none⟩ (.string t3)).setCell ⟨B, 3, none⟩ (.string t4)).setCell ⟨B, 4, none⟩ (.slice ad 1 cp)).setCell ⟨B, 5, none⟩ (.string ⟨#[]⟩)).heap[B]? = some (.cells #[.string t1, .int .i64 x2, .string t3, .string t4, .slice ad 1 cp, .string ⟨#[]⟩] 27 (0, 0)) := key_sets h1
  refine ⟨dk_grown h hg hlt, fun C xs hC => ?_, fun v m xs hv => own_sets hv h1 _ _ _ _ _ _, fun C hC hk2 => ?_⟩
  · refine (hg.block C (Array.getElem?_eq_some_iff.1 hC).1 (fun e => ?_)).trans hC
    cases e
    rw [h1] at hC
    simp at hC
  · by_cases e : C = B
    · subst e
      exact ⟨t1, x2, t3, t4, ad, [t5], cp, ⟨#[]⟩, hs, hok, by simp, fun t ht2 => by rw [List.mem_singleton] at ht2; subst ht2; exact ht, own_sets ho h1 _ _ _ _ _ _⟩
    · obtain ⟨nm', kd', on', pa', ad', fl', cp', re', g1, g2, g3, g4, g5⟩ := hk2
      exact ⟨nm', kd', on', pa', ad', fl', cp', re', (hg.block C (Array.getElem?_eq_some_iff.1 g1).1 (fun e2 => e (by cases e2; rfl))).trans g1, g2, g3, g4, own_sets g5 h1 _ _ _ _ _ _⟩
theorem ke_grown {b : Nat} {nm : ByteArray} {kd : Int} {on pa : ByteArray} {ad : Option Addr} {fl : List ByteArray} {cp : Nat} {re : ByteArray} (h : KE b w0 w B nm kd on pa ad fl cp re) (hd : w.grownBy w1 (some G)) (hG : G < w0.heap.size) (hB : w0.heap.size < B) : KE b w0 w1 B nm kd on pa ad fl cp re :=
  ⟨(hd.block B (Array.getElem?_eq_some_iff.1 h.1).1 (fun e => by cases e; omega)).trans h.1, h.2.1, h.2.2.1, h.2.2.2.1, own_low h.2.2.2.2 hd hG⟩
theorem ke_below {b : Nat} {nm : ByteArray} {kd : Int} {on pa : ByteArray} {ad : Option Addr} {fl : List ByteArray} {cp : Nat} {re : ByteArray} (h : KE b w0 w B nm kd on pa ad fl cp re) (hb : Below w.heap.size w w1) : KE b w0 w1 B nm kd on pa ad fl cp re :=
  ⟨(hb.block B (Array.getElem?_eq_some_iff.1 h.1).1).trans h.1, h.2.1, h.2.2.1, h.2.2.2.1, own_none h.2.2.2.2 ⟨hb.os, hb.tape, hb.output, hb.size, fun k hk _ => hb.block k hk⟩⟩
theorem ke_two {nm : ByteArray} {kd : Int} {on pa : ByteArray} {ad : Option Addr} {fl : List ByteArray} {cp : Nat} {re : ByteArray} (h : KE 1 w0 w B nm kd on pa ad fl cp re) : KE 2 w0 w B nm kd on pa ad fl cp re := ⟨h.1, h.2.1, Nat.le_trans h.2.2.1 (by omega), h.2.2.2⟩
theorem ke_set5 {b : Nat} {nm : ByteArray} {kd : Int} {on pa : ByteArray} {ad : Option Addr} {fl : List ByteArray} {cp : Nat} {re R : ByteArray} (h : KE b w0 w B nm kd on pa ad fl cp re) (hR : R.size ≤ 8) : KE b w0 (w.setCell ⟨B, 5, none⟩ (.string R)) B nm kd on pa ad fl cp R := by
  obtain ⟨h1, ⟨k0, k1, k2, k3, k4⟩, h3, h4, h5⟩ := h
  exact ⟨heap_setCell_same w B 5 _ _ _ h1, ⟨k0, k1, k2, hR, k4⟩, h3, h4, own_keyset h5 h1 5 _⟩
theorem own_not {v : Value} {m : Nat} {xs : List Value} {cs : Array Value} (h : w.ownsRow w0.heap.size 9 1 v m xs) (hB : w.heap[B]? = some (.cells cs 27 (0, 0))) : v.ownBlock ≠ some B := fun hv => by
  rcases h.2 with ⟨rfl, -⟩ | ⟨g, cap, cur, rfl, -, hg, -⟩
  · cases hv
  · have e2 : g = B := by simpa [Value.ownBlock] using hv
    subst e2
    rw [hg] at hB
    simp at hB
/-- Behind the append: the block holds the old row's head, the longer row is the call's own. -/
def KM (w0 : World) (w : World) (B : Nat) (nm : ByteArray) (kd : Int) (on pa : ByteArray) (sl : Value) (ad : Option Addr) (fl : List ByteArray) (n cp : Nat) (re : ByteArray) : Prop := w.heap[B]? = some (.cells #[.string nm, .int .i64 kd, .string on, .string pa, sl, .string re] 27 (0, 0)) ∧ KOk nm kd on pa re ∧ fl.length = n ∧ n ≤ 2 ∧ (∀ t ∈ fl, t.size ≤ 8) ∧ w.ownsRow w0.heap.size 9 1 (.slice ad n cp) n (fl.map Value.string)
theorem ke_own {nm : ByteArray} {kd : Int} {on pa : ByteArray} {ad : Option Addr} {fl : List ByteArray} {cp : Nat} {re t2 : ByteArray} {gg cap9 : Nat} (h : KE 1 w0 w B nm kd on pa ad fl cp re) (hg : w.grownBy w1 (Value.slice ad fl.length cp).ownBlock) (ho : w1.ownsRow w0.heap.size 9 1 (.slice (some ⟨gg, 0, none⟩) (fl.length + 1) cap9) (fl.length + 1) (fl.map Value.string ++ [.string t2])) (ht : t2.size ≤ 8) :
    KM w0 w1 B nm kd on pa (.slice ad fl.length cp) (some ⟨gg, 0, none⟩) (fl ++ [t2]) (fl.length + 1) cap9 re := by
  obtain ⟨h1, h2, h3, h4, h5⟩ := h
  have hne := own_not h5 h1
  refine ⟨(hg.block B (Array.getElem?_eq_some_iff.1 h1).1 (fun e => hne e.symm)).trans h1, h2, by simp, by omega, fun t ht2 => ?_, by rw [List.map_append]; exact ho⟩
  rcases List.mem_append.1 ht2 with h | h
  · exact h4 t h
  · rw [List.mem_singleton] at h; subst h; exact ht
theorem ke_set4 {nm : ByteArray} {kd : Int} {on pa : ByteArray} {sl : Value} {gg m cap9 : Nat} {fl : List ByteArray} {re : ByteArray} (h : KM w0 w B nm kd on pa sl (some ⟨gg, 0, none⟩) fl m cap9 re) : KE 2 w0 (w.setCell ⟨B, 4, none⟩ (.slice (some ⟨gg, 0, none⟩) m cap9)) B nm kd on pa (some ⟨gg, 0, none⟩) fl cap9 re := by
  obtain ⟨h1, h2, h3, h4, h5, h6⟩ := h
  subst h3
  exact ⟨heap_setCell_same w B 4 _ _ _ h1, h2, h4, h5, own_keyset h6 h1 4 _⟩
theorem dk_own {v : Value} {m : Nat} {xs : List Value} (h : DK w0 G a n cap zs w) (ho : w.ownsRow w0.heap.size 9 1 v m xs) (hg : w.grownBy w1 v.ownBlock) : DK w0 G a n cap zs w1 := by
  have hlo : ∀ k, v.ownBlock = some k → w0.heap.size ≤ k := fun k hk => (ho.lt k hk).1
  have hne := own_not ho h.2.2.1
  refine ⟨rd_grown h.1 hg (fun k hk => by have := hlo k hk; have := h.2.2.2; omega), ⟨hg.os.trans h.2.1.os, hg.tape.trans h.2.1.tape, hg.output.trans h.2.1.output, Nat.le_trans h.2.1.size hg.size, fun k hk hne2 => (hg.block k (Nat.lt_of_lt_of_le hk h.2.1.size) (fun e => by have := hlo k e.symm; omega)).trans (h.2.1.block k hk hne2)⟩, (hg.block _ (dk_lt h) (fun e => hne e.symm)).trans h.2.2.1, h.2.2.2⟩
theorem drew_res (h : DK w0 G a n cap zs w) (x0 x1 x2 x3 x4 x5 : Value) : Drew G a n cap zs w0 ((((((w.setCell ⟨w0.heap.size, 0, none⟩ (x0)).setCell ⟨w0.heap.size, 1, none⟩ (x1)).setCell ⟨w0.heap.size, 2, none⟩ (x2)).setCell ⟨w0.heap.size, 3, none⟩ (x3)).setCell ⟨w0.heap.size, 4, none⟩ (x4)).setCell ⟨w0.heap.size, 5, none⟩ (x5)) := by
  have hg : w.grownBy ((((((w.setCell ⟨w0.heap.size, 0, none⟩ (x0)).setCell ⟨w0.heap.size, 1, none⟩ (x1)).setCell ⟨w0.heap.size, 2, none⟩ (x2)).setCell ⟨w0.heap.size, 3, none⟩ (x3)).setCell ⟨w0.heap.size, 4, none⟩ (x4)).setCell ⟨w0.heap.size, 5, none⟩ (x5)) (some w0.heap.size) := grown_sets _ _ _ _ _ _
  exact ⟨rd_grown h.1 hg (fun k hk => by cases hk; have := h.2.2.2; omega), ⟨hg.os.trans h.2.1.os, hg.tape.trans h.2.1.tape, hg.output.trans h.2.1.output, Nat.le_trans h.2.1.size hg.size, fun k hk hne => (hg.block k (Nat.lt_of_lt_of_le hk h.2.1.size) (fun e => by cases e; omega)).trans (h.2.1.block k hk hne)⟩⟩
end
def DDk : Nat → Nat := fun k => if k ≤ 22 then k + 6 else if k = 23 then 5 else 100
end Go.Proofs.YtdepgkpfibmbgaaGreatDoor
