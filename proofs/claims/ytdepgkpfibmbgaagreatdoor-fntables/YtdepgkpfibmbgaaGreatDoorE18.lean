/-
  Texts put together: FfD, KyD1, RegInv.
-/
import Derived.Test.YtdepgkpfibmbgaaGreatDoorE17
import Derived.Laws.BytesArg
import Derived.Test.YtdepgkpfibmbgaaGreatDoorE1
import Derived.Orders
import Derived.RegionTactic
import Derived.WalkKit
/-
  Contract: what is drawn for a field: a document, a place, a field.
-/
namespace Go.Proofs.YtdepgkpfibmbgaaGreatDoor
open Go.RowKit Go.Joins
set_option linter.unusedVariables false
set_option linter.unusedSimpArgs false
theorem str_cellP {w w1 : World} {G : Nat} (Q : ByteArray → Prop) {cs : Array Value} {T : TypeId} {x : Int} {N : Nat} (hg : (w.alloc (.cells cs T)).grownBy w1 (some G)) (h0 : 0 ≤ x) (hx : x < N) (hN : cs.size = N) (hG : G < w.heap.size) (hK : ∀ k, k < N → ∃ s : ByteArray, cs[k]? = some (.string s) ∧ Q s) : ∃ s : ByteArray, w1.cell? ⟨w.heap.size, x.toNat, none⟩ = some (.string s) ∧ Q s := by
  have hb := hg.block w.heap.size (by simp) (fun e => by cases e; omega)
  rw [World.cell?_of_block (a := ⟨w.heap.size, x.toNat, none⟩) hb, cell_of_row _ w.heap.size x.toNat _ T (0, 0) (heap_alloc_new w _)]
  exact hK x.toNat (by omega)
set_option maxHeartbeats 1000000 in
theorem d_field (G : Nat) (a : Option Addr) (n cap : Nat) (zs : List Int) (w : World) (h : RdAt w G a n cap zs) :
    Calls Tryz.prog 48 #[.pointer (some ⟨G, 0, none⟩)] w fun e w' => ∃ s : ByteArray, (s.size ≤ 8 ∧ 1 ≤ s.size) ∧ e = .returned (.string s) ∧ Drew G a n cap zs w w' := by
  have HH := hide h
  have hG := rd_lt h
  clear h
  go_enter Tryz.func48, Tryz.ntmps48
  go_wp2_with fail
  refine (d_below G a n cap zs 11 _ (by omega) (by omega) (rd_alloc HH.out _)).mono ?_
  rintro e w1 ⟨x, hx0, hx1, rfl, hd⟩
  obtain ⟨s, hs, hs1⟩ := str_cellP (fun s => s.size ≤ 8 ∧ 1 ≤ s.size) hd.2 hx0 hx1 rfl hG (fun k hk => by
    have hk' : k < 11 := hk
    have hx : k = 0 ∨ k = 1 ∨ k = 2 ∨ k = 3 ∨ k = 4 ∨ k = 5 ∨ k = 6 ∨ k = 7 ∨ k = 8 ∨ k = 9 ∨ k = 10 := by omega
    rcases hx with e | e | e | e | e | e | e | e | e | e | e <;> subst e <;> exact ⟨_, rfl, by decide⟩)
  have HD := hide (drew_alloc _ hd)
  clear hd
  go_wp2
  go_ret
  exact ⟨s, hs1, rfl, HD.out⟩
end Go.Proofs.YtdepgkpfibmbgaaGreatDoor

/-
  Contract of the specification: the text of a number of one digit.
-/
namespace Go.Proofs.YtdepgkpfibmbgaaGreatDoor
open Go.RowKit Go.Joins
set_option linter.unusedVariables false
set_option linter.unusedSimpArgs false
theorem conv_newK (w : World) (xs : List Int) :
    (convert 22 9 (.slice (some ⟨w.heap.size, 0, none⟩) xs.length xs.length)).run Tryz.prog (w.alloc (.cells (xs.map (Value.int .u8)).toArray 5)) = .ok (.string (strOfNums xs)) (w.alloc (.cells (xs.map (Value.int .u8)).toArray 5)) := by
  refine run_convert_bytes_arg _ 22 5 Tryz.underlying22 Tryz.underlying5 w.heap.size 0 xs.length xs.length xs rfl ?_ 9 Tryz.underlying9
  intro i hi
  rw [show (0 + i) = i by omega, cell_of_row _ w.heap.size i _ 5 (0, 0) (heap_alloc_new w _)]
  simp [List.getElem?_eq_getElem hi]
set_option maxRecDepth 100000 in
set_option maxHeartbeats 4000000 in
theorem s_dig1 (n : Int) (w : World) (h0 : 0 ≤ n) (h9 : n < 10) : Calls Tryz.prog 47 #[.int .i64 n] w fun e w' => ∃ s : ByteArray, s.size ≤ 4 ∧ e = .returned (.string s) ∧ Below w.heap.size w w' := by
  have hcv := conv_newK w [48 + n]
  simp only [List.map_cons, List.map_nil, List.length_cons, List.length_nil, Nat.zero_add] at hcv
  have hsz : (strOfNums [48 + n]).size = 1 := rfl
  obtain ⟨S, hS⟩ : ∃ S, strOfNums [48 + n] = S := ⟨_, rfl⟩
  rw [hS] at hcv hsz
  have hs1 : S.size ≤ 1 := by omega
  have HZ := hide hs1
  clear hS hsz
  go_enter Tryz.func47, Tryz.ntmps47
  go_wp2
  go_loopw [0, 3] (fun nv sv wr => nv = .int .i64 n ∧ sv = .string ⟨#[]⟩ ∧ wr = w) (fun _ _ _ => 0)
  case atStart => exact ⟨rfl, rfl, rfl⟩
  case round =>
    obtain ⟨rfl, rfl, rfl⟩ := hrel
    go_wp2
    go_ret
    refine ⟨_, ?_, rfl, (Below.refl _ _).alloc (Nat.le_refl _) _⟩
    first | (have h8 := HZ.out; omega) | (rw [ByteArray.size_append]; have h8 := HZ.out; show 0 + _ ≤ _; omega) | (rw [ByteArray.size_append]; have h8 := HZ.out; show _ + 0 ≤ _; omega)
end Go.Proofs.YtdepgkpfibmbgaaGreatDoor

/-
  Plain facts, of no program: a region that draws its order of evaluation, by an invariant: what each operation leaves in its place, whatever came up ahead of it.
-/
namespace Go.Proofs.YtdepgkpfibmbgaaGreatDoor
open Go.RowKit
set_option linter.unusedVariables false
set_option linter.unusedSimpArgs false
theorem filter_less {p p' : Nat → Bool} {i : Nat} (hpp : ∀ k, p' k = true → p k = true) (hi : p i = true) (hi' : p' i = false) : ∀ (xs : List Nat), i ∈ xs → (xs.filter p').length < (xs.filter p).length
  | [], h => by cases h
  | x :: xs, h => by
    have hle : ∀ ys : List Nat, (ys.filter p').length ≤ (ys.filter p).length := by
      intro ys
      induction ys with
      | nil => simp
      | cons y ys ih =>
        by_cases hy : p' y = true
        · rw [List.filter_cons_of_pos hy, List.filter_cons_of_pos (hpp y hy)]; simpa using ih
        · rw [List.filter_cons_of_neg hy]
          by_cases hz : p y = true
          · rw [List.filter_cons_of_pos hz, List.length_cons]; omega
          · rw [List.filter_cons_of_neg hz]; exact ih
    rcases List.mem_cons.1 h with e | e
    · subst e
      rw [List.filter_cons_of_neg (by rw [hi']; decide), List.filter_cons_of_pos hi, List.length_cons]
      have := hle xs
      omega
    · have ih := filter_less hpp hi hi' xs e
      by_cases hy : p' x = true
      · rw [List.filter_cons_of_pos hy, List.filter_cons_of_pos (hpp x hy)]; simpa using ih
      · rw [List.filter_cons_of_neg hy]
        by_cases hz : p x = true
        · rw [List.filter_cons_of_pos hz, List.length_cons]; omega
        · rw [List.filter_cons_of_neg hz]; exact ih
section
variable {P : Program} {ops : Array Oper} {Q : Exit → Act → World → Prop}
/-- How many operations have not come up yet. -/
def left (n : Nat) (l : Array Bool) : Nat := ((List.range n).filter fun k => !(l.getD k true)).length
theorem left_less {n i : Nat} {l : Array Bool} (hi : i < n) (h : l.getD i true = false) : left n (l.setIfInBounds i true) < left n l := by
  have hsz : i < l.size := by
    rcases Nat.lt_or_ge i l.size with h' | h'
    · exact h'
    · rw [Array.getD_eq_getD_getElem?, Array.getElem?_eq_none h'] at h; simp at h
  refine filter_less (i := i) (fun k hk => ?_) (by simp [h]) ?_ _ (List.mem_range.2 hi)
  · by_cases e : i = k
    · subst e; simp [h]
    · rw [getD_set_ne true e] at hk; exact hk
  · rw [Array.getD_eq_getD_getElem?]
    simp [hsz]
theorem wpAny_inv (I : Array Bool → Act → World → Prop)
    (hdone : ∀ l a w, I l a w → Region.ready .any ops l = [] → Q .normal a w)
    (hstep : ∀ l a w i, I l a w → i ∈ Region.ready .any ops l → wpOp P ops Q i (I (l.setIfInBounds i true)) a w) :
    ∀ (fuel : Nat) (l : Array Bool) (a : Act) (w : World), left ops.size l ≤ fuel → I l a w → wpAny P .any ops Q fuel l a w := by
  have hlt : ∀ (l : Array Bool) (i : Nat), i ∈ Region.ready .any ops l → i < ops.size ∧ l.getD i true = false := by
    intro l i hi
    obtain ⟨h0, o, ho, _⟩ := mem_ready.1 hi
    exact ⟨(Array.getElem?_eq_some_iff.1 ho).1, h0⟩
  intro fuel
  induction fuel with
  | zero =>
    intro l a w hf hI
    have hnil : Region.ready .any ops l = [] := by
      cases hr : Region.ready .any ops l with
      | nil => rfl
      | cons i is =>
        obtain ⟨h1, h2⟩ := hlt l i (by rw [hr]; exact List.mem_cons_self ..)
        have := left_less h1 h2
        omega
    exact ⟨hnil, hdone l a w hI hnil⟩
  | succ fuel ih =>
    intro l a w hf hI
    refine ⟨hdone l a w hI, fun i hi => ?_⟩
    obtain ⟨h1, h2⟩ := hlt l i hi
    have := left_less h1 h2
    exact wpOp_mono (fun a' w' h' => ih _ a' w' (by omega) h') (hstep l a w i hI hi)
/-- A region that draws its order: 'V i' is what operation 'i' leaves at its place 'D i' of the frame 'A'; 'J' is what holds of the world throughout. -/
theorem wp_region_inv {id : Nat} {w : World} (hm : P.follows .mixedOrders = true)
    (hlow : (List.range ops.size).all (fun i => ((ops[i]?).map fun o => o.after.all fun e => !(Region.binds .any e) || decide (e.on < i)).getD true) = true)
    (A : (Nat → Value) → Act) (D : Nat → Nat) (V : Nat → Value → World → Prop) (J : World → Prop) (u0 : Nat → Value) (hJ : J { w with drawn := w.drawn + 1 })
    (hput : ∀ i o, ops[i]? = some o → ∀ u v, (A u).put o.dst v = A (fun k => if k = D i then v else u k))
    (hD : ∀ i k, i < ops.size → k < ops.size → i ≠ k → D i ≠ D k)
    (step : ∀ i o, ops[i]? = some o → ∀ u w, J w → (∀ e ∈ o.after, Region.binds .any e = true → V e.on (u (D e.on)) w) →
      ∀ K : Act → World → Prop, (∀ v w', J w' → V i v w' → (∀ k x, V k x w → V k x w') → K ((A u).put o.dst v) w') →
        if Region.wanted o (yielded ops (A u).tmps) = true then Oper.wp P o (A u) w K Q else K ((A u).put o.dst undef) w)
    (done : ∀ u w, J w → (∀ k, k < ops.size → V k (u (D k)) w) → Q .normal (A u) w) :
    (Code.region id ops true).wp P Q (A u0) w := by
  refine wp_region_any hm ?_
  refine wpAny_inv (fun l a w => l.size = ops.size ∧ J w ∧ ∃ u, a = A u ∧ ∀ k, k < ops.size → l.getD k false = true → V k (u (D k)) w) ?_ ?_ _ _ _ _ ?_ ?_
  · rintro l a w ⟨hl, hj, u, rfl, hV⟩ hr
    refine done u w hj (fun k hk => hV k hk ?_)
    have all : ∀ (n : Nat), n ≤ ops.size → ∀ k, k < n → l.getD k false = true := by
      intro n
      induction n with
      | zero => intro _ k hk; omega
      | succ n ih =>
        intro hn k hk
        by_cases e : k < n
        · exact ih (by omega) k e
        · have e : k = n := by omega
          subst e
          have hks : k < ops.size := by omega
          cases hb : l.getD k true with
          | true =>
            rw [Array.getD_eq_getD_getElem?, Array.getElem?_eq_getElem (by omega)] at hb ⊢
            simpa using hb
          | false =>
            exfalso
            have hmem : k ∈ Region.ready .any ops l := by
              refine mem_ready.2 ⟨hb, ops[k], Array.getElem?_eq_getElem hks, fun e he hbd => ?_⟩
              have h1 := List.all_eq_true.1 hlow k (List.mem_range.2 hks)
              rw [Array.getElem?_eq_getElem hks] at h1
              simp only [Option.map_some, Option.getD_some] at h1
              have h2 := Array.all_eq_true_iff_forall_mem.1 h1 e he
              rw [hbd] at h2
              exact ih (by omega) e.on (of_decide_eq_true (by simpa using h2))
            rw [hr] at hmem
            cases hmem
    exact all ops.size (Nat.le_refl _) k hk
  · rintro l a w i ⟨hl, hj, u, rfl, hV⟩ hi
    obtain ⟨h0, o, ho, hdep⟩ := mem_ready.1 hi
    have hilt := (Array.getElem?_eq_some_iff.1 ho).1
    refine wpOp_step ho (fun K' hK => ?_)
    refine step i o ho u w hj (fun e he hb => ?_) K' (fun v w' hj' hv hmono => ?_)
    · have h1 := List.all_eq_true.1 hlow i (List.mem_range.2 hilt)
      rw [ho] at h1
      simp only [Option.map_some, Option.getD_some] at h1
      have h2 := Array.all_eq_true_iff_forall_mem.1 h1 e he
      rw [hb] at h2
      have h3 : e.on < i := of_decide_eq_true (by simpa using h2)
      exact hV e.on (by omega) (hdep e he hb)
    · refine hK _ _ ⟨by simp [hl], hj', _, hput i o ho u v, fun k hk hl' => ?_⟩
      by_cases e : i = k
      · subst e; simpa using hv
      · have hd := hD k i hk hilt (fun h => e h.symm)
        rw [if_neg hd]
        rw [getD_set_ne false e] at hl'
        exact hmono k _ (hV k hk hl')
  · have : left ops.size (Array.replicate ops.size false) ≤ (List.range ops.size).length := List.length_filter_le _ _
    simpa using this
  · refine ⟨by simp, hJ, u0, rfl, fun k hk hl => ?_⟩
    rw [Array.getD_eq_getD_getElem?] at hl
    simp [hk] at hl
end
end Go.Proofs.YtdepgkpfibmbgaaGreatDoor
