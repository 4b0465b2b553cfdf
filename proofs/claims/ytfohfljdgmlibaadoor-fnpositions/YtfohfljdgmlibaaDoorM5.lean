/-
  Texts put together: DrOff, RegInv, RmD, BtMath, Shelf, BtI, PaI.
-/
import Derived.Test.YtfohfljdgmlibaaDoorM4
import Derived.Test.YtfohfljdgmlibaaDoorM1
import Derived.Orders
import Derived.RegionTactic
import Derived.WalkKit
import Derived.Lib.TrailingZeros
import Derived.Shelf.Lays7
import Derived.Shelf.Spec.TrailingZeros
import Derived.Test.YtfohfljdgmlibaaDoorProg
import Derived.Laws.Bits64b
import Derived.Laws.BitsAllLaws
/-
  Contracts of the drawing reader: a number in a range, or just outside of it, and a text: what it leaves.
-/
namespace Go.Proofs.YtfohfljdgmlibaaDoor
open Go.RowKit
set_option linter.unusedVariables false
set_option linter.unusedSimpArgs false
theorem below_drew {G : Nat} {a : Option Addr} {n cap : Nat} {zs : List Int} {w w1 w2 : World} (h : Below G w w1) (hd : Drew G a n cap zs w1 w2) (hG : G ≤ w1.heap.size) : Below G w w2 :=
  h.grown hd.2 hG (fun k hk => by cases hk; exact Nat.le_refl _)
theorem drew_refl {G : Nat} {a : Option Addr} {n cap : Nat} {zs : List Int} {w : World} (h : RdAt w G a n cap zs) : Drew G a n cap zs w w := ⟨h, grown_refl w _⟩
theorem off_cell (w w1 : World) (G : Nat) (x : Int) (h0 : 0 ≤ x) (h7 : x < 4) (hG : G < w.heap.size) {p q r s : Int} {T : TypeId}
    (hg : (w.alloc (.cells #[.int .i64 p, .int .i64 q, .int .i64 r, .int .i64 s] T)).grownBy w1 (some G)) :
    ∃ y : Int, w1.cell? ⟨w.heap.size, x.toNat, none⟩ = some (.int .i64 y) := by
  have hb := hg.block w.heap.size (by simp) (fun e => by cases e; omega)
  rw [World.cell?_of_block (a := ⟨w.heap.size, x.toNat, none⟩) hb, cell_of_row _ w.heap.size x.toNat _ T (0, 0) (heap_alloc_new w _)]
  have hx : x.toNat = 0 ∨ x.toNat = 1 ∨ x.toNat = 2 ∨ x.toNat = 3 := by omega
  rcases hx with e | e | e | e <;> rw [e] <;> exact ⟨_, rfl⟩
set_option maxHeartbeats 1000000 in
theorem d_word (G : Nat) (a : Option Addr) (n cap : Nat) (zs : List Int) (w : World) (h : RdAt w G a n cap zs) :
    Calls Tryd.prog 94 #[.pointer (some ⟨G, 0, none⟩)] w fun e w' => ∃ x : Int, e = .returned (.int .u64 x) ∧ Drew G a n cap zs w w' := by
  have HH := hide h
  clear h
  go_enter Tryd.func94, Tryd.ntmps94
  go_wp2
  go_loopw [3, 4] (fun vx vi wr => ∃ (x : Int) (k : Nat), vx = .int .u64 x ∧ vi = .int .i64 k ∧ k ≤ 8 ∧ Hid (Drew G a n cap zs w wr)) (fun _ vi _ => 8 - (intOf vi).toNat)
  case atStart => exact ⟨0, 0, rfl, rfl, by omega, hide (drew_refl HH.out)⟩
  case round =>
    obtain ⟨x, k, rfl, rfl, hk, HD⟩ := hrel
    by_cases hlt : k < 8
    · go_wp2_with fail
      refine (d_next G a n cap zs _ HD.out.1).mono ?_
      rintro e w2 ⟨y, hy0, hy1, rfl, hd⟩
      have HD2 := hide (drew_trans HD.out hd)
      clear hd
      go_wp2
      go_roundw
      case rel => exact ⟨_, k + 1, rfl, by go_num, by omega, HD2⟩
      case measure => simp [intOf]; omega
    · go_wp2
      go_ret
      exact ⟨x, rfl, HD.out⟩
set_option maxHeartbeats 1000000 in
theorem d_nearG (G : Nat) (a : Option Addr) (n cap : Nat) (zs : List Int) (lo hi : Int) (w : World) (h0 : -2 ≤ lo) (h1 : lo ≤ hi) (h2 : hi ≤ 1048576) (h : RdAt w G a n cap zs) :
    Calls Tryd.prog 86 #[.pointer (some ⟨G, 0, none⟩), .int .i64 lo, .int .i64 hi] w fun e w' => ∃ x : Int, e = .returned (.int .i64 x) ∧ Drew G a n cap zs w w' := by
  have HH := hide h
  have hlt : ¬ hi < lo := by omega
  have k1 : IntKind.i64.wrap (hi - lo) = hi - lo := by rw [IntKind.wrap_i64]; omega
  have k2 : IntKind.i64.wrap (hi - lo + 1) = hi - lo + 1 := by rw [IntKind.wrap_i64]; omega
  have k3 : IntKind.u64.wrap (hi - lo + 1) = hi - lo + 1 := by unfold IntKind.wrap; simp [IntKind.signed, IntKind.bits]; omega
  have k4 : ¬ (hi - lo + 1 = 0) := by omega
  have k5 : (hi - lo + 1 == 0) = false := by simp; omega
  clear h
  go_enter Tryd.func86, Tryd.ntmps86
  go_wp2_with fail
  refine (d_below G a n cap zs 8 _ (by omega) (by omega) HH.out).mono ?_
  rintro e w1 ⟨x, hx0, hx1, rfl, hd⟩
  have HD := hide hd
  clear hd
  rcases (show x = 0 ∨ x = 1 ∨ 2 ≤ x by omega) with hx | hx | hx
  · subst hx
    go_wp2
    go_ret
    exact ⟨_, rfl, HD.out⟩
  · subst hx
    go_wp2
    go_ret
    exact ⟨_, rfl, HD.out⟩
  · go_wp2_with fail
    refine (d_word G a n cap zs _ HD.out.1).mono ?_
    rintro e w2 ⟨y, rfl, hd⟩
    have HD2 := hide (drew_trans HD.out hd)
    clear hd
    go_wp2
    go_ret
    exact ⟨_, rfl, HD2.out⟩
set_option maxHeartbeats 1000000 in
theorem d_offG (G : Nat) (a : Option Addr) (n cap : Nat) (zs : List Int) (lo hi : Int) (w : World) (h0 : -2 ≤ lo) (h1 : lo ≤ hi) (h2 : hi ≤ 1048576) (h : RdAt w G a n cap zs) :
    Calls Tryd.prog 64 #[.pointer (some ⟨G, 0, none⟩), .int .i64 lo, .int .i64 hi] w fun e w' => ∃ x : Int, e = .returned (.int .i64 x) ∧ Drew G a n cap zs w w' := by
  have HH := hide h
  clear h
  go_enter Tryd.func64, Tryd.ntmps64
  go_wp2_with fail
  refine (d_once G a n cap zs 24 _ (by omega) (by omega) HH.out).mono ?_
  rintro e w1 ⟨b, rfl, hd⟩
  have HD := hide hd
  have hG := rd_lt hd.1
  clear hd
  cases b
  · go_wp2_with fail
    refine (d_nearG G a n cap zs lo hi _ h0 h1 h2 HD.out.1).mono ?_
    rintro e w2 ⟨y, rfl, hd⟩
    have HD2 := hide (drew_trans HD.out hd)
    clear hd
    go_wp2
    go_ret
    exact ⟨_, rfl, HD2.out⟩
  · go_wp2_with fail
    refine (d_below G a n cap zs 4 _ (by omega) (by omega) (rd_alloc HD.out.1 _)).mono ?_
    rintro e w2 ⟨x, hx0, hx1, rfl, hd⟩
    obtain ⟨y, hy⟩ := off_cell w1 w2 G x hx0 hx1 hG hd.2
    have HD2 := hide (drew_trans HD.out (drew_alloc _ hd))
    clear hd
    go_wp2
    go_ret
    exact ⟨y, rfl, HD2.out⟩
theorem str_cell {w w1 : World} {G : Nat} (K : Nat) {cs : Array Value} {T : TypeId} {x : Int} {N : Nat} (hg : (w.alloc (.cells cs T)).grownBy w1 (some G)) (h0 : 0 ≤ x) (hx : x < N) (hN : cs.size = N) (hG : G < w.heap.size) (hK : ∀ k, k < N → ∃ s : ByteArray, cs[k]? = some (.string s) ∧ s.size ≤ K) : ∃ s : ByteArray, w1.cell? ⟨w.heap.size, x.toNat, none⟩ = some (.string s) ∧ s.size ≤ K := by
  have hb := hg.block w.heap.size (by simp) (fun e => by cases e; omega)
  rw [World.cell?_of_block (a := ⟨w.heap.size, x.toNat, none⟩) hb, cell_of_row _ w.heap.size x.toNat _ T (0, 0) (heap_alloc_new w _)]
  exact hK x.toNat (by omega)
end Go.Proofs.YtfohfljdgmlibaaDoor

/-
  Plain facts, of no program: a region that draws its order of evaluation, by an invariant: what each operation leaves in its place, whatever came up ahead of it.
-/
namespace Go.Proofs.YtfohfljdgmlibaaDoor
open Go.RowKit
set_option linter.unusedVariables false
set_option linter.unusedSimpArgs false
theorem filter_less {p p' : Nat → Bool} {i : Nat} (hpp : ∀ k, p' k = true → p k = true) (hi : p i = true) (hi' : p' i = false) : ∀ (xs : List Nat), i ∈ xs → (xs.filter p').length < (xs.filter p).length
  | [], h => by cases h
  | x :: xs, h => by
    have hle : ∀ ys : List Nat, (ys.filter p').length ≤ (ys.filter p).length := by
      intro ys
      induction ys with
      | nil => simp
      | cons y ys ih =>
        by_cases hy : p' y = true
        · rw [List.filter_cons_of_pos hy, List.filter_cons_of_pos (hpp y hy)]; simpa using ih
        · rw [List.filter_cons_of_neg hy]
          by_cases hz : p y = true
          · rw [List.filter_cons_of_pos hz, List.length_cons]; omega
          · rw [List.filter_cons_of_neg hz]; exact ih
    rcases List.mem_cons.1 h with e | e
    · subst e
      rw [List.filter_cons_of_neg (by rw [hi']; decide), List.filter_cons_of_pos hi, List.length_cons]
      have := hle xs
      omega
    · have ih := filter_less hpp hi hi' xs e
      by_cases hy : p' x = true
      · rw [List.filter_cons_of_pos hy, List.filter_cons_of_pos (hpp x hy)]; simpa using ih
      · rw [List.filter_cons_of_neg hy]
        by_cases hz : p x = true
        · rw [List.filter_cons_of_pos hz, List.length_cons]; omega
        · rw [List.filter_cons_of_neg hz]; exact ih
section
variable {P : Program} {ops : Array Oper} {Q : Exit → Act → World → Prop}
/-- How many operations have not come up yet. -/
def left (n : Nat) (l : Array Bool) : Nat := ((List.range n).filter fun k => !(l.getD k true)).length
theorem left_less {n i : Nat} {l : Array Bool} (hi : i < n) (h : l.getD i true = false) : left n (l.setIfInBounds i true) < left n l := by
  have hsz : i < l.size := by
    rcases Nat.lt_or_ge i l.size with h' | h'
    · exact h'
    · rw [Array.getD_eq_getD_getElem?, Array.getElem?_eq_none h'] at h; simp at h
  refine filter_less (i := i) (fun k hk => ?_) (by simp [h]) ?_ _ (List.mem_range.2 hi)
  · by_cases e : i = k
    · subst e; simp [h]
    · rw [getD_set_ne true e] at hk; exact hk
  · rw [Array.getD_eq_getD_getElem?]
    simp [hsz]
theorem wpAny_inv (I : Array Bool → Act → World → Prop)
    (hdone : ∀ l a w, I l a w → Region.ready .any ops l = [] → Q .normal a w)
    (hstep : ∀ l a w i, I l a w → i ∈ Region.ready .any ops l → wpOp P ops Q i (I (l.setIfInBounds i true)) a w) :
    ∀ (fuel : Nat) (l : Array Bool) (a : Act) (w : World), left ops.size l ≤ fuel → I l a w → wpAny P .any ops Q fuel l a w := by
  have hlt : ∀ (l : Array Bool) (i : Nat), i ∈ Region.ready .any ops l → i < ops.size ∧ l.getD i true = false := by
    intro l i hi
    obtain ⟨h0, o, ho, _⟩ := mem_ready.1 hi
    exact ⟨(Array.getElem?_eq_some_iff.1 ho).1, h0⟩
  intro fuel
  induction fuel with
  | zero =>
    intro l a w hf hI
    have hnil : Region.ready .any ops l = [] := by
      cases hr : Region.ready .any ops l with
      | nil => rfl
      | cons i is =>
        obtain ⟨h1, h2⟩ := hlt l i (by rw [hr]; exact List.mem_cons_self ..)
        have := left_less h1 h2
        omega
    exact ⟨hnil, hdone l a w hI hnil⟩
  | succ fuel ih =>
    intro l a w hf hI
    refine ⟨hdone l a w hI, fun i hi => ?_⟩
    obtain ⟨h1, h2⟩ := hlt l i hi
    have := left_less h1 h2
    exact wpOp_mono (fun a' w' h' => ih _ a' w' (by omega) h') (hstep l a w i hI hi)
/-- A region that draws its order: 'V i' is what operation 'i' leaves at its place 'D i' of the frame 'A'; 'J' is what holds of the world throughout. -/
theorem wp_region_inv {id : Nat} {w : World} (hm : P.follows .mixedOrders = true)
    (hlow : (List.range ops.size).all (fun i => ((ops[i]?).map fun o => o.after.all fun e => !(Region.binds .any e) || decide (e.on < i)).getD true) = true)
    (A : (Nat → Value) → Act) (D : Nat → Nat) (V : Nat → Value → World → Prop) (J : World → Prop) (u0 : Nat → Value) (hJ : J { w with drawn := w.drawn + 1 })
    (hput : ∀ i o, ops[i]? = some o → ∀ u v, (A u).put o.dst v = A (fun k => if k = D i then v else u k))
    (hD : ∀ i k, i < ops.size → k < ops.size → i ≠ k → D i ≠ D k)
    (step : ∀ i o, ops[i]? = some o → ∀ u w, J w → (∀ e ∈ o.after, Region.binds .any e = true → V e.on (u (D e.on)) w) →
      ∀ K : Act → World → Prop, (∀ v w', J w' → V i v w' → (∀ k x, V k x w → V k x w') → K ((A u).put o.dst v) w') →
        if Region.wanted o (yielded ops (A u).tmps) = true then Oper.wp P o (A u) w K Q else K ((A u).put o.dst undef) w)
    (done : ∀ u w, J w → (∀ k, k < ops.size → V k (u (D k)) w) → Q .normal (A u) w) :
    (Code.region id ops true).wp P Q (A u0) w := by
  refine wp_region_any hm ?_
  refine wpAny_inv (fun l a w => l.size = ops.size ∧ J w ∧ ∃ u, a = A u ∧ ∀ k, k < ops.size → l.getD k false = true → V k (u (D k)) w) ?_ ?_ _ _ _ _ ?_ ?_
  · rintro l a w ⟨hl, hj, u, rfl, hV⟩ hr
    refine done u w hj (fun k hk => hV k hk ?_)
    have all : ∀ (n : Nat), n ≤ ops.size → ∀ k, k < n → l.getD k false = true := by
      intro n
      induction n with
      | zero => intro _ k hk; omega
      | succ n ih =>
        intro hn k hk
        by_cases e : k < n
        · exact ih (by omega) k e
        · have e : k = n := by omega
          subst e
          have hks : k < ops.size := by omega
          cases hb : l.getD k true with
          | true =>
            rw [Array.getD_eq_getD_getElem?, Array.getElem?_eq_getElem (by omega)] at hb ⊢
            simpa using hb
          | false =>
            exfalso
            have hmem : k ∈ Region.ready .any ops l := by
              refine mem_ready.2 ⟨hb, ops[k], Array.getElem?_eq_getElem hks, fun e he hbd => ?_⟩
              have h1 := List.all_eq_true.1 hlow k (List.mem_range.2 hks)
              rw [Array.getElem?_eq_getElem hks] at h1
              simp only [Option.map_some, Option.getD_some] at h1
              have h2 := Array.all_eq_true_iff_forall_mem.1 h1 e he
              rw [hbd] at h2
              exact ih (by omega) e.on (of_decide_eq_true (by simpa using h2))
            rw [hr] at hmem
            cases hmem
    exact all ops.size (Nat.le_refl _) k hk
  · rintro l a w i ⟨hl, hj, u, rfl, hV⟩ hi
    obtain ⟨h0, o, ho, hdep⟩ := mem_ready.1 hi
    have hilt := (Array.getElem?_eq_some_iff.1 ho).1
    refine wpOp_step ho (fun K' hK => ?_)
    refine step i o ho u w hj (fun e he hb => ?_) K' (fun v w' hj' hv hmono => ?_)
    · have h1 := List.all_eq_true.1 hlow i (List.mem_range.2 hilt)
      rw [ho] at h1
      simp only [Option.map_some, Option.getD_some] at h1
      have h2 := Array.all_eq_true_iff_forall_mem.1 h1 e he
      rw [hb] at h2
      have h3 : e.on < i := of_decide_eq_true (by simpa using h2)
      exact hV e.on (by omega) (hdep e he hb)
    · refine hK _ _ ⟨by simp [hl], hj', _, hput i o ho u v, fun k hk hl' => ?_⟩
      by_cases e : i = k
      · subst e; simpa using hv
      · have hd := hD k i hk hilt (fun h => e h.symm)
        rw [if_neg hd]
        rw [getD_set_ne false e] at hl'
        exact hmono k _ (hV k hk hl')
  · have : left ops.size (Array.replicate ops.size false) ≤ (List.range ops.size).length := List.length_filter_le _ _
    simpa using this
  · refine ⟨by simp, hJ, u0, rfl, fun k hk hl => ?_⟩
    rw [Array.getD_eq_getD_getElem?] at hl
    simp [hk] at hl
end
end Go.Proofs.YtfohfljdgmlibaaDoor

/-
  Contracts of the drawing reader: the text of a model's part; the drawn model, whatever the code is.
-/
namespace Go.Proofs.YtfohfljdgmlibaaDoor
open Go.RowKit Go.Joins
set_option linter.unusedVariables false
set_option linter.unusedSimpArgs false
/-- How long the text of a part may be. -/
def mtL : Nat → Nat
  | 0 => 2
  | d + 1 => 3 * mtL d + 5
set_option maxRecDepth 100000 in
set_option maxHeartbeats 4000000 in
theorem d_mtextF (G : Nat) (a : Option Addr) (n cap : Nat) (zs : List Int) (d : Nat) (w : World) (hd : d ≤ 2) (h : RdAt w G a n cap zs)
    (hI : ∀ e, d = e + 1 → ∀ w, RdAt w G a n cap zs → Calls Tryd.prog 61 #[.pointer (some ⟨G, 0, none⟩), .int .i64 e] w fun r w' => ∃ t : ByteArray, t.size ≤ mtL e ∧ r = .returned (.string t) ∧ Drew G a n cap zs w w') :
    Calls Tryd.prog 61 #[.pointer (some ⟨G, 0, none⟩), .int .i64 d] w fun r w' => ∃ t : ByteArray, t.size ≤ mtL d ∧ r = .returned (.string t) ∧ Drew G a n cap zs w w' := by
  have HH := hide h
  have hG := rd_lt h
  have HI := hide hI
  clear h hI
  have hm2 : mtL d ≤ 1000 := by
    rcases (show d = 0 ∨ d = 1 ∨ d = 2 by omega) with rfl | rfl | rfl <;> decide
  have hm1 : 2 ≤ mtL d := by
    rcases (show d = 0 ∨ d = 1 ∨ d = 2 by omega) with rfl | rfl | rfl <;> decide
  go_enter Tryd.func61, Tryd.ntmps61
  go_wp2_with fail
  refine (d_below G a n cap zs 5 _ (by omega) (by omega) (rd_alloc HH.out _)).mono ?_
  rintro e w1 ⟨x, hx0, hx1, rfl, hd1⟩
  obtain ⟨sg, hsg, hsg1⟩ := str_cell 1 hd1.2 hx0 hx1 rfl hG (fun k hk => by
    have hk' : k < 5 := hk
    have hx : k = 0 ∨ k = 1 ∨ k = 2 ∨ k = 3 ∨ k = 4 := by omega
    rcases hx with e | e | e | e | e <;> subst e <;> exact ⟨_, rfl, by decide⟩)
  have HD1 := hide (drew_alloc _ hd1)
  have hG1 := rd_lt hd1.1
  clear hd1
  go_upto_region 2 with fail
  clear hsg
  go_cut [19] (fun v wx => ∃ b : Bool, v = .bool b ∧ Hid (Drew G a n cap zs w wx) ∧ (d = 0 → b = true))
  case first =>
    by_cases hd0 : d = 0
    · subst hd0
      go_wp2
      go_meet
      exact ⟨true, rfl, HD1, fun _ => rfl⟩
    · have hd0b : (((d : Nat) : Int) == 0) = false := by simp; omega
      go_wp2_with fail
      refine (d_once G a n cap zs 2 _ (by omega) (by omega) HD1.out.1).mono ?_
      rintro e w2 ⟨b, rfl, hd2⟩
      have HD2 := hide (drew_trans HD1.out hd2)
      clear hd2
      cases b
      all_goals
        go_wp2
        go_meet
        exact ⟨_, rfl, HD2, fun h => absurd h hd0⟩
  case rest =>
    obtain ⟨b, rfl, HD2, hb0⟩ := hcut
    have hG2 := rd_lt HD2.out.1
    clear HD1
    cases b
    case true =>
      go_wp2_with fail
      refine (d_below G a n cap zs 7 _ (by omega) (by omega) (rd_alloc HD2.out.1 _)).mono ?_
      rintro e w3 ⟨y, hy0, hy1, rfl, hd3⟩
      obtain ⟨nm, hnm, hnm1⟩ := str_cell 1 hd3.2 hy0 hy1 rfl hG2 (fun k hk => by
        have hk' : k < 7 := hk
        have hx : k = 0 ∨ k = 1 ∨ k = 2 ∨ k = 3 ∨ k = 4 ∨ k = 5 ∨ k = 6 := by omega
        rcases hx with e | e | e | e | e | e | e <;> subst e <;> exact ⟨_, rfl, by decide⟩)
      have HD3 := hide (drew_trans HD2.out (drew_alloc _ hd3))
      have hsz : ¬ 9223372036854775807 < nm.size + sg.size := by omega
      clear hd3
      go_wp2
      go_ret
      exact ⟨nm ++ sg, by rw [ByteArray.size_append]; omega, rfl, HD3.out⟩
    case false =>
      have hd1 : 1 ≤ d := by
        rcases Nat.eq_zero_or_pos d with h | h
        · cases hb0 h
        · exact h
      obtain ⟨f, rfl⟩ : ∃ f, d = f + 1 := ⟨d - 1, by omega⟩
      have hfi : (((f + 1 : Nat) : Int)) - 1 = (f : Int) := by omega
      have hfw : IntKind.i64.wrap ((((f + 1 : Nat) : Int)) - 1) = (f : Int) := by rw [IntKind.wrap_i64]; omega
      have CI := hide (HI.out f rfl)
      have HML : Hid (mtL (f + 1) = 3 * mtL f + 5) := hide rfl
      obtain ⟨q, hq⟩ : ∃ q, mtL f = q := ⟨_, rfl⟩
      rw [hq] at CI HML
      have hq2 : 3 * q + 5 ≤ 1000 := by rw [← HML.out]; exact hm2
      clear hq hb0 hm2 hm1
      go_wp2_with fail
      refine (CI.out _ HD2.out.1).mono ?_
      rintro e w3 ⟨t0, ht0, rfl, hd3⟩
      have HD3 := hide (drew_trans HD2.out hd3)
      have hG3 := rd_lt hd3.1
      clear hd3 HD2
      go_wp2_with fail
      refine (d_below G a n cap zs 2 _ (by omega) (by omega) (rd_alloc HD3.out.1 _)).mono ?_
      rintro e w4 ⟨y, hy0, hy1, rfl, hd4⟩
      obtain ⟨bt, hbt, hbt1⟩ := str_cell 1 hd4.2 hy0 hy1 rfl hG3 (fun k hk => by
        have hk' : k < 2 := hk
        have hx : k = 0 ∨ k = 1 := by omega
        rcases hx with e | e <;> subst e <;> exact ⟨_, rfl, by decide⟩)
      have HD4 := hide (drew_trans HD3.out (drew_alloc _ hd4))
      clear hd4 HD3
      go_wp2_with fail
      refine (d_below G a n cap zs 3 _ (by omega) (by omega) HD4.out.1).mono ?_
      rintro e w5 ⟨z, hz0, hz1, rfl, hd5⟩
      have HD5 := hide (drew_trans HD4.out hd5)
      clear hd5 HD4 hbt
      go_wp2_with fail
      go_loopw [6, 8] (fun vs vi wr => ∃ (t : ByteArray) (k : Nat), vs = .string t ∧ vi = .int .i64 k ∧ k ≤ 2 ∧ t.size + k * (q + 1) ≤ 3 * q + 2 ∧ Hid (Drew G a n cap zs w wr)) (fun _ vi _ => (intOf vi).toNat)
      case atStart =>
        refine ⟨t0, z.toNat, rfl, by congr 1; omega, by omega, ?_, HD5⟩
        have : z.toNat * (q + 1) ≤ 2 * (q + 1) := Nat.mul_le_mul_right _ (by omega)
        omega
      case round =>
        clear HD5
        obtain ⟨t, k, rfl, rfl, hk, htk, HD5⟩ := hrel
        by_cases hk0 : 0 < k
        · have hk1 : (0 : Int) < (k : Int) := by omega
          obtain ⟨j, rfl⟩ : ∃ j, k = j + 1 := ⟨k - 1, by omega⟩
          have hkm : (j + 1) * (q + 1) = j * (q + 1) + (q + 1) := Nat.succ_mul j (q + 1)
          have hs1 : ¬ 9223372036854775807 < t.size + bt.size := by omega
          have hki : ((j + 1 : Nat) : Int) - 1 = (j : Int) := by omega
          go_wp2_with fail
          refine (CI.out _ HD5.out.1).mono ?_
          rintro e w6 ⟨t2, ht2, rfl, hd6⟩
          have HD6 := hide (drew_trans HD5.out hd6)
          have hs2 : ¬ 9223372036854775807 < t.size + bt.size + t2.size := by omega
          clear hd6 HD5
          go_wp2
          go_roundw
          case rel => exact ⟨t ++ bt ++ t2, j, rfl, by go_num, by omega, by rw [ByteArray.size_append, ByteArray.size_append]; omega, HD6⟩
          case measure => simp [intOf]
        · have hk0' : k = 0 := by omega
          subst hk0'
          have hs1 : ¬ 9223372036854775807 < 1 + t.size := by omega
          have hs2 : ¬ 9223372036854775807 < 1 + t.size + 1 := by omega
          have hs3 : ¬ 9223372036854775807 < 1 + t.size + 1 + sg.size := by omega
          go_wp2
          go_ret
          refine ⟨_, ?_, rfl, HD5.out⟩
          rw [HML.out]
          simp only [ByteArray.size_append]
          show 1 + t.size + 1 + sg.size ≤ _
          omega
theorem d_mtext (G : Nat) (a : Option Addr) (n cap : Nat) (zs : List Int) : ∀ (d : Nat), d ≤ 2 → ∀ w : World, RdAt w G a n cap zs →
    Calls Tryd.prog 61 #[.pointer (some ⟨G, 0, none⟩), .int .i64 d] w fun r w' => ∃ t : ByteArray, t.size ≤ mtL d ∧ r = .returned (.string t) ∧ Drew G a n cap zs w w'
  | 0, hd, w, h => d_mtextF G a n cap zs 0 w hd h (fun e he => by omega)
  | d + 1, hd, w, h => d_mtextF G a n cap zs (d + 1) w hd h (fun e he w' h' => by
      have : e = d := by omega
      subst this
      exact d_mtext G a n cap zs e (by omega) w' h')
end Go.Proofs.YtfohfljdgmlibaaDoor

/-
  Plain facts on sets told by bits, of no program: the places of a set, in order.
-/
namespace Go.Proofs.YtfohfljdgmlibaaDoor
set_option linter.unusedVariables false
set_option linter.unusedSimpArgs false
/-- The set without its lowest place. -/
def cutB (x : Nat) : Nat := x &&& (x - 1)
theorem cut_lt {x : Nat} (h : x ≠ 0) : cutB x < x := by
  have : x &&& (x - 1) ≤ x - 1 := Nat.and_le_right
  unfold cutB
  omega
theorem ctz_form {x : Nat} (h0 : x ≠ 0) (h : x < 18446744073709551616) : ∃ m, x = 2 ^ Lib.ctz 64 x * (2 * m + 1) ∧ Lib.ctz 64 x < 64 := by
  obtain ⟨m, hm, hk⟩ := Lib.ctzFrom_spec 64 x (by omega) h
  have e : Lib.ctz 64 x = Lib.ctzFrom 64 x := by simp [Lib.ctz, h0]
  rw [e]
  exact ⟨m, hm, hk⟩
theorem ctz_bit {x : Nat} (h0 : x ≠ 0) (h : x < 18446744073709551616) : x.testBit (Lib.ctz 64 x) = true ∧ ∀ j, j < Lib.ctz 64 x → x.testBit j = false := by
  obtain ⟨m, hm, hk⟩ := ctz_form h0 h
  obtain ⟨k, hkk⟩ : ∃ k, Lib.ctz 64 x = k := ⟨_, rfl⟩
  rw [hkk] at hm ⊢
  have hp : 0 < 2 ^ k := Nat.two_pow_pos k
  refine ⟨?_, fun j hj => ?_⟩
  · rw [Nat.testBit_eq_decide_div_mod_eq, hm, Nat.mul_div_cancel_left _ hp, decide_eq_true_eq]
    omega
  · rw [Nat.testBit_eq_decide_div_mod_eq, hm, decide_eq_false_iff_not]
    obtain ⟨d, rfl⟩ : ∃ d, k = j + 1 + d := ⟨k - (j + 1), by omega⟩
    rw [show 2 ^ (j + 1 + d) * (2 * m + 1) = 2 ^ j * (2 * (2 ^ d * (2 * m + 1))) by rw [Nat.pow_add, Nat.pow_succ]; simp only [Nat.mul_assoc], Nat.mul_div_cancel_left _ (Nat.two_pow_pos j)]
    omega
theorem cut_bit {x : Nat} (h0 : x ≠ 0) (h : x < 18446744073709551616) (j : Nat) : (cutB x).testBit j = (x.testBit j && decide (j ≠ Lib.ctz 64 x)) := by
  obtain ⟨m, hm, hk⟩ := ctz_form h0 h
  have hb := ctz_bit h0 h
  obtain ⟨k, hkk⟩ : ∃ k, Lib.ctz 64 x = k := ⟨_, rfl⟩
  rw [hkk] at hm hb ⊢
  have hp : 0 < 2 ^ k := Nat.two_pow_pos k
  unfold cutB
  rw [Nat.testBit_and]
  rcases Nat.lt_trichotomy j k with hj | hj | hj
  · rw [hb.2 j hj]; rfl
  · subst hj
    have e : (x - 1).testBit j = false := by
      rw [Nat.testBit_eq_decide_div_mod_eq, decide_eq_false_iff_not]
      have : (x - 1) / 2 ^ j = 2 * m := by
        rw [show x - 1 = 2 ^ j * (2 * m) + (2 ^ j - 1) by rw [hm, Nat.mul_add]; omega, Nat.mul_add_div hp, Nat.div_eq_of_lt (by omega)]
        omega
      rw [this]
      omega
    rw [e]
    simp
  · have e : (x - 1).testBit j = x.testBit j := by
      obtain ⟨d, rfl⟩ : ∃ d, j = k + 1 + d := ⟨j - (k + 1), by omega⟩
      rw [Nat.testBit_eq_decide_div_mod_eq, Nat.testBit_eq_decide_div_mod_eq]
      have h1 : (x - 1) / 2 ^ (k + 1) = m := by
        rw [show x - 1 = 2 ^ (k + 1) * m + (2 ^ k - 1) by rw [hm, Nat.mul_add, Nat.pow_succ, Nat.mul_assoc]; omega, Nat.mul_add_div (Nat.two_pow_pos _), Nat.div_eq_of_lt (by rw [Nat.pow_succ]; omega)]
        omega
      have h2 : x / 2 ^ (k + 1) = m := by
        rw [show x = 2 ^ (k + 1) * m + 2 ^ k by rw [hm, Nat.mul_add, Nat.pow_succ, Nat.mul_assoc]; omega, Nat.mul_add_div (Nat.two_pow_pos _), Nat.div_eq_of_lt (by rw [Nat.pow_succ]; omega)]
        omega
      rw [Nat.pow_add, ← Nat.div_div_eq_div_mul, ← Nat.div_div_eq_div_mul, h1, h2]
    rw [e, decide_eq_true (by omega)]
    cases x.testBit j <;> rfl
/-- The places of a set. -/
def btF : Nat → Nat → List Int
  | 0, _ => []
  | f + 1, x => if x = 0 then [] else (Lib.ctz 64 x : Int) :: btF f (cutB x)
def bts (x : Nat) : List Int := btF (x + 1) x
theorem btF_more : ∀ (f g x : Nat), x < f → x < g → btF f x = btF g x
  | 0, g, x, h1, h2 => by omega
  | f + 1, 0, x, h1, h2 => by omega
  | f + 1, g + 1, x, h1, h2 => by
    rw [btF, btF]
    split
    · rfl
    · rename_i h0
      have := cut_lt h0
      rw [btF_more f g (cutB x) (by omega) (by omega)]
theorem bts_zero : bts 0 = [] := rfl
theorem bts_step {x : Nat} (h : x ≠ 0) : bts x = (Lib.ctz 64 x : Int) :: bts (cutB x) := by
  have := cut_lt h
  unfold bts
  rw [btF, if_neg h, btF_more x (cutB x + 1) (cutB x) (by omega) (by omega)]
theorem bts_mem : ∀ (m x : Nat), x < m → x < 18446744073709551616 → ∀ (z : Int), z ∈ bts x ↔ ∃ j : Nat, z = j ∧ x.testBit j = true
  | 0, x, hm, hx, z => by omega
  | m + 1, x, hm, hx, z => by
    by_cases h0 : x = 0
    · subst h0
      rw [bts_zero]
      simp
    · have hc := cut_lt h0
      rw [bts_step h0, List.mem_cons, bts_mem m (cutB x) (by omega) (by omega) z]
      constructor
      · rintro (rfl | ⟨j, rfl, hj⟩)
        · exact ⟨_, rfl, (ctz_bit h0 hx).1⟩
        · rw [cut_bit h0 hx] at hj
          simp only [Bool.and_eq_true] at hj
          exact ⟨j, rfl, hj.1⟩
      · rintro ⟨j, rfl, hj⟩
        by_cases e : j = Lib.ctz 64 x
        · exact .inl (by rw [e])
        · exact .inr ⟨j, rfl, by rw [cut_bit h0 hx, hj, decide_eq_true e]; rfl⟩
theorem bts_sorted : ∀ (m x : Nat), x < m → x < 18446744073709551616 → (bts x).Pairwise (· < ·)
  | 0, x, hm, hx => by omega
  | m + 1, x, hm, hx => by
    by_cases h0 : x = 0
    · subst h0; exact List.Pairwise.nil
    · have hc := cut_lt h0
      rw [bts_step h0]
      refine List.pairwise_cons.2 ⟨fun z hz => ?_, bts_sorted m (cutB x) (by omega) (by omega)⟩
      obtain ⟨j, rfl, hj⟩ := (bts_mem x (cutB x) (by omega) (by omega) z).1 hz
      rw [cut_bit h0 hx] at hj
      simp only [Bool.and_eq_true, decide_eq_true_eq] at hj
      rcases Nat.lt_trichotomy j (Lib.ctz 64 x) with h | h | h
      · rw [(ctz_bit h0 hx).2 j h] at hj; exact absurd hj.1 (by decide)
      · exact absurd h hj.2
      · omega
theorem bts_range {n x : Nat} (hx : x < 18446744073709551616) (hn : x < 2 ^ n) : ∀ z ∈ bts x, 0 ≤ z ∧ z < (n : Int) := by
  intro z hz
  obtain ⟨j, rfl, hj⟩ := (bts_mem (x + 1) x (by omega) hx z).1 hz
  refine ⟨by omega, ?_⟩
  rcases Nat.lt_or_ge j n with h | h
  · omega
  · rw [Nat.testBit_lt_two_pow (Nat.lt_of_lt_of_le hn (Nat.pow_le_pow_right (by decide) h))] at hj
    cases hj
theorem sorted_len {n : Nat} : ∀ {L : List Int}, L.Pairwise (· < ·) → (∀ z ∈ L, 0 ≤ z ∧ z < (n : Int)) → L.length ≤ n := by
  have key : ∀ (L : List Int) (a : Int), L.Pairwise (· < ·) → (∀ z ∈ L, a ≤ z ∧ z < (n : Int)) → a ≤ n → (L.length : Int) ≤ n - a := by
    intro L
    induction L with
    | nil => intro a _ _ h; simp; omega
    | cons x t ih =>
      intro a hp hr ha
      obtain ⟨h1, h2⟩ := List.pairwise_cons.1 hp
      have hx := hr x (by simp)
      have := ih (x + 1) h2 (fun z hz => ⟨by have := h1 z hz; omega, (hr z (by simp [hz])).2⟩) (by omega)
      rw [List.length_cons]
      omega
  intro L hp hr
  have := key L 0 hp hr (by omega)
  omega
theorem bts_len {x : Nat} (hx : x < 18446744073709551616) : (bts x).length ≤ 64 := sorted_len (bts_sorted (x + 1) x (by omega) hx) (bts_range (n := 64) hx hx)
end Go.Proofs.YtfohfljdgmlibaaDoor

/-
  Contracts of Go's own library at this program, laid by the shelf's plain mode: each is one application of a theorem of the library.
-/
namespace Go.Proofs
open Go.Shelf
def Tryd.lays29_ren : Go.Shelf.Ren := ⟨fun | 29 => 76 | n => n, fun | 22 => 51 | 3 => 3 | 4 => 4 | 25 => 109 | 54 => 108 | 0 => 0 | 5 => 5 | n => n, fun | 1 => 0 | n => n⟩
theorem Tryd.lays29 : Go.Proofs.Lays7.n29 Tryd.prog Tryd.lays29_ren := {
  mixed := by kernel_rfl
  f29 := Tryd.func76.trans (congrArg some (by kernel_rfl))
  t0 := Tryd.underlying0
  a0 := Tryd.isAgg0
  z0 := Tryd.sizeOf0
  v0 := Tryd.zeroValue0
  i0 := by kernel_rfl
  t3 := Tryd.underlying3
  a3 := Tryd.isAgg3
  z3 := Tryd.sizeOf3
  v3 := Tryd.zeroValue3
  i3 := by kernel_rfl
  t4 := Tryd.underlying4
  a4 := Tryd.isAgg4
  z4 := Tryd.sizeOf4
  v4 := Tryd.zeroValue4
  i4 := by kernel_rfl
  t5 := Tryd.underlying5
  a5 := Tryd.isAgg5
  z5 := Tryd.sizeOf5
  v5 := Tryd.zeroValue5
  i5 := by kernel_rfl
  t22 := Tryd.underlying51
  a22 := Tryd.isAgg51
  z22 := Tryd.sizeOf51
  v22 := Tryd.zeroValue51
  i22 := by kernel_rfl
  t25 := Tryd.underlying109
  a25 := Tryd.isAgg109
  z25 := Tryd.sizeOf109
  v25 := Tryd.zeroValue109
  i25 := by kernel_rfl
  t54 := Tryd.underlying108
  a54 := Tryd.isAgg108
  z54 := Tryd.sizeOf108
  g1 := by kernel_rfl }
end Go.Proofs

/-
  Contracts: sets told by bits (the program's).
-/
namespace Go.Proofs.YtfohfljdgmlibaaDoor
open Go.RowKit
set_option linter.unusedVariables false
set_option linter.unusedSimpArgs false
/-- A row of numbers in memory of one's own. -/
def IntR (B : Nat) (w : World) (ad : Option Addr) (c : Nat) (L : List Int) : Prop := w.ownsRow B 2 1 (.slice ad L.length c) L.length (L.map (Value.int .i64))
theorem gOne_list (k : IntKind) (z : Int) : ∀ u ∈ [Value.int k z], u.oneCell' = true := by
  intro u hu
  simp at hu
  subst hu
  rfl
theorem intR_nil (B : Nat) (w : World) : IntR B w none 0 [] := ⟨rfl, .inl ⟨rfl, rfl⟩⟩
theorem intR_put {B : Nat} {w2 : World} {ad : Option Addr} {c : Nat} {L : List Int} {z : Int} (h : w2.ownsRow B 2 1 (.slice ad (L.length + 1) c) (L.length + 1) (L.map (Value.int .i64) ++ [.int .i64 z])) : IntR B w2 ad c (L ++ [z]) := by
  unfold IntR
  rw [List.length_append, List.length_singleton, List.map_append]
  exact h
/-- The library's table stands. -/
def TzT (w : World) : Prop := TabAt 0 Lib.deBruijn64tab w
theorem tzT_go {w w' : World} {B : Nat} (h : TzT w) (hb : Below B w w') (hB : w.heap.size ≤ B) : TzT w' := fun j hj => (hb.cell (p := ⟨0, j, none⟩) (Nat.lt_of_lt_of_le (World.block_lt_of_cell? _ _ (h j hj)) hB)).trans (h j hj)
theorem i_only (n : Nat) (w : World) (hn : n ≤ 40) : Calls Tryd.prog 35 #[.int .i64 n] w fun e w' => e = .returned (.int .u64 ((2 ^ n : Nat) : Int)) ∧ w' = w := by
  have hs : IntKind.u64.wrap ((2 : Int) ^ n) = ((2 ^ n : Nat) : Int) := by
    have : (2 ^ n : Nat) ≤ 2 ^ 40 := Nat.pow_le_pow_right (by decide) hn
    have e : ((2 : Int) ^ n) = ((2 ^ n : Nat) : Int) := by rw [Int.natCast_pow]; rfl
    rw [e, IntKind.wrap_u64]
    obtain ⟨q, hq⟩ : ∃ q, (2 ^ n : Nat) = q := ⟨_, rfl⟩
    rw [hq] at this ⊢
    have h40 : (2 ^ 40 : Nat) = 1099511627776 := by decide
    omega
  have hn0 : (0 : Int) ≤ (n : Int) := by omega
  go_enter Tryd.func35, Tryd.ntmps35
  go_wp2
  go_ret
  exact ⟨rfl, rfl⟩
set_option maxRecDepth 100000 in
set_option maxHeartbeats 2000000 in
theorem i_list (x : Nat) (w : World) (hx : x < 18446744073709551616) (hT : TzT w) :
    Calls Tryd.prog 43 #[.int .u64 x] w fun e w' => ∃ ad c, e = .returned (.slice ad (bts x).length c) ∧ IntR w.heap.size w' ad c (bts x) ∧ Below w.heap.size w w' := by
  obtain ⟨i0, hi, hz0, hz1, hz2⟩ := info_parts info64
  have HT := hide hT
  have hxl := bts_len hx
  clear hT
  go_enter Tryd.func43, Tryd.ntmps43
  go_wp2
  go_loopw [3, 4] (fun lv rv wr => ∃ (r : Nat) (L : List Int) (ad : Option Addr) (c : Nat), r ≤ x ∧ rv = .int .u64 r ∧ lv = .slice ad L.length c ∧ IntR w.heap.size wr ad c L ∧ Below w.heap.size w wr ∧ Hid (L ++ bts r = bts x)) (fun _ rv _ => (intOf rv).toNat)
  case atStart => exact ⟨x, [], none, 0, Nat.le_refl _, rfl, rfl, intR_nil _ _, Below.refl _ _, hide rfl⟩
  case round =>
    obtain ⟨r, L, ad, c, hr, rfl, rfl, ho, hb, HE⟩ := hrel
    have HO := hide ho
    have HB := hide hb
    have hsz : w.heap.size ≤ wr.heap.size := hb.size
    have hLl : L.length ≤ 64 := by have := congrArg List.length HE.out; rw [List.length_append] at this; omega
    by_cases h0 : r = 0
    · subst h0
      have e : L = bts x := by have := HE.out; rw [bts_zero, List.append_nil] at this; exact this
      subst e
      clear ho hb
      go_wp2
      go_ret
      exact ⟨ad, c, rfl, HO.out, HB.out⟩
    · have hne : ((r : Int) == 0) = false := by rw [beq_eq_false_iff_ne]; omega
      have HST := hide (bts_step h0)
      have hcl := cut_lt h0
      have CT := hide (Any7.bits_TrailingZeros64 Tryd.lays29 r (by omega) wr (fun _ => tzT_go HT.out HB.out (Nat.le_refl _)))
      have hra : bits .and .u64 (r : Int) ((r : Int) - 1) = (cutB r : Int) := by rw [show (r : Int) - 1 = ((r - 1 : Nat) : Int) by omega, bits_and_u64_nat r (r - 1) (by omega) (by omega)]; rfl
      have hrw : IntKind.u64.wrap ((r : Int) - 1) = (r : Int) - 1 := by rw [IntKind.wrap_u64]; omega
      clear ho hb
      obtain ⟨z, hz⟩ : ∃ z, (Lib.ctz 64 r : Int) = z := ⟨_, rfl⟩
      rw [hz] at HST CT
      clear hz
      go_wp2_with (first
        | (go_at_call 76; refine CT.out.mono ?_; rintro e w9 ⟨rfl, h9⟩; rw [h9]; clear h9 w9)
        | (at_builtin; refine wpList_append_own _ rfl (.tmp 12) (.tmp 15) 30 rfl w.heap.size 2 i0 (.int .i64 0) 1 8 Tryd.underlying30 hi hz0 hz1 hz2 rfl (by decide) (.slice ad L.length c) L.length (L.map (Value.int .i64)) rfl (HO.out.alloc _) ⟨wr.heap.size, 0, none⟩ 1 1 [.int .i64 z] rfl rfl (fun j u hj => gOne_new wr _ _ j u hj) (gOne_list _ _) (by unfold maxLen; omega) (by omega) (by simp; omega) ?_; intro v2 w2 hown2 hgrow2 _; obtain ⟨ad2, c2', hv2⟩ := gOwn_shape hown2; rw [hv2] at hown2 ⊢; clear hv2; have HB3 := hide (gBelow_one HB.out HO.out hgrow2); have HO2 := hide hown2; clear hown2 hgrow2))
      go_roundw
      case rel => exact ⟨cutB r, L ++ [z], ad2, c2', by omega, by go_num, by rw [List.length_append, List.length_singleton], intR_put HO2.out, HB3.out, hide (by rw [List.append_assoc, List.singleton_append, ← HST.out]; exact HE.out)⟩
      case measure => simp [intOf]; omega
end Go.Proofs.YtfohfljdgmlibaaDoor

/-
  Contracts: what parts of a model tell (the program's).
-/
namespace Go.Proofs.YtfohfljdgmlibaaDoor
open Go.RowKit
set_option linter.unusedVariables false
set_option linter.unusedSimpArgs false
/-- What a part tells. -/
def paV (e : Bool) (f l : Nat) : Value := .agg #[.bool e, .int .u64 (f : Int), .int .u64 (l : Int)]
def thF (e1 : Bool) (f1 f2 : Nat) : Nat := if e1 = true then f1 ||| f2 else f1
def thL (e2 : Bool) (l2 l1 : Nat) : Nat := if e2 = true then l2 ||| l1 else l2
set_option maxRecDepth 100000 in
set_option maxHeartbeats 4000000 in
theorem i_then (e1 : Bool) (f1 l1 : Nat) (e2 : Bool) (f2 l2 : Nat) (w : World) (h1 : f1 < 18446744073709551616) (h2 : l1 < 18446744073709551616) (h3 : f2 < 18446744073709551616) (h4 : l2 < 18446744073709551616) :
    Calls Tryd.prog 87 #[paV e1 f1 l1, paV e2 f2 l2] w fun e w' => e = .returned (paV (e1 && e2) (thF e1 f1 f2) (thL e2 l2 l1)) ∧ Below w.heap.size w w' := by
  have b1 : bits .or .u64 (f1 : Int) (f2 : Int) = ((f1 ||| f2 : Nat) : Int) := u64_or_nat f1 f2 h1 h3
  have b2 : bits .or .u64 (l2 : Int) (l1 : Int) = ((l2 ||| l1 : Nat) : Int) := u64_or_nat l2 l1 h4 h2
  unfold paV
  cases e1 <;> cases e2
  all_goals
    go_enter Tryd.func87, Tryd.ntmps87
    go_wp2
    refine bodyPost_ret (v := .agg #[_, _, _]) (by simp [results, Tryd.results87, go_sem, b1, b2]; first | done | exact ⟨rfl, rfl, rfl⟩) rfl ⟨?_, ?_⟩
    rotate_left
    · iterate 4 (refine Below.alloc ?_ (by simp; try omega) _)
      exact Below.refl _ _
    · first | rfl | simp [thF, thL, b1, b2]
set_option maxRecDepth 100000 in
set_option maxHeartbeats 4000000 in
theorem i_or (e1 : Bool) (f1 l1 : Nat) (e2 : Bool) (f2 l2 : Nat) (w : World) (h1 : f1 < 18446744073709551616) (h2 : l1 < 18446744073709551616) (h3 : f2 < 18446744073709551616) (h4 : l2 < 18446744073709551616) :
    Calls Tryd.prog 68 #[paV e1 f1 l1, paV e2 f2 l2] w fun e w' => e = .returned (paV (e1 || e2) (f1 ||| f2) (l1 ||| l2)) ∧ Below w.heap.size w w' := by
  have b1 : bits .or .u64 (f1 : Int) (f2 : Int) = ((f1 ||| f2 : Nat) : Int) := u64_or_nat f1 f2 h1 h3
  have b2 : bits .or .u64 (l1 : Int) (l2 : Int) = ((l1 ||| l2 : Nat) : Int) := u64_or_nat l1 l2 h2 h4
  unfold paV
  cases e1 <;> cases e2
  all_goals
    go_enter Tryd.func68, Tryd.ntmps68
    go_wp2
    refine bodyPost_ret (v := .agg #[_, _, _]) (by simp [results, Tryd.results68, go_sem, b1, b2]; first | done | exact ⟨rfl, rfl, rfl⟩) rfl ⟨?_, ?_⟩
    rotate_left
    · iterate 3 (refine Below.alloc ?_ (by simp; try omega) _)
      exact Below.refl _ _
    · first | rfl | simp [b1, b2]
end Go.Proofs.YtfohfljdgmlibaaDoor
