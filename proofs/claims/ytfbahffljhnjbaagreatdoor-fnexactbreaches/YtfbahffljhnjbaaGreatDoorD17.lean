/-
  Texts put together: DocAt2, RegInv.
-/
import Derived.Test.YtfbahffljhnjbaaGreatDoorD12
import Derived.Test.YtfbahffljhnjbaaGreatDoorD16
import Derived.Deep.DeepCutAuto
import Derived.Test.YtfbahffljhnjbaaGreatDoorD1
import Derived.Orders
import Derived.RegionTactic
import Derived.WalkKit
/-
  Contracts: names with a prefix or without; rows of attributes, by the specification and by the program.
-/
namespace Go.Proofs.YtfbahffljhnjbaaGreatDoor
open Go.RowKit Go.Joins
set_option linter.unusedVariables false
set_option linter.unusedSimpArgs false
theorem drewN_below (w : World) (q : Nat) : Below w.heap.size w (w.drewN q) := by
  induction q with
  | zero => exact Below.refl _ _
  | succ q ih => exact ih.drew
theorem tabs_below {w w' : World} (h : Tabs w) (hb : Below w.heap.size w w') : Tabs w' := by
  refine ⟨fun c hc => ?_, fun i hi => ⟨?_, ?_⟩⟩
  · exact (hb.cell (p := ⟨_, c, none⟩) (World.block_lt_of_cell? w _ (h.1 c hc))).trans (h.1 c hc)
  · exact (hb.cell (p := ⟨_, 2 * i, none⟩) (World.block_lt_of_cell? w _ (h.2 i hi).1)).trans (h.2 i hi).1
  · exact (hb.cell (p := ⟨_, 2 * i + 1, none⟩) (World.block_lt_of_cell? w _ (h.2 i hi).2)).trans (h.2 i hi).2
def qualB (s : ByteArray) : Bool := (spl s).2.2
theorem s_qual (s : ByteArray) (w : World) (hs : s.size ≤ 1048576) : Calls Tryz.prog 60 #[.string s] w fun e w' => e = .returned (.bool (qualB s)) ∧ ∃ q, w' = w.drewN q := by
  obtain ⟨x, hx⟩ : ∃ x, (spl s).1 = x := ⟨_, rfl⟩
  obtain ⟨y, hy⟩ : ∃ x, (spl s).2.1 = x := ⟨_, rfl⟩
  obtain ⟨z, hz⟩ : ∃ x, (spl s).2.2 = x := ⟨_, rfl⟩
  have HC := hide (s_split s w hs)
  rw [hx, hy, hz] at HC
  have HZ : Hid (qualB s = z) := hide hz
  clear hx hy hz
  go_enter Tryz.func60, Tryz.ntmps60
  go_wp2_with (go_at_call 91; refine HC.out.mono ?_; rintro e w' ⟨rfl, q, rfl⟩)
  go_ret
  exact ⟨ret_bool HZ.out.symm, _, rfl⟩
theorem i_qual (s : ByteArray) (w : World) (hs : s.size ≤ 1048576) : Calls Tryz.prog 118 #[.string s] w fun e w' => e = .returned (.bool (qualB s)) ∧ ∃ q, w' = w.drewN q := by
  obtain ⟨x, hx⟩ : ∃ x, (spl s).1 = x := ⟨_, rfl⟩
  obtain ⟨y, hy⟩ : ∃ x, (spl s).2.1 = x := ⟨_, rfl⟩
  obtain ⟨z, hz⟩ : ∃ x, (spl s).2.2 = x := ⟨_, rfl⟩
  have HC := hide (i_split s w hs)
  rw [hx, hy, hz] at HC
  have HZ : Hid (qualB s = z) := hide hz
  clear hx hy hz
  go_enter Tryz.func118, Tryz.ntmps118
  go_wp2_with (go_at_call 141; refine HC.out.mono ?_; rintro e w' ⟨rfl, q, rfl⟩)
  go_ret
  exact ⟨ret_bool HZ.out.symm, _, rfl⟩
/-- One attribute is right behind those ahead of it. -/
def atB (N V : Nat → ByteArray) (j : Nat) : Bool := qualB (N j) && (plainB (V j) && !(anyS j N (N j)))
def attrsB (n : Nat) (N V : Nat → ByteArray) : Bool := decide (n ≤ 10) && (List.range n).all (atB N V)
theorem attrsB_long {n : Nat} {N V : Nat → ByteArray} (h : 10 < n) : attrsB n N V = false := by unfold attrsB; rw [decide_eq_false (by omega)]; rfl
theorem attrsB_no {n k : Nat} {N V : Nat → ByteArray} (hk : k < n) (h : atB N V k = false) : attrsB n N V = false := by
  have : (List.range n).all (atB N V) = false := by
    rw [List.all_eq_false]
    exact ⟨k, by simpa using hk, by simp [h]⟩
  unfold attrsB
  rw [this]
  simp
theorem attrsB_yes {n : Nat} {N V : Nat → ByteArray} (hn : n ≤ 10) (h : ∀ k, k < n → atB N V k = true) : attrsB n N V = true := by
  have : (List.range n).all (atB N V) = true := by
    rw [List.all_eq_true]
    intro j hj
    exact h j (by simpa using hj)
  unfold attrsB
  rw [this, decide_eq_true hn]
  rfl
set_option maxRecDepth 100000 in
set_option maxHeartbeats 4000000 in
theorem s_attrs (a : Option Addr) (n c : Nat) (N V : Nat → ByteArray) (w : World) (hn : n ≤ 1048576) (hs : ∀ j, j < n → (N j).size ≤ 1048576 ∧ (V j).size ≤ 1048576) (hr : AtAt w a n N V w.heap.size) :
    Calls Tryz.prog 61 #[.slice a n c] w fun e w' => e = .returned (.bool (attrsB n N V)) ∧ Below w.heap.size w w' := by
  have HS := hide hs
  have HR := hide hr
  clear hr hs
  by_cases h10 : n ≤ 10
  · have h10' : (n : Int) ≤ 10 := by omega
    go_enter Tryz.func61, Tryz.ntmps61
    go_wp2
    go_loopw [3] (fun i wr => ∃ k : Nat, k ≤ n ∧ i = .int .i64 k ∧ Below w.heap.size w wr ∧ Hid (∀ j, j < k → atB N V j = true)) (fun i _ => n - (intOf i).toNat)
    case atStart => exact ⟨0, Nat.zero_le _, rfl, Below.refl _ _, fun j h => by omega⟩
    case round =>
      obtain ⟨k, hk, rfl, hb, HM⟩ := hrel
      by_cases hlt : k < n
      · obtain ⟨b, off, rfl, hbs, hc⟩ := HR.out (by omega)
        have HCC : Hid (∀ (w2 : World), Below w.heap.size w w2 → ∀ j, j < n → w2.cell? ⟨b, off + j * 2, none⟩ = some (.string (N j)) ∧ w2.cell? ⟨b, off + j * 2 + 1, none⟩ = some (.string (V j))) := hide (fun w2 h j hj => ⟨(h.cell (p := ⟨b, off + j * 2, none⟩) hbs).trans (hc j hj).1, (h.cell (p := ⟨b, off + j * 2 + 1, none⟩) hbs).trans (hc j hj).2⟩)
        obtain ⟨c0, c1⟩ := HCC.out wr hb k hlt
        obtain ⟨s0, s1⟩ := HS.out k hlt
        have HS0 := hide s0
        have HS1 := hide s1
        have HB := hide hb
        have hi : (k : Int) < (n : Int) := by omega
        clear hc hb s0 s1
        cases hq : qualB (N k)
        · have hv := hide (attrsB_no (N := N) (V := V) hlt (by unfold atB; rw [hq]; rfl))
          go_wp2_with (go_at_call 60; refine (s_qual _ _ HS0.out).mono ?_; rintro e w2 ⟨rfl, q, rfl⟩; rw [hq])
          go_ret
          exact ⟨ret_bool hv.out.symm, HB.out.trans ((drewN_below _ _).mono HB.out.size)⟩
        · cases hp : plainB (V k)
          · have hv := hide (attrsB_no (N := N) (V := V) hlt (by unfold atB; rw [hq, hp]; rfl))
            go_wp2_with (first | (go_at_call 60; refine (s_qual _ _ HS0.out).mono ?_; rintro e w2 ⟨rfl, q, rfl⟩; rw [hq]) | (go_at_call 59; refine (s_text _ _ HS1.out).mono ?_; rintro e w3 ⟨rfl, hb3⟩; rw [hp]; have HB3 := hide ((HB.out.trans ((drewN_below _ _).mono HB.out.size)).trans (hb3.mono HB.out.size)); clear hb3))
            go_ret
            exact ⟨ret_bool hv.out.symm, HB3.out⟩
          · go_wp2_with (first | (go_at_call 60; refine (s_qual _ _ HS0.out).mono ?_; rintro e w2 ⟨rfl, q, rfl⟩; rw [hq]) | (go_at_call 59; refine (s_text _ _ HS1.out).mono ?_; rintro e w3 ⟨rfl, hb3⟩; rw [hp]; have HB3 := hide ((HB.out.trans ((drewN_below _ _).mono HB.out.size)).trans (hb3.mono HB.out.size)); clear hb3))
            clear c0 c1
            go_loopw [4] (fun i w4 => ∃ m : Nat, m ≤ k ∧ i = .int .i64 m ∧ Below w.heap.size w w4 ∧ Hid (∀ j, j < m → ((N j).toList == (N k).toList) = false)) (fun i _ => k - (intOf i).toNat)
            case atStart => exact ⟨0, Nat.zero_le _, rfl, HB3.out, fun j h => by omega⟩
            case round =>
              obtain ⟨m, hm, rfl, hb4, HM4⟩ := hrel
              by_cases hlt4 : m < k
              · obtain ⟨c0, c1⟩ := HCC.out _ hb4 k hlt
                obtain ⟨d0, d1⟩ := HCC.out _ hb4 m (by omega)
                have HB4 := hide hb4
                have hi4 : (m : Int) < (n : Int) := by omega
                have hi5 : (m : Int) < (k : Int) := by omega
                clear hb4
                cases he : ((N m).toList == (N k).toList)
                · go_wp2
                  go_big_quiet (fail)
                  go_wp2
                  go_roundw
                  case rel =>
                    refine ⟨m + 1, by omega, by go_num, HB4.out.trans ((drewN_below _ _).mono HB4.out.size), fun j hj => ?_⟩
                    by_cases e : j = m
                    · subst e; exact he
                    · exact HM4.out j (by omega)
                  case measure => simp [intOf]; omega
                · have hv := hide (attrsB_no (N := N) (V := V) hlt (by unfold atB; rw [hq, hp, anyS_hit hlt4 he]; rfl))
                  go_wp2
                  go_big_quiet (fail)
                  go_wp2
                  go_ret
                  exact ⟨ret_bool hv.out.symm, HB4.out.trans ((drewN_below _ _).mono HB4.out.size)⟩
              · have hkm : m = k := by omega
                subst hkm
                have hat : atB N V m = true := by unfold atB; rw [hq, hp, anyS_no HM4.out]; rfl
                have HB4 := hide hb4
                clear hb4
                go_wp2
                go_roundw
                case rel =>
                  refine ⟨m + 1, by omega, by go_num, HB4.out, fun j hj => ?_⟩
                  by_cases e : j = m
                  · subst e; exact hat
                  · exact HM.out j (by omega)
                case measure => simp [intOf]; omega
      · have hkn : k = n := by omega
        subst hkn
        go_wp2
        go_ret
        exact ⟨ret_bool (attrsB_yes h10 HM.out).symm, hb⟩
  · have h10' : (10 : Int) < (n : Int) := by omega
    have hv := hide (attrsB_long (N := N) (V := V) (by omega : 10 < n))
    go_enter Tryz.func61, Tryz.ntmps61
    go_wp2
    go_ret
    exact ⟨ret_bool hv.out.symm, Below.refl _ _⟩
end Go.Proofs.YtfbahffljhnjbaaGreatDoor

/-
  Plain facts, of no program: a region that draws its order of evaluation, by an invariant: what each operation leaves in its place, whatever came up ahead of it.
-/
namespace Go.Proofs.YtfbahffljhnjbaaGreatDoor
open Go.RowKit
set_option linter.unusedVariables false
set_option linter.unusedSimpArgs false
theorem filter_less {p p' : Nat → Bool} {i : Nat} (hpp : ∀ k, p' k = true → p k = true) (hi : p i = true) (hi' : p' i = false) : ∀ (xs : List Nat), i ∈ xs → (xs.filter p').length < (xs.filter p).length
  | [], h => by cases h
  | x :: xs, h => by
    have hle : ∀ ys : List Nat, (ys.filter p').length ≤ (ys.filter p).length := by
      intro ys
      induction ys with
      | nil => simp
      | cons y ys ih =>
        by_cases hy : p' y = true
        · rw [List.filter_cons_of_pos hy, List.filter_cons_of_pos (hpp y hy)]; simpa using ih
        · rw [List.filter_cons_of_neg hy]
          by_cases hz : p y = true
          · rw [List.filter_cons_of_pos hz, List.length_cons]; omega
          · rw [List.filter_cons_of_neg hz]; exact ih
    rcases List.mem_cons.1 h with e | e
    · subst e
      rw [List.filter_cons_of_neg (by rw [hi']; decide), List.filter_cons_of_pos hi, List.length_cons]
      have := hle xs
      omega
    · have ih := filter_less hpp hi hi' xs e
      by_cases hy : p' x = true
      · rw [List.filter_cons_of_pos hy, List.filter_cons_of_pos (hpp x hy)]; simpa using ih
      · rw [List.filter_cons_of_neg hy]
        by_cases hz : p x = true
        · rw [List.filter_cons_of_pos hz, List.length_cons]; omega
        · rw [List.filter_cons_of_neg hz]; exact ih
section
variable {P : Program} {ops : Array Oper} {Q : Exit → Act → World → Prop}
/-- How many operations have not come up yet. -/
def left (n : Nat) (l : Array Bool) : Nat := ((List.range n).filter fun k => !(l.getD k true)).length
theorem left_less {n i : Nat} {l : Array Bool} (hi : i < n) (h : l.getD i true = false) : left n (l.setIfInBounds i true) < left n l := by
  have hsz : i < l.size := by
    rcases Nat.lt_or_ge i l.size with h' | h'
    · exact h'
    · rw [Array.getD_eq_getD_getElem?, Array.getElem?_eq_none h'] at h; simp at h
  refine filter_less (i := i) (fun k hk => ?_) (by simp [h]) ?_ _ (List.mem_range.2 hi)
  · by_cases e : i = k
    · subst e; simp [h]
    · rw [getD_set_ne true e] at hk; exact hk
  · rw [Array.getD_eq_getD_getElem?]
    simp [hsz]
theorem wpAny_inv (I : Array Bool → Act → World → Prop)
    (hdone : ∀ l a w, I l a w → Region.ready .any ops l = [] → Q .normal a w)
    (hstep : ∀ l a w i, I l a w → i ∈ Region.ready .any ops l → wpOp P ops Q i (I (l.setIfInBounds i true)) a w) :
    ∀ (fuel : Nat) (l : Array Bool) (a : Act) (w : World), left ops.size l ≤ fuel → I l a w → wpAny P .any ops Q fuel l a w := by
  have hlt : ∀ (l : Array Bool) (i : Nat), i ∈ Region.ready .any ops l → i < ops.size ∧ l.getD i true = false := by
    intro l i hi
    obtain ⟨h0, o, ho, _⟩ := mem_ready.1 hi
    exact ⟨(Array.getElem?_eq_some_iff.1 ho).1, h0⟩
  intro fuel
  induction fuel with
  | zero =>
    intro l a w hf hI
    have hnil : Region.ready .any ops l = [] := by
      cases hr : Region.ready .any ops l with
      | nil => rfl
      | cons i is =>
        obtain ⟨h1, h2⟩ := hlt l i (by rw [hr]; exact List.mem_cons_self ..)
        have := left_less h1 h2
        omega
    exact ⟨hnil, hdone l a w hI hnil⟩
  | succ fuel ih =>
    intro l a w hf hI
    refine ⟨hdone l a w hI, fun i hi => ?_⟩
    obtain ⟨h1, h2⟩ := hlt l i hi
    have := left_less h1 h2
    exact wpOp_mono (fun a' w' h' => ih _ a' w' (by omega) h') (hstep l a w i hI hi)
/-- A region that draws its order: 'V i' is what operation 'i' leaves at its place 'D i' of the frame 'A'; 'J' is what holds of the world throughout. -/
theorem wp_region_inv {id : Nat} {w : World} (hm : P.follows .mixedOrders = true)
    (hlow : (List.range ops.size).all (fun i => ((ops[i]?).map fun o => o.after.all fun e => !(Region.binds .any e) || decide (e.on < i)).getD true) = true)
    (A : (Nat → Value) → Act) (D : Nat → Nat) (V : Nat → Value → World → Prop) (J : World → Prop) (u0 : Nat → Value) (hJ : J { w with drawn := w.drawn + 1 })
    (hput : ∀ i o, ops[i]? = some o → ∀ u v, (A u).put o.dst v = A (fun k => if k = D i then v else u k))
    (hD : ∀ i k, i < ops.size → k < ops.size → i ≠ k → D i ≠ D k)
    (step : ∀ i o, ops[i]? = some o → ∀ u w, J w → (∀ e ∈ o.after, Region.binds .any e = true → V e.on (u (D e.on)) w) →
      ∀ K : Act → World → Prop, (∀ v w', J w' → V i v w' → (∀ k x, V k x w → V k x w') → K ((A u).put o.dst v) w') →
        if Region.wanted o (yielded ops (A u).tmps) = true then Oper.wp P o (A u) w K Q else K ((A u).put o.dst undef) w)
    (done : ∀ u w, J w → (∀ k, k < ops.size → V k (u (D k)) w) → Q .normal (A u) w) :
    (Code.region id ops true).wp P Q (A u0) w := by
  refine wp_region_any hm ?_
  refine wpAny_inv (fun l a w => l.size = ops.size ∧ J w ∧ ∃ u, a = A u ∧ ∀ k, k < ops.size → l.getD k false = true → V k (u (D k)) w) ?_ ?_ _ _ _ _ ?_ ?_
  · rintro l a w ⟨hl, hj, u, rfl, hV⟩ hr
    refine done u w hj (fun k hk => hV k hk ?_)
    have all : ∀ (n : Nat), n ≤ ops.size → ∀ k, k < n → l.getD k false = true := by
      intro n
      induction n with
      | zero => intro _ k hk; omega
      | succ n ih =>
        intro hn k hk
        by_cases e : k < n
        · exact ih (by omega) k e
        · have e : k = n := by omega
          subst e
          have hks : k < ops.size := by omega
          cases hb : l.getD k true with
          | true =>
            rw [Array.getD_eq_getD_getElem?, Array.getElem?_eq_getElem (by omega)] at hb ⊢
            simpa using hb
          | false =>
            exfalso
            have hmem : k ∈ Region.ready .any ops l := by
              refine mem_ready.2 ⟨hb, ops[k], Array.getElem?_eq_getElem hks, fun e he hbd => ?_⟩
              have h1 := List.all_eq_true.1 hlow k (List.mem_range.2 hks)
              rw [Array.getElem?_eq_getElem hks] at h1
              simp only [Option.map_some, Option.getD_some] at h1
              have h2 := Array.all_eq_true_iff_forall_mem.1 h1 e he
              rw [hbd] at h2
              exact ih (by omega) e.on (of_decide_eq_true (by simpa using h2))
            rw [hr] at hmem
            cases hmem
    exact all ops.size (Nat.le_refl _) k hk
  · rintro l a w i ⟨hl, hj, u, rfl, hV⟩ hi
    obtain ⟨h0, o, ho, hdep⟩ := mem_ready.1 hi
    have hilt := (Array.getElem?_eq_some_iff.1 ho).1
    refine wpOp_step ho (fun K' hK => ?_)
    refine step i o ho u w hj (fun e he hb => ?_) K' (fun v w' hj' hv hmono => ?_)
    · have h1 := List.all_eq_true.1 hlow i (List.mem_range.2 hilt)
      rw [ho] at h1
      simp only [Option.map_some, Option.getD_some] at h1
      have h2 := Array.all_eq_true_iff_forall_mem.1 h1 e he
      rw [hb] at h2
      have h3 : e.on < i := of_decide_eq_true (by simpa using h2)
      exact hV e.on (by omega) (hdep e he hb)
    · refine hK _ _ ⟨by simp [hl], hj', _, hput i o ho u v, fun k hk hl' => ?_⟩
      by_cases e : i = k
      · subst e; simpa using hv
      · have hd := hD k i hk hilt (fun h => e h.symm)
        rw [if_neg hd]
        rw [getD_set_ne false e] at hl'
        exact hmono k _ (hV k hk hl')
  · have : left ops.size (Array.replicate ops.size false) ≤ (List.range ops.size).length := List.length_filter_le _ _
    simpa using this
  · refine ⟨by simp, hJ, u0, rfl, fun k hk hl => ?_⟩
    rw [Array.getD_eq_getD_getElem?] at hl
    simp [hk] at hl
end
end Go.Proofs.YtfbahffljhnjbaaGreatDoor
