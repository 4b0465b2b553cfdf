/-
  Texts put together: Class4, Class5, RxEq, KpG.
-/
import Derived.Test.YtepommmmmfaihaaDoorC3
import Derived.Test.YtepommmmmfaihaaDoorC2
import Derived.WalkLawsBesides
import Derived.Below
import Derived.OwnWalk
import Derived.Laws.OwnMore
import Derived.Deep.AppendLies
/-
  Contracts: ClassHas, the specification's and the program's; a node and its copy are told as alike.
-/
namespace Go.Proofs.YtepommmmmfaihaaDoor
open Go.RowKit Go.Joins
set_option linter.unusedVariables false
set_option linter.unusedSimpArgs false
theorem box_node {w w2 : World} {kd : Int} {nt : Bool} {a : Option Addr} {n c : Nat} {A B mn mx : Int} {T : TypeId}
    (k : Below (w.alloc (.cells #[.int .i64 kd, .bool nt, .slice a n c, .int .i64 A, .int .i64 B, .int .i64 mn, .int .i64 mx] T)).heap.size (w.alloc (.cells #[.int .i64 kd, .bool nt, .slice a n c, .int .i64 A, .int .i64 B, .int .i64 mn, .int .i64 mx] T)) w2) :
    NodeAt w2 w.heap.size kd nt a n c A B mn mx ∧ Below w.heap.size w w2 := ⟨nodeAt_go (nodeAt_new _ _ _ _ _ _ _ _ _ _ _) k, box_below k⟩
set_option maxRecDepth 100000 in
set_option maxHeartbeats 4000000 in
theorem s_class (kd : Int) (nt : Bool) (a : Option Addr) (n c : Nat) (A B mn mx : Int) (L H : Nat → Int) (r : Int) (w : World) (hn : n ≤ maxLen) (hr : RngAt w a n L H w.heap.size) : Calls Tryd.prog 61 #[.agg #[.int .i64 kd, .bool nt, .slice a n c, .int .i64 A, .int .i64 B, .int .i64 mn, .int .i64 mx], .int .i64 r] w fun e w' => e = .returned (.bool (clsB kd nt n L H A B mn mx r)) ∧ Below w.heap.size w w' := by
  have HN := hide hn
  have HR := hide hr
  unfold maxLen at hn
  clear hr
  by_cases hk : kd = 2
  · subst hk
    cases hno : nodeB 2 nt n L H A B mn mx
    · go_enter Tryd.func61, Tryd.ntmps61
      go_wp2_with (go_at_call 45; refine (s_nodeok _ _ _ _ _ _ _ _ _ L H _ HN.out (rngAt_up (rngAt_go HR.out ((Below.refl _ _).alloc (Nat.le_refl _) _)) (by simp))).mono ?_; rintro e w2 ⟨rfl, hb2⟩; rw [hno]; have HB2 := hide (box_below hb2); clear hb2)
      go_ret
      exact ⟨ret_bool (by simp [clsB, hno]), HB2.out⟩
    · cases hch : chB r
      · go_enter Tryd.func61, Tryd.ntmps61
        go_wp2_with (first | (go_at_call 45; refine (s_nodeok _ _ _ _ _ _ _ _ _ L H _ HN.out (rngAt_up (rngAt_go HR.out ((Below.refl _ _).alloc (Nat.le_refl _) _)) (by simp))).mono ?_; rintro e w2 ⟨rfl, hb2⟩; rw [hno]; have HB2 := hide (box_below hb2); clear hb2) | (go_at_call 42; refine (s_chF _ _ hch).mono ?_; rintro e w' ⟨rfl, rfl⟩))
        go_ret
        exact ⟨ret_bool (by simp [clsB, hno, hch]), HB2.out⟩
      · have hv : clsB 2 nt n L H A B mn mx r = (anyB n L H r != nt) := by simp [clsB, hno, hch]
        have HV := hide hv
        clear hv
        go_enter Tryd.func61, Tryd.ntmps61
        go_wp2_with (first | (go_at_call 45; refine (s_nodeok _ _ _ _ _ _ _ _ _ L H _ HN.out (rngAt_up (rngAt_go HR.out ((Below.refl _ _).alloc (Nat.le_refl _) _)) (by simp))).mono ?_; rintro e w2 ⟨rfl, hb2⟩; rw [hno]; have HX2 := hide (box_node hb2); clear hb2) | (go_at_call 42; refine (s_chT _ _ hch).mono ?_; rintro e w' ⟨rfl, rfl⟩))
        go_loopw [5, 6] (fun v i wr => ∃ k : Nat, k ≤ n ∧ i = .int .i64 k ∧ v = .bool (anyB k L H r) ∧ Below w.heap.size w wr ∧ NodeAt wr w.heap.size 2 nt a n c A B mn mx) (fun _ i _ => n - (intOf i).toNat)
        case atStart => exact ⟨0, Nat.zero_le _, rfl, rfl, HX2.out.2, HX2.out.1⟩
        case round =>
          obtain ⟨k, hk, rfl, rfl, hb, hN⟩ := hrel
          obtain ⟨a0, a1, a2, a3, a4, a5, a6⟩ := nodeAt_cells hN
          have HNN := hide hN
          clear hN
          by_cases hlt : k < n
          · obtain ⟨b, off, rfl, hbs, hc⟩ := HR.out (by omega)
            have hc1 : wr.cell? ⟨b, off + k * 2, none⟩ = some (.int .i64 (L k)) := (hb.cell hbs).trans (hc k hlt).1
            have hc2 : wr.cell? ⟨b, off + k * 2 + 1, none⟩ = some (.int .i64 (H k)) := (hb.cell hbs).trans (hc k hlt).2
            have HB := hide hb
            have hi : (k : Int) < (n : Int) := by omega
            have hi0 : (0 : Int) ≤ (k : Int) := by omega
            clear hc hb
            cases hA : anyB k L H r
            · by_cases hh : L k ≤ r ∧ r ≤ H k
              · go_wp2
                go_big_quiet (first | (go_at_call 56; refine Calls.quiet_of_same (s_inT _ _ _ _ hh)))
                go_wp2
                go_roundw
                case rel => exact ⟨k + 1, by omega, by go_num, by rw [anyB_succ, hA, hasB, decide_eq_true hh]; rfl, HB.out.trans ((drew_below _ _).mono HB.out.size), nodeAt_go HNN.out (drew_below _ _)⟩
                case measure => simp [intOf]; omega
              · go_wp2
                go_big_quiet (first | (go_at_call 56; refine Calls.quiet_of_same (s_inF _ _ _ _ hh)))
                go_wp2
                go_roundw
                case rel => exact ⟨k + 1, by omega, by go_num, by rw [anyB_succ, hA, hasB, decide_eq_false hh]; rfl, HB.out.trans ((drew_below _ _).mono HB.out.size), nodeAt_go HNN.out (drew_below _ _)⟩
                case measure => simp [intOf]; omega
            · go_wp2
              go_big_quiet (fail)
              go_wp2
              go_roundw
              case rel => exact ⟨k + 1, by omega, by go_num, by rw [anyB_succ, hA]; rfl, HB.out.trans ((drew_below _ _).mono HB.out.size), nodeAt_go HNN.out (drew_below _ _)⟩
              case measure => simp [intOf]; omega
          · have hkn : k = n := by omega
            subst hkn
            go_wp2
            go_ret
            exact ⟨ret_bool HV.out.symm, hb⟩
  · have e2 : (kd != 2) = true := by simpa using hk
    go_enter Tryd.func61, Tryd.ntmps61
    go_wp2
    go_ret
    exact ⟨ret_bool (by simp [clsB, hk]), (Below.refl _ _).alloc (Nat.le_refl _) _⟩
end Go.Proofs.YtepommmmmfaihaaDoor

/-
  Contracts: the program's ClassHas; a node and its copy are told as alike.
-/
namespace Go.Proofs.YtepommmmmfaihaaDoor
open Go.RowKit Go.Joins
set_option linter.unusedVariables false
set_option linter.unusedSimpArgs false
theorem two_nodes {w w2 : World} {kd kd' : Int} {nt nt' : Bool} {a a' : Option Addr} {n c n' c' : Nat} {A B mn mx A' B' mn' mx' : Int} {T U : TypeId}
    (k : Below ((w.alloc (.cells #[.int .i64 kd, .bool nt, .slice a n c, .int .i64 A, .int .i64 B, .int .i64 mn, .int .i64 mx] T)).alloc (.cells #[.int .i64 kd', .bool nt', .slice a' n' c', .int .i64 A', .int .i64 B', .int .i64 mn', .int .i64 mx'] U)).heap.size
      ((w.alloc (.cells #[.int .i64 kd, .bool nt, .slice a n c, .int .i64 A, .int .i64 B, .int .i64 mn, .int .i64 mx] T)).alloc (.cells #[.int .i64 kd', .bool nt', .slice a' n' c', .int .i64 A', .int .i64 B', .int .i64 mn', .int .i64 mx'] U)) w2) :
    NodeAt w2 w.heap.size kd nt a n c A B mn mx ∧ NodeAt w2 (w.heap.size + 1) kd' nt' a' n' c' A' B' mn' mx' ∧ Below w.heap.size w w2 := by
  have h1 := nodeAt_new w kd nt a n c A B mn mx T
  have h2 := nodeAt_new (w.alloc (.cells #[.int .i64 kd, .bool nt, .slice a n c, .int .i64 A, .int .i64 B, .int .i64 mn, .int .i64 mx] T)) kd' nt' a' n' c' A' B' mn' mx' U
  have st : ∀ (x : World) (o : Obj), Below x.heap.size x (x.alloc o) := fun x o => (Below.refl _ _).alloc (Nat.le_refl _) _
  refine ⟨nodeAt_go (nodeAt_go h1 (st _ _)) k, ?_, ?_⟩
  · have := nodeAt_go h2 k
    simpa using this
  · exact (((Below.refl w.heap.size w).alloc (Nat.le_refl _) _).alloc (by simp) _).trans (k.mono (by simp; omega))
end Go.Proofs.YtepommmmmfaihaaDoor

/-
  Contracts: two rows of nodes that are alike are told so.
-/
namespace Go.Proofs.YtepommmmmfaihaaDoor
open Go.RowKit Go.Joins
set_option linter.unusedVariables false
set_option linter.unusedSimpArgs false
def EQN (w w' : World) (b o b' o' : Nat) (X : Rx) (k : Nat) (ad : Option Addr) (cp : Nat) (ad' : Option Addr) (cp' : Nat) : Prop := Below w.heap.size w w' ∧ (b < w.heap.size ∧ b' < w.heap.size) ∧
  RxCells w' b o X k ad cp ∧ RxCells w' b' o' X k ad' cp' ∧ RngAt w' ad (X.NR k) (X.L k) (X.H k) w.heap.size ∧ RngAt w' ad' (X.NR k) (X.L k) (X.H k) w.heap.size
section
variable {w w1 w2 : World} {b o b' o' : Nat} {X : Rx} {k : Nat} {ad : Option Addr} {cp : Nat} {ad' : Option Addr} {cp' : Nat}
theorem eqn_go (x : EQN w w1 b o b' o' X k ad cp ad' cp') (h : Below w1.heap.size w1 w2) : EQN w w2 b o b' o' X k ad cp ad' cp' := by
  obtain ⟨hb, ⟨h1, h2⟩, c1, c2, r1, r2⟩ := x
  have hh := h.mono hb.size
  exact ⟨hb.trans hh, ⟨h1, h2⟩, rxCells_go c1 h1 hh, rxCells_go c2 h2 hh, rngAt_go r1 hh, rngAt_go r2 hh⟩
theorem eqn_drew (x : EQN w w1 b o b' o' X k ad cp ad' cp') : EQN w w1.drew b o b' o' X k ad cp ad' cp' := eqn_go x ⟨rfl, rfl, rfl, Nat.le_refl _, fun _ _ => rfl⟩
theorem eqn_all (x : EQN w w1 b o b' o' X k ad cp ad' cp') : EQN w w1 b o b' o' X k ad cp ad' cp' ∧ (w1.cell? ⟨b, o, none⟩ = some (.int .i64 (X.K k)) ∧ w1.cell? ⟨b, o + 1, none⟩ = some (.bool (X.NT k)) ∧ w1.cell? ⟨b, o + 2, none⟩ = some (.slice ad (X.NR k) cp) ∧ w1.cell? ⟨b, o + 3, none⟩ = some (.int .i64 (X.A k)) ∧ w1.cell? ⟨b, o + 4, none⟩ = some (.int .i64 (X.B k)) ∧ w1.cell? ⟨b, o + 5, none⟩ = some (.int .i64 (X.MN k)) ∧ w1.cell? ⟨b, o + 6, none⟩ = some (.int .i64 (X.MX k))) ∧ w1.cell? ⟨b', o', none⟩ = some (.int .i64 (X.K k)) ∧ w1.cell? ⟨b', o' + 1, none⟩ = some (.bool (X.NT k)) ∧ w1.cell? ⟨b', o' + 2, none⟩ = some (.slice ad' (X.NR k) cp') ∧ w1.cell? ⟨b', o' + 3, none⟩ = some (.int .i64 (X.A k)) ∧ w1.cell? ⟨b', o' + 4, none⟩ = some (.int .i64 (X.B k)) ∧ w1.cell? ⟨b', o' + 5, none⟩ = some (.int .i64 (X.MN k)) ∧ w1.cell? ⟨b', o' + 6, none⟩ = some (.int .i64 (X.MX k)) := ⟨x, x.2.2.1, x.2.2.2.1⟩
theorem eqn_r1 (x : EQN w w1 b o b' o' X k ad cp ad' cp') : RngAt w1 ad (X.NR k) (X.L k) (X.H k) w1.heap.size := rngAt_up x.2.2.2.2.1 x.1.size
theorem eqn_r2 (x : EQN w w1 b o b' o' X k ad cp ad' cp') : RngAt w1 ad' (X.NR k) (X.L k) (X.H k) w1.heap.size := rngAt_up x.2.2.2.2.2 x.1.size
end
end Go.Proofs.YtepommmmmfaihaaDoor

/-
  Plain facts: what stays as it was, rows of one's own.
-/
namespace Go.Proofs.YtepommmmmfaihaaDoor
open Go.RowKit Go.Joins
set_option linter.unusedVariables false
set_option linter.unusedSimpArgs false
/-- All that was there is as it was, but blocks of S. -/
structure Kp (S : Nat → Prop) (w w' : World) : Prop where
  os : w'.os = w.os
  tape : w'.tape = w.tape
  output : w'.output = w.output
  size : w.heap.size ≤ w'.heap.size
  block : ∀ k, k < w.heap.size → ¬ S k → w'.heap[k]? = w.heap[k]?
theorem Kp.refl (S : Nat → Prop) (w : World) : Kp S w w := ⟨rfl, rfl, rfl, Nat.le_refl _, fun _ _ _ => rfl⟩
theorem Kp.trans {S T : Nat → Prop} {w w1 w2 : World} (h : Kp S w w1) (k : Kp T w1 w2) (hT : ∀ j, j < w.heap.size → T j → S j) : Kp S w w2 :=
  ⟨k.os.trans h.os, k.tape.trans h.tape, k.output.trans h.output, Nat.le_trans h.size k.size, fun j hj hs => (k.block j (Nat.lt_of_lt_of_le hj h.size) (fun ht => hs (hT j hj ht))).trans (h.block j hj hs)⟩
theorem kp_grown {S : Nat → Prop} {w w' : World} {row : Option Nat} (h : w.grownBy w' row) (hS : ∀ k, row = some k → S k) : Kp S w w' :=
  ⟨h.os, h.tape, h.output, h.size, fun k hk hs => h.block k hk (fun e => hs (hS k e.symm))⟩
theorem kp_set {S : Nat → Prop} (w : World) (p : Addr) (v : Value) (h : S p.block) : Kp S w (w.setCell p v) :=
  ⟨rfl, rfl, rfl, by rw [heap_setCell_size]; exact Nat.le_refl _, fun k hk hs => heap_setCell_far _ _ _ _ (fun e => hs (by rw [← e]; exact h))⟩
theorem kp_alloc {S : Nat → Prop} (w : World) (o : Obj) : Kp S w (w.alloc o) := kp_grown (World.grownBy_alloc w o none) (fun k hk => by cases hk)
theorem kp_drew {S : Nat → Prop} (w : World) : Kp S w w.drew := ⟨rfl, rfl, rfl, Nat.le_refl _, fun _ _ _ => rfl⟩
theorem kp_drewN {S : Nat → Prop} (w : World) (q : Nat) : Kp S w (w.drewN q) := ⟨rfl, rfl, rfl, Nat.le_refl _, fun _ _ _ => rfl⟩
theorem kp_below {S : Nat → Prop} {B : Nat} {w w' : World} (h : Kp S w w') (hB : B ≤ w.heap.size) (hS : ∀ k, S k → B ≤ k) : Below B w w' :=
  ⟨h.os, h.tape, h.output, h.size, fun k hk => h.block k (Nat.lt_of_lt_of_le hk hB) (fun hs => by have := hS k hs; omega)⟩
theorem own_kp {S : Nat → Prop} {w w' : World} {B e z n : Nat} {v : Value} {xs : List Value} (h : w.ownsRow B e z v n xs) (k : Kp S w w') (hS : ∀ j, v.ownBlock = some j → ¬ S j) : w'.ownsRow B e z v n xs := by
  obtain ⟨hl, h⟩ := h
  refine ⟨hl, ?_⟩
  rcases h with h | ⟨g, cap, cur, hv, hg, hh, h1, h2, h3, h4⟩
  · exact .inl h
  · exact .inr ⟨g, cap, cur, hv, hg, (k.block g (Array.getElem?_eq_some_iff.1 hh).1 (hS g (by rw [hv]; rfl))).trans hh, h1, h2, h3, h4⟩
/-- The block of a row has the type of its cells. -/
theorem own_type {w : World} {B e z n k : Nat} {v : Value} {xs : List Value} (h : w.ownsRow B e z v n xs) (hk : v.ownBlock = some k) : ∃ cur, w.heap[k]? = some (.cells cur e (0, 0)) := by
  rcases h.2 with ⟨rfl, -⟩ | ⟨g, cap, cur, hv, -, hh, -⟩
  · cases hk
  · rw [hv] at hk
    have : g = k := by simpa [Value.ownBlock] using hk
    subst this
    exact ⟨cur, hh⟩
theorem type_ne {w : World} {B e z n k : Nat} {v : Value} {xs : List Value} (h : w.ownsRow B e z v n xs) (hk : v.ownBlock = some k) {cs : Array Value} {t : TypeId} {fr : Nat × Nat} {R : Nat} (hR : w.heap[R]? = some (.cells cs t fr)) (ht : e ≠ t) : k ≠ R := by
  rintro rfl
  obtain ⟨cur, hc⟩ := own_type h hk
  rw [hc] at hR
  simp only [Option.some.injEq, Obj.cells.injEq] at hR
  exact ht hR.2.1
theorem own_ne {w : World} {B e z n k B' e' z' n' k' : Nat} {v v' : Value} {xs xs' : List Value} (h : w.ownsRow B e z v n xs) (hk : v.ownBlock = some k) (h' : w.ownsRow B' e' z' v' n' xs') (hk' : v'.ownBlock = some k') (ht : e ≠ e') : k ≠ k' := by
  obtain ⟨cur, hc⟩ := own_type h' hk'
  exact type_ne h hk hc ht
end Go.Proofs.YtepommmmmfaihaaDoor
