/-
  Texts put together: RsA, RsD.
-/
import Derived.Test.YtepommmmmfaihaaGreatDoorB33
import Derived.Test.YtepommmmmfaihaaGreatDoorB34
import Derived.Test.YtepommmmmfaihaaGreatDoorB3
import Derived.Deep.QuietTactic
import Derived.Deep.RegionLaw
import Derived.Deep.DeepCutAuto
/-
  Contracts of the specification's reader of expressions: its cells, one look at a sign.
-/
namespace Go.Proofs.YtepommmmmfaihaaGreatDoor
open Go.RowKit Go.Joins
set_option linter.unusedVariables false
set_option linter.unusedSimpArgs false
/-- The reader's cells. -/
def SX (w : World) (R : Nat) (ta : Option Addr) (n tc k : Nat) (bd : Bool) (ad : Option Addr) (m c : Nat) : Prop := w.heap[R]? = some (.cells #[.slice ta n tc, .int .i64 (k : Int), .bool bd, .slice ad m c] 88 (0, 0))
def SD (S : Nat → Prop) (B R : Nat) (w : World) (C : List Int) (k : Nat) (bd : Bool) (X : List Nd) : Prop := (B ≤ R ∧ k ≤ C.length ∧ C.length ≤ 400) ∧ ∃ ta tc ad c, SX w R ta C.length tc k bd ad X.length c ∧ Tx B w ta tc C ∧ XOZ 500 B S w ad c X ∧ ∀ k, (Value.slice ad X.length c).ownBlock = some k → S k
section
variable {w w' : World} {B R n tc k m c : Nat} {bd : Bool} {ta ad : Option Addr} {C : List Int} {X : List Nd} {S : Nat → Prop}
theorem sx_cells (h : SX w R ta n tc k bd ad m c) : w.cell? ⟨R, 0, none⟩ = some (.slice ta n tc) ∧ w.cell? ⟨R, 1, none⟩ = some (.int .i64 (k : Int)) ∧ w.cell? ⟨R, 2, none⟩ = some (.bool bd) ∧ w.cell? ⟨R, 3, none⟩ = some (.slice ad m c) := by
  have e : ∀ i, w.cell? ⟨R, i, none⟩ = (#[.slice ta n tc, .int .i64 (k : Int), .bool bd, .slice ad m c] : Array Value)[i]? := fun i => by rw [cell_of_row w R i _ _ (0, 0) h]
  exact ⟨e 0, e 1, e 2, e 3⟩
theorem sx_frozen (h : SX w R ta n tc k bd ad m c) (i : Nat) : w.frozen? ⟨R, i, none⟩ = false := frozen_of_row w R i _ _ h
theorem sx_lt (h : SX w R ta n tc k bd ad m c) : R < w.heap.size := (Array.getElem?_eq_some_iff.1 h).1
theorem sx_k (h : SX w R ta n tc k bd ad m c) (k' : Nat) : SX (w.setCell ⟨R, 1, none⟩ (.int .i64 (k' : Int))) R ta n tc k' bd ad m c := heap_setCell_same w R 1 _ _ _ h
theorem sx_b (h : SX w R ta n tc k bd ad m c) (b : Bool) : SX (w.setCell ⟨R, 2, none⟩ (.bool b)) R ta n tc k b ad m c := heap_setCell_same w R 2 _ _ _ h
theorem sx_o (h : SX w R ta n tc k bd ad m c) (ad' : Option Addr) (m' c' : Nat) : SX (w.setCell ⟨R, 3, none⟩ (.slice ad' m' c')) R ta n tc k bd ad' m' c' := heap_setCell_same w R 3 _ _ _ h
theorem xo_sr (hx : SX w R ta n tc k bd ad m c) {ad' : Option Addr} {c' : Nat} {Z : Nat} {S : Nat → Prop} (h : XOZ Z B S w ad' c' X) (k : Kp (fun j => j = R) w w') : XOZ Z B S w' ad' c' X := by
  obtain ⟨xs, h1, h2, h3⟩ := h
  refine ⟨xs, own_kp h1 k (fun j hj => type_ne h1 hj hx (by decide)), xits_kp h2 k (fun B' z n v ys j hv hj _ => type_ne hv hj hx (by decide)), h3⟩
theorem sd_lt (h : SD S B R w C k bd X) : B ≤ w.heap.size := by
  obtain ⟨h0, ta, tc, ad, c, h1, -⟩ := h
  have := sx_lt h1
  omega
theorem sd_ch (h : SD S B R w C k bd X) : ∀ c ∈ C, chB c = true := by
  obtain ⟨h0, ta, tc, ad, c, h1, h2, h3⟩ := h
  exact h2.2.2.2
theorem sd_kpB (h : SD S B R w C k bd X) (q : Kp (fun j => j = R) w w') : Below B w w' := kp_below q (sd_lt h) (fun j hj => by have := h.1.1; have hj' : j = R := hj; omega)
theorem sd_bl (h : SD S B R w C k bd X) (q : Below w.heap.size w w') : SD S B R w' C k bd X := by
  obtain ⟨h0, ta, tc, ad, c, h1, h2, h3, h4⟩ := h
  have hlt := sx_lt h1
  exact ⟨h0, ta, tc, ad, c, (q.block R hlt).trans h1, tx_go h2 (q.mono (by omega)), xo_below h3 q, h4⟩
theorem bl_drewN (w : World) (q : Nat) : Below w.heap.size w (w.drewN q) := ⟨rfl, rfl, rfl, Nat.le_refl _, fun _ _ => rfl⟩
theorem sd_dr (h : SD S B R w C k bd X) (q : Nat) : SD S B R (w.drewN q) C k bd X := sd_bl h (bl_drewN w q)
theorem sd_set (h : SD S B R w C k bd X) (i : Nat) (v : Value) {k' : Nat} {bd' : Bool} (hk : k' ≤ C.length) (hs : ∀ ta tc ad c, SX w R ta C.length tc k bd ad X.length c → SX (w.setCell ⟨R, i, none⟩ v) R ta C.length tc k' bd' ad X.length c) : SD S B R (w.setCell ⟨R, i, none⟩ v) C k' bd' X := by
  obtain ⟨⟨h0, h5, h6⟩, ta, tc, ad, c, h1, h2, h3, h4⟩ := h
  have hk9 := kp_r w R i v
  have hlt := sx_lt h1
  exact ⟨⟨h0, hk, h6⟩, ta, tc, ad, c, hs _ _ _ _ h1, tx_go h2 (kp_below hk9 (by omega) (fun j hj => by have hj' : j = R := hj; omega)), xo_sr h1 h3 hk9, h4⟩
theorem sd_k (h : SD S B R w C k bd X) {k' : Nat} (hk : k' ≤ C.length) : SD S B R (w.setCell ⟨R, 1, none⟩ (.int .i64 (k' : Int))) C k' bd X := sd_set h 1 _ hk (fun _ _ _ _ h1 => sx_k h1 k')
theorem sd_b (h : SD S B R w C k bd X) (b : Bool) : SD S B R (w.setCell ⟨R, 2, none⟩ (.bool b)) C k b X := sd_set h 2 _ h.1.2.1 (fun _ _ _ _ h1 => sx_b h1 b)
theorem sd_k1 (h : SD S B R w C k bd X) (hk : k < C.length) : SD S B R (w.setCell ⟨R, 1, none⟩ (.int .i64 ((k : Int) + 1))) C (k + 1) bd X := by
  have e : ((k + 1 : Nat) : Int) = (k : Int) + 1 := by omega
  rw [← e]
  exact sd_k h hk
/-- The reader's cells, and the character at its place. -/
theorem sd_cells (h : SD S B R w C k bd X) : ∃ ta tc ad c, (w.cell? ⟨R, 0, none⟩ = some (.slice ta C.length tc) ∧ w.cell? ⟨R, 1, none⟩ = some (.int .i64 (k : Int)) ∧ w.cell? ⟨R, 2, none⟩ = some (.bool bd) ∧ w.cell? ⟨R, 3, none⟩ = some (.slice ad X.length c)) ∧ (∀ i, w.frozen? ⟨R, i, none⟩ = false) ∧ (0 < C.length → ∃ b off, ta = some ⟨b, off, none⟩ ∧ ∀ (j : Nat) (d : Int), C[j]? = some d → w.cell? ⟨b, off + j, none⟩ = some (.int .i64 d)) := by
  obtain ⟨h0, ta, tc, ad, c, h1, h2, h3⟩ := h
  refine ⟨ta, tc, ad, c, sx_cells h1, sx_frozen h1, fun h9 => ?_⟩
  obtain ⟨b, off, e, -, hc⟩ := h2.2.2.1 h9
  exact ⟨b, off, e, hc⟩
theorem drop_at {c : Int} {r : List Int} (h : C.drop k = c :: r) : C[k]? = some c ∧ r = C.drop (k + 1) ∧ k < C.length := by
  have hlt : k < C.length := by
    rcases Nat.lt_or_ge k C.length with h9 | h9
    · exact h9
    · rw [List.drop_eq_nil_of_le h9] at h; cases h
  rw [List.drop_eq_getElem_cons hlt] at h
  simp only [List.cons.injEq] at h
  exact ⟨by rw [List.getElem?_eq_getElem hlt, h.1], h.2.symm, hlt⟩
end
/-- All that a walk wants to know of the reader at a character. -/
theorem sd_here {S : Nat → Prop} {B R : Nat} {w : World} {C : List Int} {k : Nat} {bd : Bool} {X : List Nd} {c : Int} {r : List Int} (h : SD S B R w C k bd X) (hc : C.drop k = c :: r) : ∃ b off tc ad cp, w.cell? ⟨R, 0, none⟩ = some (.slice (some ⟨b, off, none⟩) C.length tc) ∧ w.cell? ⟨R, 1, none⟩ = some (.int .i64 (k : Int)) ∧ w.cell? ⟨R, 2, none⟩ = some (.bool bd) ∧ w.cell? ⟨R, 3, none⟩ = some (.slice ad X.length cp) ∧ w.frozen? ⟨R, 1, none⟩ = false ∧ w.frozen? ⟨R, 2, none⟩ = false ∧ w.cell? ⟨b, off + k, none⟩ = some (.int .i64 c) ∧ k < C.length := by
  obtain ⟨h1, h2, h3⟩ := drop_at hc
  obtain ⟨ta, tc, ad, cp, ⟨c0, c1, c2, c3⟩, f, h4⟩ := sd_cells h
  obtain ⟨b, off, rfl, h5⟩ := h4 (by omega)
  exact ⟨b, off, tc, ad, cp, c0, c1, c2, c3, f 1, f 2, h5 k c h1, h3⟩
set_option maxHeartbeats 2000000 in
theorem s_isY {S : Nat → Prop} (B R : Nat) (C : List Int) (k : Nat) (s : Int) (r : List Int) (X : List Nd) (w : World) (h : SD S B R w C k false X) (hc : C.drop k = s :: r) :
    Calls Tryz.prog 75 #[.pointer (some ⟨R, 0, none⟩), .int .i64 s] w fun e w' => e = .returned (.bool true) ∧ SD S B R w' C (k + 1) false X ∧ Kp (fun j => j = R) w w' := by
  obtain ⟨b, off, tc, ad, cp, c0, c1, c2, c3, f1, f2, ck, hlt⟩ := sd_here h hc
  have H0 := hide h
  have h4 := h.1.2.2
  have hd : decide ((k : Int) ≥ (C.length : Int)) = false := decide_eq_false (by omega)
  have hi0 : (0 : Int) ≤ (k : Int) := by omega
  have hi1 : (k : Int) < (C.length : Int) := by omega
  have hi2 : ¬ (C.length : Int) ≤ (k : Int) := by omega
  have hw : IntKind.i64.wrap ((k : Int) + 1) = (k : Int) + 1 := by rw [IntKind.wrap_i64]; omega
  have hne : (s != s) = false := by simp
  clear h hc
  go_enter Tryz.func75, Tryz.ntmps75
  go_wp2
  go_quiet (fail)
  go_wp2
  go_ret
  exact ⟨rfl, sd_k1 (sd_dr H0.out _) hlt, (kp_drewN w _).trans (kp_r _ R 1 _) (fun j _ hj => hj)⟩
set_option maxHeartbeats 2000000 in
theorem s_isN {S : Nat → Prop} (B R : Nat) (C : List Int) (k : Nat) (s : Int) (X : List Nd) (w : World) (h : SD S B R w C k false X) (hc : (C.drop k).head? ≠ some s) :
    Calls Tryz.prog 75 #[.pointer (some ⟨R, 0, none⟩), .int .i64 s] w fun e w' => e = .returned (.bool false) ∧ SD S B R w' C k false X ∧ Kp (fun j => j = R) w w' := by
  have H0 := hide h
  have h4 := h.1.2.2
  have h5 := h.1.2.1
  cases hr : C.drop k with
  | nil =>
    have hk : C.length ≤ k := List.drop_eq_nil_iff.1 hr
    obtain ⟨ta, tc, ad, cp, ⟨c0, c1, c2, c3⟩, f, -⟩ := sd_cells h
    have hd : decide ((k : Int) ≥ (C.length : Int)) = true := decide_eq_true (by omega)
    have hi2 : (C.length : Int) ≤ (k : Int) := by omega
    clear h hc hr
    go_enter Tryz.func75, Tryz.ntmps75
    go_wp2
    go_quiet (fail)
    go_wp2
    go_ret
    exact ⟨rfl, sd_dr H0.out _, kp_drewN w _⟩
  | cons c r =>
    obtain ⟨b, off, tc, ad, cp, c0, c1, c2, c3, f1, f2, ck, hlt⟩ := sd_here h hr
    have hd : decide ((k : Int) ≥ (C.length : Int)) = false := decide_eq_false (by omega)
    have hi0 : (0 : Int) ≤ (k : Int) := by omega
    have hi1 : (k : Int) < (C.length : Int) := by omega
    have hi2 : ¬ (C.length : Int) ≤ (k : Int) := by omega
    have hne : (c != s) = true := by
      rw [hr] at hc
      simp only [List.head?_cons, ne_eq, Option.some.injEq] at hc
      simp [hc]
    clear h hc hr
    go_enter Tryz.func75, Tryz.ntmps75
    go_wp2
    go_quiet (fail)
    go_wp2
    go_ret
    exact ⟨rfl, sd_dr H0.out _, kp_drewN w _⟩
set_option maxHeartbeats 2000000 in
theorem s_isB {S : Nat → Prop} (B R : Nat) (C : List Int) (k : Nat) (s : Int) (X : List Nd) (w : World) (h : SD S B R w C k true X) :
    Calls Tryz.prog 75 #[.pointer (some ⟨R, 0, none⟩), .int .i64 s] w fun e w' => e = .returned (.bool false) ∧ SD S B R w' C k true X ∧ Kp (fun j => j = R) w w' := by
  have H0 := hide h
  obtain ⟨ta, tc, ad, cp, ⟨c0, c1, c2, c3⟩, f, -⟩ := sd_cells h
  clear h
  go_enter Tryz.func75, Tryz.ntmps75
  go_wp2
  go_quiet (fail)
  go_wp2
  go_ret
  exact ⟨rfl, sd_dr H0.out _, kp_drewN w _⟩
/-- The character that stands behind a backslash, or -1. -/
def esC (c : Int) : Int := if c = 110 then 10 else if c = 114 then 13 else if c = 116 then 9 else if isS sgE c = true then c else -1
theorem isS_E (c : Int) : isS sgE c = (isS sgO c || (decide ((45 : Int) = c) || decide ((94 : Int) = c))) := by
  unfold isS sgE sgO
  simp only [List.any_cons, List.any_nil, Bool.or_false, Bool.or_assoc]
  rfl
set_option maxHeartbeats 2000000 in
theorem s_esc (c : Int) (w : World) : Calls Tryz.prog 121 #[.int .i64 c] w fun e w' => e = .returned (.int .i64 (esC c)) ∧ w' = w := by
  by_cases e1 : c = 110
  · subst e1
    go_enter Tryz.func121, Tryz.ntmps121
    go_wp2
    go_ret
    exact ⟨rfl, rfl⟩
  · by_cases e2 : c = 114
    · subst e2
      go_enter Tryz.func121, Tryz.ntmps121
      go_wp2
      go_ret
      exact ⟨rfl, rfl⟩
    · by_cases e3 : c = 116
      · subst e3
        go_enter Tryz.func121, Tryz.ntmps121
        go_wp2
        go_ret
        exact ⟨rfl, rfl⟩
      · have b1 : (c == 110) = false := by simp [e1]
        have b2 : (c == 114) = false := by simp [e2]
        have b3 : (c == 116) = false := by simp [e3]
        by_cases e4 : c = 45
        · subst e4
          go_enter Tryz.func121, Tryz.ntmps121
          go_wp2
          go_ret
          exact ⟨rfl, rfl⟩
        · by_cases e5 : c = 94
          · subst e5
            go_enter Tryz.func121, Tryz.ntmps121
            go_wp2
            go_ret
            exact ⟨rfl, rfl⟩
          · have b4 : (c == 45) = false := by simp [e4]
            have b5 : (c == 94) = false := by simp [e5]
            have HE : Hid (esC c = if isS sgO c = true then c else -1) := hide (by
              unfold esC
              rw [if_neg e1, if_neg e2, if_neg e3, isS_E, decide_eq_false (fun h => e4 h.symm), decide_eq_false (fun h => e5 h.symm), Bool.or_false, Bool.or_false])
            have HM := hide (s_meta c w)
            obtain ⟨q, hq⟩ : ∃ q, isS sgO c = q := ⟨_, rfl⟩
            rw [hq] at HE HM
            clear e1 e2 e3 e4 e5 hq
            cases q
            all_goals
              go_enter Tryz.func121, Tryz.ntmps121
              go_wp2_with (go_at_call 100; refine HM.out.mono ?_; rintro e w9 ⟨rfl, h9⟩; rw [h9]; clear h9 w9)
              go_ret
              rw [HE.out]
              exact ⟨rfl, rfl⟩
theorem es_of {c : Int} {r : List Int} (hc : 0 ≤ c) : (esP (c :: r) = none ∧ esC c < 0) ∨ (esP (c :: r) = some (esC c, r) ∧ 0 ≤ esC c) := by
  rw [esP]
  unfold esC
  split
  · exact .inr ⟨rfl, by decide⟩
  · split
    · exact .inr ⟨rfl, by decide⟩
    · split
      · exact .inr ⟨rfl, by decide⟩
      · split
        · exact .inr ⟨rfl, hc⟩
        · exact .inl ⟨rfl, by decide⟩
end Go.Proofs.YtepommmmmfaihaaGreatDoor

/-
  Contracts of the specification's reader of expressions: a node more.
-/
namespace Go.Proofs.YtepommmmmfaihaaGreatDoor
open Go.RowKit Go.Joins
set_option linter.unusedVariables false
set_option linter.unusedSimpArgs false
section
variable {S : Nat → Prop} {w w' : World} {B R : Nat} {C : List Int} {k : Nat} {bd : Bool} {X : List Nd}
theorem sd_small (h : SD (fun j => B ≤ j) B R w C k bd X) : SD (fun j => B ≤ j ∧ j < w.heap.size) B R w C k bd X := by
  obtain ⟨h0, ta, tc, ad, c, h1, h2, h3⟩ := h
  refine ⟨h0, ta, tc, ad, c, h1, h2, xo_imp h3.1 (fun k hk hs => ⟨hs, hk⟩), fun k hk => ⟨h3.2 k hk, ?_⟩⟩
  obtain ⟨xs, ho, -⟩ := h3.1
  exact (ho.lt k hk).2
theorem sd_wide {M : Nat} (h : SD (fun j => B ≤ j ∧ j < M) B R w C k bd X) : SD (fun j => B ≤ j) B R w C k bd X := by
  obtain ⟨h0, ta, tc, ad, c, h1, h2, h3, h4⟩ := h
  exact ⟨h0, ta, tc, ad, c, h1, h2, xo_imp h3 (fun k _ hs => hs.1), fun k hk => (h4 k hk).1⟩
theorem sd_hi {T : Nat → Prop} {M : Nat} (h : SD (fun j => B ≤ j ∧ j < M) B R w C k bd X) (q : Kp T w w') (hT : ∀ j, T j → M ≤ j) (hTR : ¬ T R) (hB : B ≤ M) : SD (fun j => B ≤ j ∧ j < M) B R w' C k bd X := by
  obtain ⟨h0, ta, tc, ad, c, h1, h2, h3, h4⟩ := h
  have hlt := sx_lt h1
  exact ⟨h0, ta, tc, ad, c, (q.block R hlt hTR).trans h1, tx_go h2 (kp_below q (by omega) (fun j hj => by have := hT j hj; omega)), xo_kp h3 q (fun j hj ht => by have := (h4 j hj).2; have := hT j ht; omega) (fun B' z n v ys j hv hj hs ht => by have := hs.2; have := hT j ht; omega), h4⟩
/-- A node more, in memory. -/
theorem sa_fin {nk : Int} {nt : Bool} {L : List (Int × Int)} {a b mn mx : Int} {na : Option Addr} {nc nL m : Nat} {gg cap' : Nat} {w9 : World} {o : Obj} {ta ad : Option Addr} {tc c : Nat} {xs : List Value} (hm : X.length = m) (hnL : L.length = nL) (h0 : B ≤ R ∧ k ≤ C.length ∧ C.length ≤ 400) (h1 : SX w R ta C.length tc k bd ad X.length c) (h2 : Tx B w ta tc C) (hown : w.ownsRow B 69 7 (.slice ad m c) m xs) (hits : XItsZ 500 S w xs X) (hdj : Dj7 xs X.length) (hL : L.length ≤ 500) (hS : ∀ j, S j → B ≤ j)
    (ho : w.ownsRow 0 103 2 (.slice na nL nc) nL (prV L)) (hk : ∀ k, (Value.slice na L.length nc).ownBlock = some k → B ≤ k ∧ ¬ S k)
    (hown9 : w9.ownsRow B 69 7 (.slice (some ⟨gg, 0, none⟩) (m + 1) cap') (m + 1) (xs ++ [.int .i64 nk, .bool nt, .slice na nL nc, .int .i64 a, .int .i64 b, .int .i64 mn, .int .i64 mx])) (hg : (w.alloc o).grownBy w9 (Value.slice ad m c).ownBlock) (hat : (Value.slice ad m c).ownBlock = some gg ∨ gg = w.heap.size + 1) :
    w9.cell? ⟨R, 3, none⟩ = some (.slice ad m c) ∧ w9.frozen? ⟨R, 3, none⟩ = false ∧ SD (fun j => B ≤ j) B R (w9.setCell ⟨R, 3, none⟩ (.slice (some ⟨gg, 0, none⟩) (m + 1) cap')) C k bd (X ++ [⟨nk, nt, L, a, b, mn, mx⟩]) ∧ Below B w (w9.setCell ⟨R, 3, none⟩ (.slice (some ⟨gg, 0, none⟩) (m + 1) cap')) := by
  subst hm; subst hnL
  have hlt := sx_lt h1
  have hkp : Kp (fun j => (Value.slice ad X.length c).ownBlock = some j) w w9 := (kp_alloc w o).trans (kp_grown (S := fun j => (Value.slice ad X.length c).ownBlock = some j) hg (fun j hj => hj)) (fun j _ hj => hj)
  have r9 : SX w9 R ta C.length tc k bd ad X.length c := (hkp.block R hlt (fun e => type_ne hown e h1 (by decide) rfl)).trans h1
  have b9 : Below B w w9 := kp_below hkp (by omega) (fun k hk9 => (hown.lt k hk9).1)
  have ks := kp_r w9 R 3 (.slice (some ⟨gg, 0, none⟩) (X.length + 1) cap')
  have bs : Below B w9 (w9.setCell ⟨R, 3, none⟩ (.slice (some ⟨gg, 0, none⟩) (X.length + 1) cap')) := kp_below ks (by have := hkp.size; omega) (fun j hj => by have hj' : j = R := hj; omega)
  have i1 : XItsZ 500 (fun j => B ≤ j) w xs X := xits_imp hits (fun k _ hs => hS k hs)
  have i2 := xits_push i1 hown.1 (nd := ⟨nk, nt, L, a, b, mn, mx⟩) ho (fun k hk9 => (hk k hk9).1) hL
  have d2 := dj7_push hdj hown.1 (nd := ⟨nk, nt, L, a, b, mn, mx⟩) (ad := na) (cp := nc) (fun j k hj hk9 e => (hk k e).2 (xits_kb hits hj hk9).1)
  have i3 := xits_kp i2 hkp (fun B' z n v ys j hv hj _ e => own_ne hv hj hown e (by decide) rfl)
  have hl : (X ++ [(⟨nk, nt, L, a, b, mn, mx⟩ : Nd)]).length = X.length + 1 := by simp
  have hgB : B ≤ gg := by
    rcases hat with e | e
    · exact (hown.lt gg e).1
    · omega
  refine ⟨(sx_cells r9).2.2.2, sx_frozen r9 3, ⟨h0, ta, tc, some ⟨gg, 0, none⟩, cap', ?_, tx_go (tx_go h2 b9) bs, ?_, fun k hk9 => by have h9 : gg = k := (by simpa [Value.ownBlock] using hk9); omega⟩, b9.trans bs⟩
  · rw [hl]; exact sx_o r9 _ _ _
  · refine xo_sr r9 ⟨_, ?_, i3, ?_⟩ ks
    · rw [hl]; exact hown9
    · rw [hl]; exact d2
end
set_option maxRecDepth 100000 in
set_option maxHeartbeats 8000000 in
theorem s_add {S : Nat → Prop} (B R : Nat) (C : List Int) (k : Nat) (X : List Nd) (nd : Nd) (na : Option Addr) (nc : Nat) (w : World) (hX : X.length ≤ 120) (hL : nd.L.length ≤ 500) (h : SD S B R w C k false X) (hS : ∀ j, S j → B ≤ j) (ho : w.ownsRow 0 103 2 (.slice na nd.L.length nc) nd.L.length (prV nd.L)) (hk : ∀ k, (Value.slice na nd.L.length nc).ownBlock = some k → B ≤ k ∧ ¬ S k) :
    Calls Tryz.prog 76 #[.pointer (some ⟨R, 0, none⟩), .agg #[.int .i64 nd.k, .bool nd.nt, .slice na nd.L.length nc, .int .i64 nd.a, .int .i64 nd.b, .int .i64 nd.mn, .int .i64 nd.mx]] w fun e w' => e = .returned (.int .i64 (X.length : Int)) ∧ SD (fun j => B ≤ j) B R w' C k (decide (120 < X.length + 1)) (X ++ [nd]) ∧ Below B w w' := by
  obtain ⟨i0, hi0, hz0, hz1, hz2⟩ := info_parts infoND
  obtain ⟨nk, nt, L, a, b, mn, mx⟩ := nd
  obtain ⟨nL, hnL⟩ : ∃ nL, L.length = nL := ⟨_, rfl⟩
  have hbB := sd_lt h
  have bA : Below B w (w.alloc (.cells #[.int .i64 nk, .bool nt, .slice na L.length nc, .int .i64 a, .int .i64 b, .int .i64 mn, .int .i64 mx] 69)) := (Below.refl B w).alloc hbB _
  obtain ⟨h0, ta, tc, ad, c, h1, h2, h3⟩ := sd_bl h ((Below.refl w.heap.size w).alloc (Nat.le_refl _) (.cells #[.int .i64 nk, .bool nt, .slice na L.length nc, .int .i64 a, .int .i64 b, .int .i64 mn, .int .i64 mx] 69))
  have o1 := own_kp ho (kp_alloc (S := fun _ => False) w (.cells #[.int .i64 nk, .bool nt, .slice na L.length nc, .int .i64 a, .int .i64 b, .int .i64 mn, .int .i64 mx] 69)) (fun _ _ x => x)
  have hG := heap_alloc_new w (.cells #[.int .i64 nk, .bool nt, .slice na L.length nc, .int .i64 a, .int .i64 b, .int .i64 mn, .int .i64 mx] 69)
  have hsz : w.heap.size < (w.alloc (.cells #[.int .i64 nk, .bool nt, .slice na L.length nc, .int .i64 a, .int .i64 b, .int .i64 mn, .int .i64 mx] 69)).heap.size := by simp
  simp only [hnL] at hG h1 h2 h3 o1 hsz bA
  obtain ⟨G, hGw⟩ : ∃ G, w.heap.size = G := ⟨_, rfl⟩
  go_enter Tryz.func76, Tryz.ntmps76
  simp only [hnL]
  go_wp2_with fail
  obtain ⟨W, hW⟩ : ∃ W, w.alloc (.cells #[.int .i64 nk, .bool nt, .slice na nL nc, .int .i64 a, .int .i64 b, .int .i64 mn, .int .i64 mx] 69) = W := ⟨_, rfl⟩
  rw [hGw] at hG hsz
  rw [hW] at hG h1 h2 h3 o1 hsz bA
  rw [hW]
  clear hW
  obtain ⟨xs, hown, hits, hdj⟩ := h3.1
  have hBW : B ≤ W.heap.size := by omega
  have hRW := sx_lt h1
  have cG : ∀ i, W.drew.cell? ⟨G, i, none⟩ = (#[.int .i64 nk, .bool nt, .slice na nL nc, .int .i64 a, .int .i64 b, .int .i64 mn, .int .i64 mx] : Array Value)[i]? := fun i => by rw [cell_of_row W.drew G i _ _ (0, 0) hG]
  have g0 : W.drew.cell? ⟨G, 0, none⟩ = some (.int .i64 nk) := cG 0
  have g1 : W.drew.cell? ⟨G, 1, none⟩ = some (.bool nt) := cG 1
  have g2 : W.drew.cell? ⟨G, 2, none⟩ = some (.slice na nL nc) := cG 2
  have g3 : W.drew.cell? ⟨G, 3, none⟩ = some (.int .i64 a) := cG 3
  have g4 : W.drew.cell? ⟨G, 4, none⟩ = some (.int .i64 b) := cG 4
  have g5 : W.drew.cell? ⟨G, 5, none⟩ = some (.int .i64 mn) := cG 5
  have g6 : W.drew.cell? ⟨G, 6, none⟩ = some (.int .i64 mx) := cG 6
  have r1 : W.drew.cell? ⟨R, 3, none⟩ = some (.slice ad X.length c) := (sx_cells (w := W.drew) h1).2.2.2
  have r1a : ∀ o, (W.alloc o).cell? ⟨R, 3, none⟩ = some (.slice ad X.length c) := fun o => (sx_cells (w := W.alloc o) ((kp_alloc (S := fun _ => False) W o).block R hRW (fun x => x) |>.trans h1)).2.2.2
  have r1b : ∀ o, (W.alloc o).drew.cell? ⟨R, 3, none⟩ = some (.slice ad X.length c) := fun o => r1a o
  have H1 := hide h1
  have H2 := hide h2
  have HOW := hide hown
  have HIT := hide hits
  have HDJ := hide hdj
  have HS := hide hS
  have HK := hide hk
  have HO := hide o1
  have HA := hide bA
  obtain ⟨m, hm⟩ : ∃ m, X.length = m := ⟨_, rfl⟩
  have HM := hide hm
  rw [hm] at r1 r1a r1b hX HOW
  clear cG h1 h2 hown hits hdj hS hk o1 bA h ho hG hm hGw hbB
  go_cut [] (fun wx => SD (fun j => B ≤ j) B R wx C k false (X ++ [⟨nk, nt, L, a, b, mn, mx⟩]) ∧ Below B w wx)
  case first =>
    go_region_law (first
      | (refine step_append_lies _ (by rfl) _ _ _ (by rfl) B 69 i0 _ 7 72 Tryz.underlying24 hi0 hz0 hz1 hz2 rfl (by omega) (.slice ad m c) m xs (by rfl) (HOW.out.alloc _).drew ⟨W.heap.size, 0, none⟩ 1 1 [.int .i64 nk, .bool nt, .slice na nL nc, .int .i64 a, .int .i64 b, .int .i64 mn, .int .i64 mx] (by rfl) (by rfl) (World.news_of_block (cs := #[.int .i64 nk, .bool nt, .slice na nL nc, .int .i64 a, .int .i64 b, .int .i64 mn, .int .i64 mx]) (t := 69) (fr := (0, 0)) (heap_alloc_new W _)) (by simp [Value.oneCell']) (by omega) (by unfold maxLen; omega) (by omega) (by simp; omega) (W.heap.size + 1) (by simp) ?_; intro gg cap' w9 hown9 hgrow9 hat9 hlt9; have hgr9 := grown_undrewR hgrow9; obtain ⟨hc9, hf9, h9, hb9⟩ := sa_fin HM.out hnL h0 H1.out H2.out HOW.out HIT.out HDJ.out hL HS.out HO.out HK.out hown9 hgr9 hat9; have H9 := hide h9; have HB9 := hide (HA.out.trans hb9); clear hown9 hgrow9 hgr9 hat9 h9 hb9)
      | (fail))
    all_goals
      go_wp2
      go_meet
      exact ⟨H9.out, HB9.out⟩
  case rest =>
    obtain ⟨h9, hb9⟩ := hcut
    have hl : (X ++ [(⟨nk, nt, L, a, b, mn, mx⟩ : Nd)]).length = m + 1 := by rw [List.length_append, HM.out]; rfl
    obtain ⟨ta9, tc9, ad9, cp9, ⟨c0, c1, c2, c3⟩, f9, -⟩ := sd_cells h9
    have f2 := f9 2
    rw [hl] at c3
    have H9 := hide h9
    have HB9 := hide hb9
    have hwm : IntKind.i64.wrap ((m : Int) + 1 - 1) = (m : Int) := by rw [IntKind.wrap_i64]; omega
    have hwm2 : IntKind.i64.wrap (((m + 1 : Nat) : Int) - 1) = (m : Int) := by rw [IntKind.wrap_i64]; omega
    have hwm3 : IntKind.i64.wrap (m : Int) = (m : Int) := by rw [IntKind.wrap_i64]; omega
    clear h9 hb9 hl f9 H1 H2 HOW HIT HDJ HS HK HO HA g0 g1 g2 g3 g4 g5 g6 r1 r1a r1b hsz
    by_cases hbig : 120 < m + 1
    · have hb1 : (120 : Int) < (m : Int) + 1 := by omega
      have hb2 : (120 : Int) < ((m + 1 : Nat) : Int) := by omega
      have HS2 := hide (sd_b H9.out true)
      have HB2 := hide (HB9.out.trans (sd_kpB H9.out (kp_r _ R 2 (.bool true))))
      have HD : Hid (decide (120 < m + 1) = true) := hide (decide_eq_true hbig)
      go_wp2
      go_ret
      rw [HM.out, HD.out]
      exact ⟨by simp, HS2.out, HB2.out⟩
    · have hb1 : ¬ (120 : Int) < (m : Int) + 1 := by omega
      have hb2 : ¬ (120 : Int) < ((m + 1 : Nat) : Int) := by omega
      have HD : Hid (decide (120 < m + 1) = false) := hide (decide_eq_false hbig)
      go_wp2
      go_ret
      rw [HM.out, HD.out]
      exact ⟨by simp, H9.out, HB9.out⟩
end Go.Proofs.YtepommmmmfaihaaGreatDoor
