/-
  Contracts of the specification's reader of expressions: its cells, one look at a sign.
-/
import Derived.Test.YtepommmmmfaihaaDoorC32
import Derived.Test.YtepommmmmfaihaaDoorC3
import Derived.Deep.QuietTactic
namespace Go.Proofs.YtepommmmmfaihaaDoor
open Go.RowKit Go.Joins
set_option linter.unusedVariables false
set_option linter.unusedSimpArgs false
/-- The reader's cells. -/
def SX (w : World) (R : Nat) (ta : Option Addr) (n tc k : Nat) (bd : Bool) (ad : Option Addr) (m c : Nat) : Prop := w.heap[R]? = some (.cells #[.slice ta n tc, .int .i64 (k : Int), .bool bd, .slice ad m c] 90 (0, 0))
def SD (S : Nat → Prop) (B R : Nat) (w : World) (C : List Int) (k : Nat) (bd : Bool) (X : List Nd) : Prop := (B ≤ R ∧ k ≤ C.length ∧ C.length ≤ 400) ∧ ∃ ta tc ad c, SX w R ta C.length tc k bd ad X.length c ∧ Tx B w ta tc C ∧ XOZ 500 B S w ad c X ∧ ∀ k, (Value.slice ad X.length c).ownBlock = some k → S k
section
variable {w w' : World} {B R n tc k m c : Nat} {bd : Bool} {ta ad : Option Addr} {C : List Int} {X : List Nd} {S : Nat → Prop}
theorem sx_cells (h : SX w R ta n tc k bd ad m c) : w.cell? ⟨R, 0, none⟩ = some (.slice ta n tc) ∧ w.cell? ⟨R, 1, none⟩ = some (.int .i64 (k : Int)) ∧ w.cell? ⟨R, 2, none⟩ = some (.bool bd) ∧ w.cell? ⟨R, 3, none⟩ = some (.slice ad m c) := by
  have e : ∀ i, w.cell? ⟨R, i, none⟩ = (#[.slice ta n tc, .int .i64 (k : Int), .bool bd, .slice ad m c] : Array Value)[i]? := fun i => by rw [cell_of_row w R i _ _ (0, 0) h]
  exact ⟨e 0, e 1, e 2, e 3⟩
theorem sx_frozen (h : SX w R ta n tc k bd ad m c) (i : Nat) : w.frozen? ⟨R, i, none⟩ = false := frozen_of_row w R i _ _ h
theorem sx_lt (h : SX w R ta n tc k bd ad m c) : R < w.heap.size := (Array.getElem?_eq_some_iff.1 h).1
theorem sx_k (h : SX w R ta n tc k bd ad m c) (k' : Nat) : SX (w.setCell ⟨R, 1, none⟩ (.int .i64 (k' : Int))) R ta n tc k' bd ad m c := heap_setCell_same w R 1 _ _ _ h
theorem sx_b (h : SX w R ta n tc k bd ad m c) (b : Bool) : SX (w.setCell ⟨R, 2, none⟩ (.bool b)) R ta n tc k b ad m c := heap_setCell_same w R 2 _ _ _ h
theorem sx_o (h : SX w R ta n tc k bd ad m c) (ad' : Option Addr) (m' c' : Nat) : SX (w.setCell ⟨R, 3, none⟩ (.slice ad' m' c')) R ta n tc k bd ad' m' c' := heap_setCell_same w R 3 _ _ _ h
theorem xo_sr (hx : SX w R ta n tc k bd ad m c) {ad' : Option Addr} {c' : Nat} {Z : Nat} {S : Nat → Prop} (h : XOZ Z B S w ad' c' X) (k : Kp (fun j => j = R) w w') : XOZ Z B S w' ad' c' X := by
  obtain ⟨xs, h1, h2, h3⟩ := h
  refine ⟨xs, own_kp h1 k (fun j hj => type_ne h1 hj hx (by decide)), xits_kp h2 k (fun B' z n v ys j hv hj _ => type_ne hv hj hx (by decide)), h3⟩
theorem sd_lt (h : SD S B R w C k bd X) : B ≤ w.heap.size := by
  obtain ⟨h0, ta, tc, ad, c, h1, -⟩ := h
  have := sx_lt h1
  omega
theorem sd_ch (h : SD S B R w C k bd X) : ∀ c ∈ C, chB c = true := by
  obtain ⟨h0, ta, tc, ad, c, h1, h2, h3⟩ := h
  exact h2.2.2.2
theorem sd_kpB (h : SD S B R w C k bd X) (q : Kp (fun j => j = R) w w') : Below B w w' := kp_below q (sd_lt h) (fun j hj => by have := h.1.1; have hj' : j = R := hj; omega)
theorem sd_bl (h : SD S B R w C k bd X) (q : Below w.heap.size w w') : SD S B R w' C k bd X := by
  obtain ⟨h0, ta, tc, ad, c, h1, h2, h3, h4⟩ := h
  have hlt := sx_lt h1
  exact ⟨h0, ta, tc, ad, c, (q.block R hlt).trans h1, tx_go h2 (q.mono (by omega)), xo_below h3 q, h4⟩
theorem bl_drewN (w : World) (q : Nat) : Below w.heap.size w (w.drewN q) := ⟨rfl, rfl, rfl, Nat.le_refl _, fun _ _ => rfl⟩
theorem sd_dr (h : SD S B R w C k bd X) (q : Nat) : SD S B R (w.drewN q) C k bd X := sd_bl h (bl_drewN w q)
theorem sd_set (h : SD S B R w C k bd X) (i : Nat) (v : Value) {k' : Nat} {bd' : Bool} (hk : k' ≤ C.length) (hs : ∀ ta tc ad c, SX w R ta C.length tc k bd ad X.length c → SX (w.setCell ⟨R, i, none⟩ v) R ta C.length tc k' bd' ad X.length c) : SD S B R (w.setCell ⟨R, i, none⟩ v) C k' bd' X := by
  obtain ⟨⟨h0, h5, h6⟩, ta, tc, ad, c, h1, h2, h3, h4⟩ := h
  have hk9 := kp_r w R i v
  have hlt := sx_lt h1
  exact ⟨⟨h0, hk, h6⟩, ta, tc, ad, c, hs _ _ _ _ h1, tx_go h2 (kp_below hk9 (by omega) (fun j hj => by have hj' : j = R := hj; omega)), xo_sr h1 h3 hk9, h4⟩
theorem sd_k (h : SD S B R w C k bd X) {k' : Nat} (hk : k' ≤ C.length) : SD S B R (w.setCell ⟨R, 1, none⟩ (.int .i64 (k' : Int))) C k' bd X := sd_set h 1 _ hk (fun _ _ _ _ h1 => sx_k h1 k')
theorem sd_b (h : SD S B R w C k bd X) (b : Bool) : SD S B R (w.setCell ⟨R, 2, none⟩ (.bool b)) C k b X := sd_set h 2 _ h.1.2.1 (fun _ _ _ _ h1 => sx_b h1 b)
theorem sd_k1 (h : SD S B R w C k bd X) (hk : k < C.length) : SD S B R (w.setCell ⟨R, 1, none⟩ (.int .i64 ((k : Int) + 1))) C (k + 1) bd X := by
  have e : ((k + 1 : Nat) : Int) = (k : Int) + 1 := by omega
  rw [← e]
  exact sd_k h hk
/-- The reader's cells, and the character at its place. -/
theorem sd_cells (h : SD S B R w C k bd X) : ∃ ta tc ad c, (w.cell? ⟨R, 0, none⟩ = some (.slice ta C.length tc) ∧ w.cell? ⟨R, 1, none⟩ = some (.int .i64 (k : Int)) ∧ w.cell? ⟨R, 2, none⟩ = some (.bool bd) ∧ w.cell? ⟨R, 3, none⟩ = some (.slice ad X.length c)) ∧ (∀ i, w.frozen? ⟨R, i, none⟩ = false) ∧ (0 < C.length → ∃ b off, ta = some ⟨b, off, none⟩ ∧ ∀ (j : Nat) (d : Int), C[j]? = some d → w.cell? ⟨b, off + j, none⟩ = some (.int .i64 d)) := by
  obtain ⟨h0, ta, tc, ad, c, h1, h2, h3⟩ := h
  refine ⟨ta, tc, ad, c, sx_cells h1, sx_frozen h1, fun h9 => ?_⟩
  obtain ⟨b, off, e, -, hc⟩ := h2.2.2.1 h9
  exact ⟨b, off, e, hc⟩
theorem drop_at {c : Int} {r : List Int} (h : C.drop k = c :: r) : C[k]? = some c ∧ r = C.drop (k + 1) ∧ k < C.length := by
  have hlt : k < C.length := by
    rcases Nat.lt_or_ge k C.length with h9 | h9
    · exact h9
    · rw [List.drop_eq_nil_of_le h9] at h; cases h
  rw [List.drop_eq_getElem_cons hlt] at h
  simp only [List.cons.injEq] at h
  exact ⟨by rw [List.getElem?_eq_getElem hlt, h.1], h.2.symm, hlt⟩
end
/-- All that a walk wants to know of the reader at a character. -/
theorem sd_here {S : Nat → Prop} {B R : Nat} {w : World} {C : List Int} {k : Nat} {bd : Bool} {X : List Nd} {c : Int} {r : List Int} (h : SD S B R w C k bd X) (hc : C.drop k = c :: r) : ∃ b off tc ad cp, w.cell? ⟨R, 0, none⟩ = some (.slice (some ⟨b, off, none⟩) C.length tc) ∧ w.cell? ⟨R, 1, none⟩ = some (.int .i64 (k : Int)) ∧ w.cell? ⟨R, 2, none⟩ = some (.bool bd) ∧ w.cell? ⟨R, 3, none⟩ = some (.slice ad X.length cp) ∧ w.frozen? ⟨R, 1, none⟩ = false ∧ w.frozen? ⟨R, 2, none⟩ = false ∧ w.cell? ⟨b, off + k, none⟩ = some (.int .i64 c) ∧ k < C.length := by
  obtain ⟨h1, h2, h3⟩ := drop_at hc
  obtain ⟨ta, tc, ad, cp, ⟨c0, c1, c2, c3⟩, f, h4⟩ := sd_cells h
  obtain ⟨b, off, rfl, h5⟩ := h4 (by omega)
  exact ⟨b, off, tc, ad, cp, c0, c1, c2, c3, f 1, f 2, h5 k c h1, h3⟩
set_option maxHeartbeats 2000000 in
theorem s_isY {S : Nat → Prop} (B R : Nat) (C : List Int) (k : Nat) (s : Int) (r : List Int) (X : List Nd) (w : World) (h : SD S B R w C k false X) (hc : C.drop k = s :: r) :
    Calls Tryd.prog 58 #[.pointer (some ⟨R, 0, none⟩), .int .i64 s] w fun e w' => e = .returned (.bool true) ∧ SD S B R w' C (k + 1) false X ∧ Kp (fun j => j = R) w w' := by
  obtain ⟨b, off, tc, ad, cp, c0, c1, c2, c3, f1, f2, ck, hlt⟩ := sd_here h hc
  have H0 := hide h
  have h4 := h.1.2.2
  have hd : decide ((k : Int) ≥ (C.length : Int)) = false := decide_eq_false (by omega)
  have hi0 : (0 : Int) ≤ (k : Int) := by omega
  have hi1 : (k : Int) < (C.length : Int) := by omega
  have hi2 : ¬ (C.length : Int) ≤ (k : Int) := by omega
  have hw : IntKind.i64.wrap ((k : Int) + 1) = (k : Int) + 1 := by rw [IntKind.wrap_i64]; omega
  have hne : (s != s) = false := by simp
  clear h hc
  go_enter Tryd.func58, Tryd.ntmps58
  go_wp2
  go_quiet (fail)
  go_wp2
  go_ret
  exact ⟨rfl, sd_k1 (sd_dr H0.out _) hlt, (kp_drewN w _).trans (kp_r _ R 1 _) (fun j _ hj => hj)⟩
set_option maxHeartbeats 2000000 in
theorem s_isN {S : Nat → Prop} (B R : Nat) (C : List Int) (k : Nat) (s : Int) (X : List Nd) (w : World) (h : SD S B R w C k false X) (hc : (C.drop k).head? ≠ some s) :
    Calls Tryd.prog 58 #[.pointer (some ⟨R, 0, none⟩), .int .i64 s] w fun e w' => e = .returned (.bool false) ∧ SD S B R w' C k false X ∧ Kp (fun j => j = R) w w' := by
  have H0 := hide h
  have h4 := h.1.2.2
  have h5 := h.1.2.1
  cases hr : C.drop k with
  | nil =>
    have hk : C.length ≤ k := List.drop_eq_nil_iff.1 hr
    obtain ⟨ta, tc, ad, cp, ⟨c0, c1, c2, c3⟩, f, -⟩ := sd_cells h
    have hd : decide ((k : Int) ≥ (C.length : Int)) = true := decide_eq_true (by omega)
    have hi2 : (C.length : Int) ≤ (k : Int) := by omega
    clear h hc hr
    go_enter Tryd.func58, Tryd.ntmps58
    go_wp2
    go_quiet (fail)
    go_wp2
    go_ret
    exact ⟨rfl, sd_dr H0.out _, kp_drewN w _⟩
  | cons c r =>
    obtain ⟨b, off, tc, ad, cp, c0, c1, c2, c3, f1, f2, ck, hlt⟩ := sd_here h hr
    have hd : decide ((k : Int) ≥ (C.length : Int)) = false := decide_eq_false (by omega)
    have hi0 : (0 : Int) ≤ (k : Int) := by omega
    have hi1 : (k : Int) < (C.length : Int) := by omega
    have hi2 : ¬ (C.length : Int) ≤ (k : Int) := by omega
    have hne : (c != s) = true := by
      rw [hr] at hc
      simp only [List.head?_cons, ne_eq, Option.some.injEq] at hc
      simp [hc]
    clear h hc hr
    go_enter Tryd.func58, Tryd.ntmps58
    go_wp2
    go_quiet (fail)
    go_wp2
    go_ret
    exact ⟨rfl, sd_dr H0.out _, kp_drewN w _⟩
set_option maxHeartbeats 2000000 in
theorem s_isB {S : Nat → Prop} (B R : Nat) (C : List Int) (k : Nat) (s : Int) (X : List Nd) (w : World) (h : SD S B R w C k true X) :
    Calls Tryd.prog 58 #[.pointer (some ⟨R, 0, none⟩), .int .i64 s] w fun e w' => e = .returned (.bool false) ∧ SD S B R w' C k true X ∧ Kp (fun j => j = R) w w' := by
  have H0 := hide h
  obtain ⟨ta, tc, ad, cp, ⟨c0, c1, c2, c3⟩, f, -⟩ := sd_cells h
  clear h
  go_enter Tryd.func58, Tryd.ntmps58
  go_wp2
  go_quiet (fail)
  go_wp2
  go_ret
  exact ⟨rfl, sd_dr H0.out _, kp_drewN w _⟩
/-- The character that stands behind a backslash, or -1. -/
def esC (c : Int) : Int := if c = 110 then 10 else if c = 114 then 13 else if c = 116 then 9 else if isS sgE c = true then c else -1
theorem isS_E (c : Int) : isS sgE c = (isS sgO c || (decide ((45 : Int) = c) || decide ((94 : Int) = c))) := by
  unfold isS sgE sgO
  simp only [List.any_cons, List.any_nil, Bool.or_false, Bool.or_assoc]
  rfl
set_option maxHeartbeats 2000000 in
theorem s_esc (c : Int) (w : World) : Calls Tryd.prog 69 #[.int .i64 c] w fun e w' => e = .returned (.int .i64 (esC c)) ∧ w' = w := by
  by_cases e1 : c = 110
  · subst e1
    go_enter Tryd.func69, Tryd.ntmps69
    go_wp2
    go_ret
    exact ⟨rfl, rfl⟩
  · by_cases e2 : c = 114
    · subst e2
      go_enter Tryd.func69, Tryd.ntmps69
      go_wp2
      go_ret
      exact ⟨rfl, rfl⟩
    · by_cases e3 : c = 116
      · subst e3
        go_enter Tryd.func69, Tryd.ntmps69
        go_wp2
        go_ret
        exact ⟨rfl, rfl⟩
      · have b1 : (c == 110) = false := by simp [e1]
        have b2 : (c == 114) = false := by simp [e2]
        have b3 : (c == 116) = false := by simp [e3]
        by_cases e4 : c = 45
        · subst e4
          go_enter Tryd.func69, Tryd.ntmps69
          go_wp2
          go_ret
          exact ⟨rfl, rfl⟩
        · by_cases e5 : c = 94
          · subst e5
            go_enter Tryd.func69, Tryd.ntmps69
            go_wp2
            go_ret
            exact ⟨rfl, rfl⟩
          · have b4 : (c == 45) = false := by simp [e4]
            have b5 : (c == 94) = false := by simp [e5]
            have HE : Hid (esC c = if isS sgO c = true then c else -1) := hide (by
              unfold esC
              rw [if_neg e1, if_neg e2, if_neg e3, isS_E, decide_eq_false (fun h => e4 h.symm), decide_eq_false (fun h => e5 h.symm), Bool.or_false, Bool.or_false])
            have HM := hide (s_meta c w)
            obtain ⟨q, hq⟩ : ∃ q, isS sgO c = q := ⟨_, rfl⟩
            rw [hq] at HE HM
            clear e1 e2 e3 e4 e5 hq
            cases q
            all_goals
              go_enter Tryd.func69, Tryd.ntmps69
              go_wp2_with (go_at_call 70; refine HM.out.mono ?_; rintro e w9 ⟨rfl, h9⟩; rw [h9]; clear h9 w9)
              go_ret
              rw [HE.out]
              exact ⟨rfl, rfl⟩
theorem es_of {c : Int} {r : List Int} (hc : 0 ≤ c) : (esP (c :: r) = none ∧ esC c < 0) ∨ (esP (c :: r) = some (esC c, r) ∧ 0 ≤ esC c) := by
  rw [esP]
  unfold esC
  split
  · exact .inr ⟨rfl, by decide⟩
  · split
    · exact .inr ⟨rfl, by decide⟩
    · split
      · exact .inr ⟨rfl, by decide⟩
      · split
        · exact .inr ⟨rfl, hc⟩
        · exact .inl ⟨rfl, by decide⟩
end Go.Proofs.YtepommmmmfaihaaDoor
