/-
  Texts put together: RrA, RrD.
-/
import Derived.Test.YtepommmmmfaihaaGreatDoorB32
import Derived.WalkLawsBesides
import Derived.Deep.RegionWith
import Derived.Deep.RegionLaw
import Derived.Deep.DeepCutAuto
/-
  Contracts of the program's reader of expressions: its cells, one look at a sign, what must stand there, the next character.
-/
namespace Go.Proofs.YtepommmmmfaihaaGreatDoor
open Go.RowKit Go.Joins
set_option linter.unusedVariables false
set_option linter.unusedSimpArgs false
/-- The reader's cells. -/
def XR (w : World) (R : Nat) (ta : Option Addr) (n tc : Nat) (ad : Option Addr) (m c : Nat) : Prop := w.heap[R]? = some (.cells #[.slice ta n tc, .slice ad m c] 107 (0, 0))
/-- The characters that are left, in memory below B. -/
def Tx (B : Nat) (w : World) (ta : Option Addr) (tc : Nat) (u : List Int) : Prop := u.length ≤ tc ∧ tc ≤ maxLen ∧ (0 < u.length → ∃ b off, ta = some ⟨b, off, none⟩ ∧ b < B ∧ ∀ j c, u[j]? = some c → w.cell? ⟨b, off + j, none⟩ = some (.int .i64 c)) ∧ ∀ c ∈ u, chB c = true
def RD (S : Nat → Prop) (B R : Nat) (w : World) (u : List Int) (X : List Nd) : Prop := B ≤ R ∧ ∃ ta tc ad c, XR w R ta u.length tc ad X.length c ∧ Tx B w ta tc u ∧ XOZ 500 B S w ad c X ∧ ∀ k, (Value.slice ad X.length c).ownBlock = some k → S k
section
variable {w w' : World} {B R n tc m c : Nat} {ta ad : Option Addr} {u : List Int} {X : List Nd}
theorem xr_cells (h : XR w R ta n tc ad m c) : w.cell? ⟨R, 0, none⟩ = some (.slice ta n tc) ∧ w.cell? ⟨R, 1, none⟩ = some (.slice ad m c) := by
  have e : ∀ i, w.cell? ⟨R, i, none⟩ = (#[.slice ta n tc, .slice ad m c] : Array Value)[i]? := fun i => by rw [cell_of_row w R i _ _ (0, 0) h]
  exact ⟨e 0, e 1⟩
theorem xr_frozen (h : XR w R ta n tc ad m c) (i : Nat) : w.frozen? ⟨R, i, none⟩ = false := frozen_of_row w R i _ _ h
theorem xr_lt (h : XR w R ta n tc ad m c) : R < w.heap.size := (Array.getElem?_eq_some_iff.1 h).1
theorem xr_t (h : XR w R ta n tc ad m c) (ta' : Option Addr) (n' tc' : Nat) : XR (w.setCell ⟨R, 0, none⟩ (.slice ta' n' tc')) R ta' n' tc' ad m c := heap_setCell_same w R 0 _ _ (.slice ta' n' tc') h
theorem xr_o (h : XR w R ta n tc ad m c) (ad' : Option Addr) (m' c' : Nat) : XR (w.setCell ⟨R, 1, none⟩ (.slice ad' m' c')) R ta n tc ad' m' c' := heap_setCell_same w R 1 _ _ (.slice ad' m' c') h
theorem tx_go (h : Tx B w ta tc u) (k : Below B w w') : Tx B w' ta tc u := by
  obtain ⟨h1, h2, h3, h4⟩ := h
  refine ⟨h1, h2, fun h0 => ?_, h4⟩
  obtain ⟨b, off, rfl, hb, hc⟩ := h3 h0
  exact ⟨b, off, rfl, hb, fun j c hj => by
    have := hc j c hj
    simp only [World.cell?] at this ⊢
    rw [k.block b hb]
    exact this⟩
theorem kp_r (w : World) (R : Nat) (i : Nat) (v : Value) : Kp (fun j => j = R) w (w.setCell ⟨R, i, none⟩ v) := kp_set (S := fun j => j = R) _ _ _ rfl
theorem kp_rB {S : Nat → Prop} (h : Kp S w w') (hB : B ≤ w.heap.size) (hS : ∀ j, S j → B ≤ j) : Below B w w' := kp_below h hB hS
/-- The rows of nodes stay where the reader alone is written. -/
theorem xo_r (hx : XR w R ta n tc ad m c) {ad' : Option Addr} {c' : Nat} {Z : Nat} {S : Nat → Prop} (h : XOZ Z B S w ad' c' X) (k : Kp (fun j => j = R) w w') : XOZ Z B S w' ad' c' X := by
  obtain ⟨xs, h1, h2, h3⟩ := h
  refine ⟨xs, own_kp h1 k (fun j hj => type_ne h1 hj hx (by decide)), xits_kp h2 k (fun B' z n v ys j hv hj _ => type_ne hv hj hx (by decide)), h3⟩
end
section
variable {S : Nat → Prop} {w w' : World} {B R : Nat} {u : List Int} {X : List Nd}
theorem rdx_lt (h : RD S B R w u X) : B ≤ w.heap.size := by
  obtain ⟨h0, ta, tc, ad, c, h1, -⟩ := h
  have := xr_lt h1
  omega
theorem rd_ch (h : RD S B R w u X) : ∀ c ∈ u, chB c = true := by
  obtain ⟨h0, ta, tc, ad, c, h1, h2, h3⟩ := h
  exact h2.2.2.2
theorem rd_kpB (h : RD S B R w u X) (k : Kp (fun j => j = R) w w') : Below B w w' := kp_below k (rdx_lt h) (fun j hj => by have := h.1; have hj' : j = R := hj; omega)
/-- The next character. -/
theorem rd_cons {c : Int} {r : List Int} (h : RD S B R w (c :: r) X) : ∃ b off tc ad cp, w.cell? ⟨R, 0, none⟩ = some (.slice (some ⟨b, off, none⟩) (r.length + 1) tc) ∧ w.frozen? ⟨R, 0, none⟩ = false ∧ w.cell? ⟨R, 1, none⟩ = some (.slice ad X.length cp) ∧ w.cell? ⟨b, off, none⟩ = some (.int .i64 c) ∧ r.length + 1 ≤ tc ∧ tc ≤ maxLen ∧
    Hid (∀ (W : World) (o' : Nat), (r.length = 0 ∨ o' = off + 1) → W = w.setCell ⟨R, 0, none⟩ (.slice (some ⟨b, o', none⟩) r.length (tc - 1)) → RD S B R W r X ∧ Kp (fun j => j = R) w W) := by
  obtain ⟨h0, ta, tc, ad, cp, h1, ⟨h2, h3, h4, h5⟩, h6⟩ := h
  obtain ⟨b, off, rfl, hb, hc⟩ := h4 (by simp)
  refine ⟨b, off, tc, ad, cp, (xr_cells h1).1, xr_frozen h1 0, (xr_cells h1).2, hc 0 c rfl, h2, h3, hide fun W o' ho hW => ?_⟩
  subst hW
  have hk := kp_r w R 0 (.slice (some ⟨b, o', none⟩) r.length (tc - 1))
  refine ⟨⟨h0, _, _, ad, cp, xr_t h1 _ _ _, tx_go ⟨?_, by omega, fun h9 => ⟨b, o', rfl, hb, fun j d hj => ?_⟩, fun d hd => h5 d (by simp [hd])⟩ (kp_below hk (by have := xr_lt h1; omega) (fun j hj => by have hj' : j = R := hj; omega)), xo_r h1 h6.1 hk, h6.2⟩, hk⟩
  · simp at h2; omega
  · rw [show o' + j = off + (j + 1) by omega]
    exact hc (j + 1) d (by simpa using hj)
theorem rd_nil (h : RD S B R w [] X) : ∃ ta tc, w.cell? ⟨R, 0, none⟩ = some (.slice ta 0 tc) := by
  obtain ⟨h0, ta, tc, ad, cp, h1, -⟩ := h
  exact ⟨ta, tc, (xr_cells h1).1⟩
theorem rd_row (h : RD S B R w u X) : ∃ ta tc ad cp, w.cell? ⟨R, 0, none⟩ = some (.slice ta u.length tc) ∧ w.cell? ⟨R, 1, none⟩ = some (.slice ad X.length cp) := by
  obtain ⟨h0, ta, tc, ad, cp, h1, -⟩ := h
  exact ⟨ta, tc, ad, cp, xr_cells h1⟩
end
/-- What stands as it must. -/
theorem i_wantY (p : Value) (w : World) : Calls Tryz.prog 79 #[p, .bool true] w fun e w' => e = .returned (.tuple #[]) ∧ w' = w := by
  go_enter Tryz.func79, Tryz.ntmps79
  go_wp2
  go_end0
  exact ⟨rfl, rfl⟩
/-- It gives up. -/
def GivB (B : Nat) (w : World) (e : Ending) (w' : World) : Prop := (∃ t v, e = .panicked [{ v := .iface t v, recovered := false }]) ∧ Below B w w'
theorem i_wantN (B : Nat) (p : Value) (w : World) : Calls Tryz.prog 79 #[p, .bool false] w (GivB B w) := by
  go_enter Tryz.func79, Tryz.ntmps79
  go_wp2
  exact ⟨rfl, ⟨_, _, rfl⟩, Below.refl _ _⟩
set_option maxHeartbeats 2000000 in
theorem i_at {S : Nat → Prop} (B R : Nat) (u : List Int) (X : List Nd) (s : Int) (w : World) (h : RD S B R w u X) : Calls Tryz.prog 105 #[.pointer (some ⟨R, 0, none⟩), .int .i64 s] w fun e w' => e = .returned (.bool (decide (u.head? = some s))) ∧ w' = w := by
  cases u with
  | nil =>
    obtain ⟨ta, tc, c0⟩ := rd_nil h
    clear h
    go_enter Tryz.func105, Tryz.ntmps105
    go_wp2
    go_ret
    exact ⟨rfl, rfl⟩
  | cons c r =>
    obtain ⟨b, off, tc, ad, cp, c0, f0, c1, c2, h1, h2, HT⟩ := rd_cons h
    have h3 : (0 : Int) < (r.length : Int) + 1 := by omega
    have h4 : (0 : Int) < ((r.length + 1 : Nat) : Int) := by omega
    clear h HT
    have hd : (c == s) = decide ((c :: r).head? = some s) := by
      by_cases e : c = s
      · simp [e]
      · simp [e]
    go_enter Tryz.func105, Tryz.ntmps105
    go_wp2
    go_ret
    rw [← hd]
    exact ⟨rfl, rfl⟩
set_option maxHeartbeats 2000000 in
theorem i_takesY {S : Nat → Prop} (B R : Nat) (s : Int) (r : List Int) (X : List Nd) (w : World) (h : RD S B R w (s :: r) X) : Calls Tryz.prog 93 #[.pointer (some ⟨R, 0, none⟩), .int .i64 s] w fun e w' => e = .returned (.bool true) ∧ RD S B R w' r X ∧ Kp (fun j => j = R) w w' := by
  have HA := hide (i_at B R (s :: r) X s w h)
  have hd : decide ((s :: r).head? = some s) = true := by simp
  rw [hd] at HA
  obtain ⟨b, off, tc, ad, cp, c0, f0, c1, c2, h1, h2, HT⟩ := rd_cons h
  have h3 : (1 : Int) ≤ (r.length : Int) + 1 := by omega
  have h4 : (1 : Int) ≤ ((r.length + 1 : Nat) : Int) := by omega
  have h5 : ((r.length + 1 : Nat) : Int) ≤ (tc : Int) := by omega
  clear h hd
  go_enter Tryz.func93, Tryz.ntmps93
  go_wp2_with (first | (go_at_call 105; refine HA.out.mono ?_; rintro e w9 ⟨rfl, h9⟩; rw [h9]; clear h9 w9))
  · have h9 : tc = 1 := by assumption
    have h10 : r.length = 0 := by omega
    go_ret
    exact ⟨rfl, HT.out _ off (.inl h10) (by rw [h9])⟩
  · go_ret
    exact ⟨rfl, HT.out _ _ (.inr rfl) rfl⟩
theorem i_takesN {S : Nat → Prop} (B R : Nat) (s : Int) (u : List Int) (X : List Nd) (w : World) (h : RD S B R w u X) (hu : u.head? ≠ some s) : Calls Tryz.prog 93 #[.pointer (some ⟨R, 0, none⟩), .int .i64 s] w fun e w' => e = .returned (.bool false) ∧ w' = w := by
  have HA := hide (i_at B R u X s w h)
  have hd : decide (u.head? = some s) = false := decide_eq_false hu
  rw [hd] at HA
  clear h hu
  go_enter Tryz.func93, Tryz.ntmps93
  go_wp2_with (first | (go_at_call 105; refine HA.out.mono ?_; rintro e w9 ⟨rfl, h9⟩; rw [h9]; clear h9 w9))
  go_ret
  exact ⟨rfl, rfl⟩
set_option maxHeartbeats 2000000 in
theorem i_nextC {S : Nat → Prop} (B R : Nat) (s : Int) (r : List Int) (X : List Nd) (w : World) (h : RD S B R w (s :: r) X) : Calls Tryz.prog 131 #[.pointer (some ⟨R, 0, none⟩)] w fun e w' => e = .returned (.int .i64 s) ∧ RD S B R w' r X ∧ Kp (fun j => j = R) w w' := by
  obtain ⟨b, off, tc, ad, cp, c0, f0, c1, c2, h1, h2, HT⟩ := rd_cons h
  have h3 : (1 : Int) ≤ (r.length : Int) + 1 := by omega
  have h4 : (1 : Int) ≤ ((r.length + 1 : Nat) : Int) := by omega
  have h5 : ((r.length + 1 : Nat) : Int) ≤ (tc : Int) := by omega
  have h6 : (0 : Int) < (r.length : Int) + 1 := by omega
  have h7 : (0 : Int) < ((r.length + 1 : Nat) : Int) := by omega
  clear h
  go_enter Tryz.func131, Tryz.ntmps131
  go_wp2_with (first | (go_at_call 79; refine (i_wantY _ _).mono ?_; rintro e w9 ⟨rfl, h9⟩; rw [h9]; clear h9 w9))
  · have h9 : tc = 1 := by assumption
    have h10 : r.length = 0 := by omega
    go_ret
    exact ⟨rfl, HT.out _ off (.inl h10) (by rw [h9])⟩
  · go_ret
    exact ⟨rfl, HT.out _ _ (.inr rfl) rfl⟩
theorem i_nextN {S : Nat → Prop} (B R : Nat) (X : List Nd) (w : World) (h : RD S B R w [] X) : Calls Tryz.prog 131 #[.pointer (some ⟨R, 0, none⟩)] w (GivB B w) := by
  obtain ⟨ta, tc, c0⟩ := rd_nil h
  clear h
  go_enter Tryz.func131, Tryz.ntmps131
  go_wp2_with fail
  refine (i_wantN B _ _).mono ?_
  rintro e w2 ⟨⟨tv, v, rfl⟩, k2⟩
  have K2 := hide k2
  clear k2
  go_wp2
  exact ⟨rfl, ⟨_, _, rfl⟩, K2.out⟩
set_option maxHeartbeats 2000000 in
theorem i_mustY {S : Nat → Prop} (B R : Nat) (s : Int) (r : List Int) (X : List Nd) (w : World) (h : RD S B R w (s :: r) X) : Calls Tryz.prog 132 #[.pointer (some ⟨R, 0, none⟩), .int .i64 s] w fun e w' => e = .returned (.tuple #[]) ∧ RD S B R w' r X ∧ Kp (fun j => j = R) w w' := by
  have HA := hide (i_takesY B R s r X w h)
  clear h
  go_enter Tryz.func132, Tryz.ntmps132
  go_wp2_with fail
  refine HA.out.mono ?_
  rintro e w1 ⟨rfl, h1, k1⟩
  have H1 := hide h1
  have K1 := hide k1
  clear h1 k1 HA
  go_wp2_with (first | (go_at_call 79; refine (i_wantY _ _).mono ?_; rintro e w9 ⟨rfl, h9⟩; rw [h9]; clear h9 w9))
  go_end0
  exact ⟨rfl, H1.out, K1.out⟩
theorem i_mustN {S : Nat → Prop} (B R : Nat) (s : Int) (u : List Int) (X : List Nd) (w : World) (h : RD S B R w u X) (hu : u.head? ≠ some s) : Calls Tryz.prog 132 #[.pointer (some ⟨R, 0, none⟩), .int .i64 s] w (GivB B w) := by
  have HA := hide (i_takesN B R s u X w h hu)
  clear h hu
  go_enter Tryz.func132, Tryz.ntmps132
  go_wp2_with fail
  refine HA.out.mono ?_
  rintro e w9 ⟨rfl, h9⟩
  rw [h9]
  clear h9 w9
  go_wp2_with fail
  refine (i_wantN B _ _).mono ?_
  rintro e w2 ⟨⟨tv, v, rfl⟩, k2⟩
  have K2 := hide k2
  clear k2
  go_wp2
  exact ⟨rfl, ⟨_, _, rfl⟩, K2.out⟩
theorem i_last {S : Nat → Prop} (B R : Nat) (u : List Int) (X : List Nd) (w : World) (hX : X.length ≤ 5000) (h : RD S B R w u X) : Calls Tryz.prog 92 #[.pointer (some ⟨R, 0, none⟩)] w fun e w' => e = .returned (.int .i64 ((X.length : Int) - 1)) ∧ w' = w := by
  obtain ⟨ta, tc, ad, cp, c0, c1⟩ := rd_row h
  clear h
  have hw : IntKind.i64.wrap ((X.length : Int) - 1) = (X.length : Int) - 1 := by rw [IntKind.wrap_i64]; omega
  go_enter Tryz.func92, Tryz.ntmps92
  go_wp2
  go_ret
  exact ⟨rfl, rfl⟩
set_option maxHeartbeats 2000000 in
theorem i_rowEnd {S : Nat → Prop} (B R : Nat) (u : List Int) (X : List Nd) (w : World) (h : RD S B R w u X) : Calls Tryz.prog 103 #[.pointer (some ⟨R, 0, none⟩)] w fun e w' => e = .returned (.bool (rwE u)) ∧ w' = w := by
  have HA := hide (fun s => i_at B R u X s w h)
  cases u with
  | nil =>
    obtain ⟨ta, tc, c0⟩ := rd_nil h
    clear h
    go_enter Tryz.func103, Tryz.ntmps103
    go_wp2
    go_ret
    exact ⟨rfl, rfl⟩
  | cons c r =>
    obtain ⟨b, off, tc, ad, cp, c0, f0, c1, c2, h1, h2, HT⟩ := rd_cons h
    have h3 : (((r.length + 1 : Nat) : Int) == 0) = false := by simp only [beq_eq_false_iff_ne, ne_eq]; omega
    have h4 : ((r.length : Int) + 1 == 0) = false := by simp only [beq_eq_false_iff_ne, ne_eq]; omega
    clear h HT c2 f0
    have A1 := hide (HA.out 124)
    have A2 := hide (HA.out 41)
    clear HA
    by_cases e1 : c = 124
    · have hd : decide ((c :: r).head? = some 124) = true := by simp [e1]
      have hr : rwE (c :: r) = true := by simp [rwE, e1]
      rw [hd] at A1
      rw [hr]
      clear hd hr e1
      go_enter Tryz.func103, Tryz.ntmps103
      go_wp2_with (first | (go_at_call 105; first | (refine A1.out.mono ?_; rintro e w9 ⟨rfl, h9⟩; rw [h9]; clear h9 w9)))
      go_ret
      exact ⟨rfl, rfl⟩
    · have hd : decide ((c :: r).head? = some 124) = false := by simp [e1]
      rw [hd] at A1
      have hr : rwE (c :: r) = decide ((c :: r).head? = some 41) := by simp [rwE, e1]
      rw [← hr] at A2
      obtain ⟨q, hq⟩ : ∃ q, rwE (c :: r) = q := ⟨_, rfl⟩
      rw [hq] at A2 ⊢
      clear hd hr hq e1
      go_enter Tryz.func103, Tryz.ntmps103
      go_wp2_with (first | (go_at_call_of 105 (Value.int .i64 124); (refine A1.out.mono ?_; rintro e w9 ⟨rfl, h9⟩; rw [h9]; clear h9 w9)) | (go_at_call_of 105 (Value.int .i64 41); (refine A2.out.mono ?_; rintro e w9 ⟨rfl, h9⟩; rw [h9]; clear h9 w9)))
      all_goals
        go_ret
        first | exact ⟨rfl, rfl⟩ | (cases q <;> exact ⟨rfl, rfl⟩)
end Go.Proofs.YtepommmmmfaihaaGreatDoor

/-
  Contracts of the program's reader of expressions: a node more.
-/
namespace Go.Proofs.YtepommmmmfaihaaGreatDoor
open Go.RowKit Go.Joins
set_option linter.unusedVariables false
set_option linter.unusedSimpArgs false
theorem infoND : (Tryz.prog.info? 69).map (fun i => (i.zero, i.size, i.bytes)) = some (some (.agg #[.int .i64 0, .bool false, .slice none 0 0, .int .i64 0, .int .i64 0, .int .i64 0, .int .i64 0]), 7, 72) := by kernel_rfl
theorem infoRG : (Tryz.prog.info? 103).map (fun i => (i.zero, i.size, i.bytes)) = some (some (.agg #[.int .i64 0, .int .i64 0]), 2, 16) := by kernel_rfl
theorem grown_undrewR {w w' : World} {row : Option Nat} (h : w.drew.grownBy w' row) : w.grownBy w' row := ⟨h.os, h.tape, h.output, h.size, h.block⟩
section
variable {S : Nat → Prop} {w w' : World} {B R : Nat} {u : List Int} {X : List Nd}
theorem rd_blA (h : RD S B R w u X) (k : Below w.heap.size w w') : RD S B R w' u X := by
  obtain ⟨h0, ta, tc, ad, c, h1, h2, h3⟩ := h
  have hlt := xr_lt h1
  exact ⟨h0, ta, tc, ad, c, (k.block R hlt).trans h1, tx_go h2 (k.mono (by omega)), xo_below h3.1 k, h3.2⟩
/-- A node more, in memory. -/
theorem rd_push {nd : Nd} {na : Option Addr} {nc : Nat} {gg cap' : Nat} {w9 : World} {o : Obj} {ta ad : Option Addr} {tc c : Nat} {xs : List Value} (h0 : B ≤ R) (h1 : XR w R ta u.length tc ad X.length c) (h2 : Tx B w ta tc u) (hown : w.ownsRow B 69 7 (.slice ad X.length c) X.length xs) (hits : XItsZ 500 S w xs X) (hdj : Dj7 xs X.length) (hL : nd.L.length ≤ 500) (hS : ∀ j, S j → B ≤ j)
    (ho : w.ownsRow 0 103 2 (.slice na nd.L.length nc) nd.L.length (prV nd.L)) (hk : ∀ k, (Value.slice na nd.L.length nc).ownBlock = some k → B ≤ k ∧ ¬ S k)
    (hown9 : w9.ownsRow B 69 7 (.slice (some ⟨gg, 0, none⟩) (X.length + 1) cap') (X.length + 1) (xs ++ ndV nd na nc)) (hg : (w.alloc o).grownBy w9 (Value.slice ad X.length c).ownBlock) (hgB : B ≤ gg) :
    w9.cell? ⟨R, 1, none⟩ = some (.slice ad X.length c) ∧ w9.frozen? ⟨R, 1, none⟩ = false ∧ RD (fun j => B ≤ j) B R (w9.setCell ⟨R, 1, none⟩ (.slice (some ⟨gg, 0, none⟩) (X.length + 1) cap')) u (X ++ [nd]) ∧ Below B w (w9.setCell ⟨R, 1, none⟩ (.slice (some ⟨gg, 0, none⟩) (X.length + 1) cap')) := by
  have hlt := xr_lt h1
  have hkp : Kp (fun j => (Value.slice ad X.length c).ownBlock = some j) w w9 := (kp_alloc w o).trans (kp_grown (S := fun j => (Value.slice ad X.length c).ownBlock = some j) hg (fun j hj => hj)) (fun j _ hj => hj)
  have r9 : XR w9 R ta u.length tc ad X.length c := (hkp.block R hlt (fun e => type_ne hown e h1 (by decide) rfl)).trans h1
  have b9 : Below B w w9 := kp_below hkp (by omega) (fun k hk9 => (hown.lt k hk9).1)
  have ks := kp_r w9 R 1 (.slice (some ⟨gg, 0, none⟩) (X.length + 1) cap')
  have bs : Below B w9 (w9.setCell ⟨R, 1, none⟩ (.slice (some ⟨gg, 0, none⟩) (X.length + 1) cap')) := kp_below ks (by have := hkp.size; omega) (fun j hj => by have hj' : j = R := hj; omega)
  have i1 : XItsZ 500 (fun j => B ≤ j) w xs X := xits_imp hits (fun k _ hs => hS k hs)
  have i2 := xits_push i1 hown.1 ho (fun k hk9 => (hk k hk9).1) hL
  have d2 := dj7_push hdj hown.1 (nd := nd) (ad := na) (cp := nc) (fun j k hj hk9 e => (hk k e).2 (xits_kb hits hj hk9).1)
  have i3 := xits_kp i2 hkp (fun B' z n v ys j hv hj _ e => own_ne hv hj hown e (by decide) rfl)
  have hl : (X ++ [nd]).length = X.length + 1 := by simp
  refine ⟨(xr_cells r9).2, xr_frozen r9 1, ⟨h0, ta, tc, some ⟨gg, 0, none⟩, cap', ?_, tx_go (tx_go h2 b9) bs, ?_, fun k hk9 => by have h9 : gg = k := (by simpa [Value.ownBlock] using hk9); omega⟩, b9.trans bs⟩
  · rw [hl]; exact xr_o r9 _ _ _
  · refine xo_r r9 ⟨_, ?_, i3, ?_⟩ ks
    · rw [hl]; exact hown9
    · rw [hl]; exact d2
theorem ra_fin {nk : Int} {nt : Bool} {L : List (Int × Int)} {a b mn mx : Int} {na : Option Addr} {nc nL m : Nat} {gg cap' : Nat} {w9 : World} {o : Obj} {ta ad : Option Addr} {tc c : Nat} {xs : List Value} (hm : X.length = m) (hnL : L.length = nL) (h0 : B ≤ R) (h1 : XR w R ta u.length tc ad X.length c) (h2 : Tx B w ta tc u) (hown : w.ownsRow B 69 7 (.slice ad m c) m xs) (hits : XItsZ 500 S w xs X) (hdj : Dj7 xs X.length) (hL : L.length ≤ 500) (hS : ∀ j, S j → B ≤ j)
    (ho : w.ownsRow 0 103 2 (.slice na nL nc) nL (prV L)) (hk : ∀ k, (Value.slice na L.length nc).ownBlock = some k → B ≤ k ∧ ¬ S k)
    (hown9 : w9.ownsRow B 69 7 (.slice (some ⟨gg, 0, none⟩) (m + 1) cap') (m + 1) (xs ++ [.int .i64 nk, .bool nt, .slice na nL nc, .int .i64 a, .int .i64 b, .int .i64 mn, .int .i64 mx])) (hg : (w.alloc o).grownBy w9 (Value.slice ad m c).ownBlock) (hat : (Value.slice ad m c).ownBlock = some gg ∨ gg = w.heap.size + 1) :
    w9.cell? ⟨R, 1, none⟩ = some (.slice ad m c) ∧ w9.frozen? ⟨R, 1, none⟩ = false ∧ RD (fun j => B ≤ j) B R (w9.setCell ⟨R, 1, none⟩ (.slice (some ⟨gg, 0, none⟩) (m + 1) cap')) u (X ++ [⟨nk, nt, L, a, b, mn, mx⟩]) ∧ Below B w (w9.setCell ⟨R, 1, none⟩ (.slice (some ⟨gg, 0, none⟩) (m + 1) cap')) := by
  subst hm; subst hnL
  refine rd_push (nd := ⟨nk, nt, L, a, b, mn, mx⟩) h0 h1 h2 hown hits hdj hL hS ho hk hown9 hg ?_
  have := xr_lt h1
  rcases hat with e | e
  · exact (hown.lt gg e).1
  · omega
end
set_option maxRecDepth 100000 in
set_option maxHeartbeats 8000000 in
theorem i_add {S : Nat → Prop} (B R : Nat) (u : List Int) (X : List Nd) (nd : Nd) (na : Option Addr) (nc : Nat) (w : World) (hX : X.length ≤ 5000) (hL : nd.L.length ≤ 500) (h : RD S B R w u X) (hS : ∀ j, S j → B ≤ j) (ho : w.ownsRow 0 103 2 (.slice na nd.L.length nc) nd.L.length (prV nd.L)) (hk : ∀ k, (Value.slice na nd.L.length nc).ownBlock = some k → B ≤ k ∧ ¬ S k) :
    Calls Tryz.prog 94 #[.pointer (some ⟨R, 0, none⟩), .agg #[.int .i64 nd.k, .bool nd.nt, .slice na nd.L.length nc, .int .i64 nd.a, .int .i64 nd.b, .int .i64 nd.mn, .int .i64 nd.mx]] w fun e w' => e = .returned (.tuple #[]) ∧ RD (fun j => B ≤ j) B R w' u (X ++ [nd]) ∧ Below B w w' := by
  obtain ⟨i0, hi0, hz0, hz1, hz2⟩ := info_parts infoND
  obtain ⟨nk, nt, L, a, b, mn, mx⟩ := nd
  obtain ⟨nL, hnL⟩ : ∃ nL, L.length = nL := ⟨_, rfl⟩
  have hbB := rdx_lt h
  have bA : Below B w (w.alloc (.cells #[.int .i64 nk, .bool nt, .slice na L.length nc, .int .i64 a, .int .i64 b, .int .i64 mn, .int .i64 mx] 69)) := (Below.refl B w).alloc hbB _
  obtain ⟨h0, ta, tc, ad, c, h1, h2, h3⟩ := rd_blA h ((Below.refl w.heap.size w).alloc (Nat.le_refl _) (.cells #[.int .i64 nk, .bool nt, .slice na L.length nc, .int .i64 a, .int .i64 b, .int .i64 mn, .int .i64 mx] 69))
  have o1 := own_kp ho (kp_alloc (S := fun _ => False) w (.cells #[.int .i64 nk, .bool nt, .slice na L.length nc, .int .i64 a, .int .i64 b, .int .i64 mn, .int .i64 mx] 69)) (fun _ _ x => x)
  have hG := heap_alloc_new w (.cells #[.int .i64 nk, .bool nt, .slice na L.length nc, .int .i64 a, .int .i64 b, .int .i64 mn, .int .i64 mx] 69)
  have hsz : w.heap.size < (w.alloc (.cells #[.int .i64 nk, .bool nt, .slice na L.length nc, .int .i64 a, .int .i64 b, .int .i64 mn, .int .i64 mx] 69)).heap.size := by simp
  simp only [hnL] at hG h1 h2 h3 o1 hsz bA
  obtain ⟨G, hGw⟩ : ∃ G, w.heap.size = G := ⟨_, rfl⟩
  go_enter Tryz.func94, Tryz.ntmps94
  simp only [hnL]
  go_wp2_with fail
  obtain ⟨W, hW⟩ : ∃ W, w.alloc (.cells #[.int .i64 nk, .bool nt, .slice na nL nc, .int .i64 a, .int .i64 b, .int .i64 mn, .int .i64 mx] 69) = W := ⟨_, rfl⟩
  rw [hGw] at hG hsz
  rw [hW] at hG h1 h2 h3 o1 hsz bA
  rw [hW]
  clear hW
  obtain ⟨xs, hown, hits, hdj⟩ := h3.1
  have hBW : B ≤ W.heap.size := by omega
  have hRW := xr_lt h1
  have cG : ∀ i, W.drew.cell? ⟨G, i, none⟩ = (#[.int .i64 nk, .bool nt, .slice na nL nc, .int .i64 a, .int .i64 b, .int .i64 mn, .int .i64 mx] : Array Value)[i]? := fun i => by rw [cell_of_row W.drew G i _ _ (0, 0) hG]
  have g0 : W.drew.cell? ⟨G, 0, none⟩ = some (.int .i64 nk) := cG 0
  have g1 : W.drew.cell? ⟨G, 1, none⟩ = some (.bool nt) := cG 1
  have g2 : W.drew.cell? ⟨G, 2, none⟩ = some (.slice na nL nc) := cG 2
  have g3 : W.drew.cell? ⟨G, 3, none⟩ = some (.int .i64 a) := cG 3
  have g4 : W.drew.cell? ⟨G, 4, none⟩ = some (.int .i64 b) := cG 4
  have g5 : W.drew.cell? ⟨G, 5, none⟩ = some (.int .i64 mn) := cG 5
  have g6 : W.drew.cell? ⟨G, 6, none⟩ = some (.int .i64 mx) := cG 6
  have r1 : W.drew.cell? ⟨R, 1, none⟩ = some (.slice ad X.length c) := (xr_cells (w := W.drew) h1).2
  have r1a : ∀ o, (W.alloc o).cell? ⟨R, 1, none⟩ = some (.slice ad X.length c) := fun o => (xr_cells (w := W.alloc o) ((kp_alloc (S := fun _ => False) W o).block R hRW (fun x => x) |>.trans h1)).2
  have r1b : ∀ o, (W.alloc o).drew.cell? ⟨R, 1, none⟩ = some (.slice ad X.length c) := fun o => r1a o
  have H1 := hide h1
  have H2 := hide h2
  have HOW := hide hown
  have HIT := hide hits
  have HDJ := hide hdj
  have HS := hide hS
  have HK := hide hk
  have HO := hide o1
  have HA := hide bA
  obtain ⟨m, hm⟩ : ∃ m, X.length = m := ⟨_, rfl⟩
  have HM := hide hm
  rw [hm] at r1 r1a r1b hX HOW
  clear cG h1 h2 hown hits hdj hS hk o1 bA h ho hG hm hGw hbB
  go_region_law (first
    | (refine step_append_lies _ (by rfl) _ _ _ (by rfl) B 69 i0 _ 7 72 Tryz.underlying24 hi0 hz0 hz1 hz2 rfl (by omega) (.slice ad m c) m xs (by rfl) (HOW.out.alloc _).drew ⟨W.heap.size, 0, none⟩ 1 1 [.int .i64 nk, .bool nt, .slice na nL nc, .int .i64 a, .int .i64 b, .int .i64 mn, .int .i64 mx] (by rfl) (by rfl) (World.news_of_block (cs := #[.int .i64 nk, .bool nt, .slice na nL nc, .int .i64 a, .int .i64 b, .int .i64 mn, .int .i64 mx]) (t := 69) (fr := (0, 0)) (heap_alloc_new W _)) (by simp [Value.oneCell']) (by omega) (by unfold maxLen; omega) (by omega) (by simp; omega) (W.heap.size + 1) (by simp) ?_; intro gg cap' w9 hown9 hgrow9 hat9 hlt9; have hgr9 := grown_undrewR hgrow9; obtain ⟨hc9, hf9, h9, hb9⟩ := ra_fin HM.out hnL h0 H1.out H2.out HOW.out HIT.out HDJ.out hL HS.out HO.out HK.out hown9 hgr9 hat9; have H9 := hide h9; have HB9 := hide (HA.out.trans hb9); clear hown9 hgrow9 hgr9 hat9 h9 hb9)
    | (fail))
  all_goals
    go_wp2
    go_end0
    exact ⟨rfl, H9.out, HB9.out⟩
end Go.Proofs.YtepommmmmfaihaaGreatDoor
