/-
  Texts put together: RrA, Shelf.
-/
import Derived.Test.YtibagghpimadfaaDoorK7
import Derived.WalkLawsBesides
import Derived.Deep.RegionWith
import Derived.Shelf.Unicode.ValidAny
import Derived.Shelf.Small.Utf8
import Derived.Shelf.Strconv.Itoa4
import Derived.Shelf.Strings.Search1
import Derived.Shelf.Strings.Runes
import Derived.Test.YtibagghpimadfaaDoorProg
/-
  Contracts of the program's reader of expressions: its cells, one look at a sign, what must stand there, the next character.
-/
namespace Go.Proofs.YtibagghpimadfaaDoor
open Go.RowKit Go.Joins
set_option linter.unusedVariables false
set_option linter.unusedSimpArgs false
/-- The reader's cells. -/
def XR (w : World) (R : Nat) (ta : Option Addr) (n tc : Nat) (ad : Option Addr) (m c : Nat) : Prop := w.heap[R]? = some (.cells #[.slice ta n tc, .slice ad m c] 75 (0, 0))
/-- The characters that are left, in memory below B. -/
def Tx (B : Nat) (w : World) (ta : Option Addr) (tc : Nat) (u : List Int) : Prop := u.length ≤ tc ∧ tc ≤ maxLen ∧ (0 < u.length → ∃ b off, ta = some ⟨b, off, none⟩ ∧ b < B ∧ ∀ j c, u[j]? = some c → w.cell? ⟨b, off + j, none⟩ = some (.int .i64 c)) ∧ ∀ c ∈ u, chB c = true
def RD (S : Nat → Prop) (B R : Nat) (w : World) (u : List Int) (X : List Nd) : Prop := B ≤ R ∧ ∃ ta tc ad c, XR w R ta u.length tc ad X.length c ∧ Tx B w ta tc u ∧ XOZ 500 B S w ad c X ∧ ∀ k, (Value.slice ad X.length c).ownBlock = some k → S k
section
variable {w w' : World} {B R n tc m c : Nat} {ta ad : Option Addr} {u : List Int} {X : List Nd}
theorem xr_cells (h : XR w R ta n tc ad m c) : w.cell? ⟨R, 0, none⟩ = some (.slice ta n tc) ∧ w.cell? ⟨R, 1, none⟩ = some (.slice ad m c) := by
  have e : ∀ i, w.cell? ⟨R, i, none⟩ = (#[.slice ta n tc, .slice ad m c] : Array Value)[i]? := fun i => by rw [cell_of_row w R i _ _ (0, 0) h]
  exact ⟨e 0, e 1⟩
theorem xr_frozen (h : XR w R ta n tc ad m c) (i : Nat) : w.frozen? ⟨R, i, none⟩ = false := frozen_of_row w R i _ _ h
theorem xr_lt (h : XR w R ta n tc ad m c) : R < w.heap.size := (Array.getElem?_eq_some_iff.1 h).1
theorem xr_t (h : XR w R ta n tc ad m c) (ta' : Option Addr) (n' tc' : Nat) : XR (w.setCell ⟨R, 0, none⟩ (.slice ta' n' tc')) R ta' n' tc' ad m c := heap_setCell_same w R 0 _ _ (.slice ta' n' tc') h
theorem xr_o (h : XR w R ta n tc ad m c) (ad' : Option Addr) (m' c' : Nat) : XR (w.setCell ⟨R, 1, none⟩ (.slice ad' m' c')) R ta n tc ad' m' c' := heap_setCell_same w R 1 _ _ (.slice ad' m' c') h
theorem tx_go (h : Tx B w ta tc u) (k : Below B w w') : Tx B w' ta tc u := by
  obtain ⟨h1, h2, h3, h4⟩ := h
  refine ⟨h1, h2, fun h0 => ?_, h4⟩
  obtain ⟨b, off, rfl, hb, hc⟩ := h3 h0
  exact ⟨b, off, rfl, hb, fun j c hj => by
    have := hc j c hj
    simp only [World.cell?] at this ⊢
    rw [k.block b hb]
    exact this⟩
theorem kp_r (w : World) (R : Nat) (i : Nat) (v : Value) : Kp (fun j => j = R) w (w.setCell ⟨R, i, none⟩ v) := kp_set (S := fun j => j = R) _ _ _ rfl
theorem kp_rB {S : Nat → Prop} (h : Kp S w w') (hB : B ≤ w.heap.size) (hS : ∀ j, S j → B ≤ j) : Below B w w' := kp_below h hB hS
/-- The rows of nodes stay where the reader alone is written. -/
theorem xo_r (hx : XR w R ta n tc ad m c) {ad' : Option Addr} {c' : Nat} {Z : Nat} {S : Nat → Prop} (h : XOZ Z B S w ad' c' X) (k : Kp (fun j => j = R) w w') : XOZ Z B S w' ad' c' X := by
  obtain ⟨xs, h1, h2, h3⟩ := h
  refine ⟨xs, own_kp h1 k (fun j hj => type_ne h1 hj hx (by decide)), xits_kp h2 k (fun B' z n v ys j hv hj _ => type_ne hv hj hx (by decide)), h3⟩
end
section
variable {S : Nat → Prop} {w w' : World} {B R : Nat} {u : List Int} {X : List Nd}
theorem rdx_lt (h : RD S B R w u X) : B ≤ w.heap.size := by
  obtain ⟨h0, ta, tc, ad, c, h1, -⟩ := h
  have := xr_lt h1
  omega
theorem rd_ch (h : RD S B R w u X) : ∀ c ∈ u, chB c = true := by
  obtain ⟨h0, ta, tc, ad, c, h1, h2, h3⟩ := h
  exact h2.2.2.2
theorem rd_kpB (h : RD S B R w u X) (k : Kp (fun j => j = R) w w') : Below B w w' := kp_below k (rdx_lt h) (fun j hj => by have := h.1; have hj' : j = R := hj; omega)
/-- The next character. -/
theorem rd_cons {c : Int} {r : List Int} (h : RD S B R w (c :: r) X) : ∃ b off tc ad cp, w.cell? ⟨R, 0, none⟩ = some (.slice (some ⟨b, off, none⟩) (r.length + 1) tc) ∧ w.frozen? ⟨R, 0, none⟩ = false ∧ w.cell? ⟨R, 1, none⟩ = some (.slice ad X.length cp) ∧ w.cell? ⟨b, off, none⟩ = some (.int .i64 c) ∧ r.length + 1 ≤ tc ∧ tc ≤ maxLen ∧
    Hid (∀ (W : World) (o' : Nat), (r.length = 0 ∨ o' = off + 1) → W = w.setCell ⟨R, 0, none⟩ (.slice (some ⟨b, o', none⟩) r.length (tc - 1)) → RD S B R W r X ∧ Kp (fun j => j = R) w W) := by
  obtain ⟨h0, ta, tc, ad, cp, h1, ⟨h2, h3, h4, h5⟩, h6⟩ := h
  obtain ⟨b, off, rfl, hb, hc⟩ := h4 (by simp)
  refine ⟨b, off, tc, ad, cp, (xr_cells h1).1, xr_frozen h1 0, (xr_cells h1).2, hc 0 c rfl, h2, h3, hide fun W o' ho hW => ?_⟩
  subst hW
  have hk := kp_r w R 0 (.slice (some ⟨b, o', none⟩) r.length (tc - 1))
  refine ⟨⟨h0, _, _, ad, cp, xr_t h1 _ _ _, tx_go ⟨?_, by omega, fun h9 => ⟨b, o', rfl, hb, fun j d hj => ?_⟩, fun d hd => h5 d (by simp [hd])⟩ (kp_below hk (by have := xr_lt h1; omega) (fun j hj => by have hj' : j = R := hj; omega)), xo_r h1 h6.1 hk, h6.2⟩, hk⟩
  · simp at h2; omega
  · rw [show o' + j = off + (j + 1) by omega]
    exact hc (j + 1) d (by simpa using hj)
theorem rd_nil (h : RD S B R w [] X) : ∃ ta tc, w.cell? ⟨R, 0, none⟩ = some (.slice ta 0 tc) := by
  obtain ⟨h0, ta, tc, ad, cp, h1, -⟩ := h
  exact ⟨ta, tc, (xr_cells h1).1⟩
theorem rd_row (h : RD S B R w u X) : ∃ ta tc ad cp, w.cell? ⟨R, 0, none⟩ = some (.slice ta u.length tc) ∧ w.cell? ⟨R, 1, none⟩ = some (.slice ad X.length cp) := by
  obtain ⟨h0, ta, tc, ad, cp, h1, -⟩ := h
  exact ⟨ta, tc, ad, cp, xr_cells h1⟩
end
/-- What stands as it must. -/
theorem i_wantY (p : Value) (w : World) : Calls Tryd.prog 41 #[p, .bool true] w fun e w' => e = .returned (.tuple #[]) ∧ w' = w := by
  go_enter Tryd.func41, Tryd.ntmps41
  go_wp2
  go_end0
  exact ⟨rfl, rfl⟩
/-- It gives up. -/
def GivB (B : Nat) (w : World) (e : Ending) (w' : World) : Prop := (∃ t v, e = .panicked [{ v := .iface t v, recovered := false }]) ∧ Below B w w'
theorem i_wantN (B : Nat) (p : Value) (w : World) : Calls Tryd.prog 41 #[p, .bool false] w (GivB B w) := by
  go_enter Tryd.func41, Tryd.ntmps41
  go_wp2
  exact ⟨rfl, ⟨_, _, rfl⟩, Below.refl _ _⟩
set_option maxHeartbeats 2000000 in
theorem i_at {S : Nat → Prop} (B R : Nat) (u : List Int) (X : List Nd) (s : Int) (w : World) (h : RD S B R w u X) : Calls Tryd.prog 80 #[.pointer (some ⟨R, 0, none⟩), .int .i64 s] w fun e w' => e = .returned (.bool (decide (u.head? = some s))) ∧ w' = w := by
  cases u with
  | nil =>
    obtain ⟨ta, tc, c0⟩ := rd_nil h
    clear h
    go_enter Tryd.func80, Tryd.ntmps80
    go_wp2
    go_ret
    exact ⟨rfl, rfl⟩
  | cons c r =>
    obtain ⟨b, off, tc, ad, cp, c0, f0, c1, c2, h1, h2, HT⟩ := rd_cons h
    have h3 : (0 : Int) < (r.length : Int) + 1 := by omega
    have h4 : (0 : Int) < ((r.length + 1 : Nat) : Int) := by omega
    clear h HT
    have hd : (c == s) = decide ((c :: r).head? = some s) := by
      by_cases e : c = s
      · simp [e]
      · simp [e]
    go_enter Tryd.func80, Tryd.ntmps80
    go_wp2
    go_ret
    rw [← hd]
    exact ⟨rfl, rfl⟩
set_option maxHeartbeats 2000000 in
theorem i_takesY {S : Nat → Prop} (B R : Nat) (s : Int) (r : List Int) (X : List Nd) (w : World) (h : RD S B R w (s :: r) X) : Calls Tryd.prog 64 #[.pointer (some ⟨R, 0, none⟩), .int .i64 s] w fun e w' => e = .returned (.bool true) ∧ RD S B R w' r X ∧ Kp (fun j => j = R) w w' := by
  have HA := hide (i_at B R (s :: r) X s w h)
  have hd : decide ((s :: r).head? = some s) = true := by simp
  rw [hd] at HA
  obtain ⟨b, off, tc, ad, cp, c0, f0, c1, c2, h1, h2, HT⟩ := rd_cons h
  have h3 : (1 : Int) ≤ (r.length : Int) + 1 := by omega
  have h4 : (1 : Int) ≤ ((r.length + 1 : Nat) : Int) := by omega
  have h5 : ((r.length + 1 : Nat) : Int) ≤ (tc : Int) := by omega
  clear h hd
  go_enter Tryd.func64, Tryd.ntmps64
  go_wp2_with (first | (go_at_call 80; refine HA.out.mono ?_; rintro e w9 ⟨rfl, h9⟩; rw [h9]; clear h9 w9))
  · have h9 : tc = 1 := by assumption
    have h10 : r.length = 0 := by omega
    go_ret
    exact ⟨rfl, HT.out _ off (.inl h10) (by rw [h9])⟩
  · go_ret
    exact ⟨rfl, HT.out _ _ (.inr rfl) rfl⟩
theorem i_takesN {S : Nat → Prop} (B R : Nat) (s : Int) (u : List Int) (X : List Nd) (w : World) (h : RD S B R w u X) (hu : u.head? ≠ some s) : Calls Tryd.prog 64 #[.pointer (some ⟨R, 0, none⟩), .int .i64 s] w fun e w' => e = .returned (.bool false) ∧ w' = w := by
  have HA := hide (i_at B R u X s w h)
  have hd : decide (u.head? = some s) = false := decide_eq_false hu
  rw [hd] at HA
  clear h hu
  go_enter Tryd.func64, Tryd.ntmps64
  go_wp2_with (first | (go_at_call 80; refine HA.out.mono ?_; rintro e w9 ⟨rfl, h9⟩; rw [h9]; clear h9 w9))
  go_ret
  exact ⟨rfl, rfl⟩
set_option maxHeartbeats 2000000 in
theorem i_nextC {S : Nat → Prop} (B R : Nat) (s : Int) (r : List Int) (X : List Nd) (w : World) (h : RD S B R w (s :: r) X) : Calls Tryd.prog 98 #[.pointer (some ⟨R, 0, none⟩)] w fun e w' => e = .returned (.int .i64 s) ∧ RD S B R w' r X ∧ Kp (fun j => j = R) w w' := by
  obtain ⟨b, off, tc, ad, cp, c0, f0, c1, c2, h1, h2, HT⟩ := rd_cons h
  have h3 : (1 : Int) ≤ (r.length : Int) + 1 := by omega
  have h4 : (1 : Int) ≤ ((r.length + 1 : Nat) : Int) := by omega
  have h5 : ((r.length + 1 : Nat) : Int) ≤ (tc : Int) := by omega
  have h6 : (0 : Int) < (r.length : Int) + 1 := by omega
  have h7 : (0 : Int) < ((r.length + 1 : Nat) : Int) := by omega
  clear h
  go_enter Tryd.func98, Tryd.ntmps98
  go_wp2_with (first | (go_at_call 41; refine (i_wantY _ _).mono ?_; rintro e w9 ⟨rfl, h9⟩; rw [h9]; clear h9 w9))
  · have h9 : tc = 1 := by assumption
    have h10 : r.length = 0 := by omega
    go_ret
    exact ⟨rfl, HT.out _ off (.inl h10) (by rw [h9])⟩
  · go_ret
    exact ⟨rfl, HT.out _ _ (.inr rfl) rfl⟩
theorem i_nextN {S : Nat → Prop} (B R : Nat) (X : List Nd) (w : World) (h : RD S B R w [] X) : Calls Tryd.prog 98 #[.pointer (some ⟨R, 0, none⟩)] w (GivB B w) := by
  obtain ⟨ta, tc, c0⟩ := rd_nil h
  clear h
  go_enter Tryd.func98, Tryd.ntmps98
  go_wp2_with fail
  refine (i_wantN B _ _).mono ?_
  rintro e w2 ⟨⟨tv, v, rfl⟩, k2⟩
  have K2 := hide k2
  clear k2
  go_wp2
  exact ⟨rfl, ⟨_, _, rfl⟩, K2.out⟩
set_option maxHeartbeats 2000000 in
theorem i_mustY {S : Nat → Prop} (B R : Nat) (s : Int) (r : List Int) (X : List Nd) (w : World) (h : RD S B R w (s :: r) X) : Calls Tryd.prog 99 #[.pointer (some ⟨R, 0, none⟩), .int .i64 s] w fun e w' => e = .returned (.tuple #[]) ∧ RD S B R w' r X ∧ Kp (fun j => j = R) w w' := by
  have HA := hide (i_takesY B R s r X w h)
  clear h
  go_enter Tryd.func99, Tryd.ntmps99
  go_wp2_with fail
  refine HA.out.mono ?_
  rintro e w1 ⟨rfl, h1, k1⟩
  have H1 := hide h1
  have K1 := hide k1
  clear h1 k1 HA
  go_wp2_with (first | (go_at_call 41; refine (i_wantY _ _).mono ?_; rintro e w9 ⟨rfl, h9⟩; rw [h9]; clear h9 w9))
  go_end0
  exact ⟨rfl, H1.out, K1.out⟩
theorem i_mustN {S : Nat → Prop} (B R : Nat) (s : Int) (u : List Int) (X : List Nd) (w : World) (h : RD S B R w u X) (hu : u.head? ≠ some s) : Calls Tryd.prog 99 #[.pointer (some ⟨R, 0, none⟩), .int .i64 s] w (GivB B w) := by
  have HA := hide (i_takesN B R s u X w h hu)
  clear h hu
  go_enter Tryd.func99, Tryd.ntmps99
  go_wp2_with fail
  refine HA.out.mono ?_
  rintro e w9 ⟨rfl, h9⟩
  rw [h9]
  clear h9 w9
  go_wp2_with fail
  refine (i_wantN B _ _).mono ?_
  rintro e w2 ⟨⟨tv, v, rfl⟩, k2⟩
  have K2 := hide k2
  clear k2
  go_wp2
  exact ⟨rfl, ⟨_, _, rfl⟩, K2.out⟩
theorem i_last {S : Nat → Prop} (B R : Nat) (u : List Int) (X : List Nd) (w : World) (hX : X.length ≤ 5000) (h : RD S B R w u X) : Calls Tryd.prog 63 #[.pointer (some ⟨R, 0, none⟩)] w fun e w' => e = .returned (.int .i64 ((X.length : Int) - 1)) ∧ w' = w := by
  obtain ⟨ta, tc, ad, cp, c0, c1⟩ := rd_row h
  clear h
  have hw : IntKind.i64.wrap ((X.length : Int) - 1) = (X.length : Int) - 1 := by rw [IntKind.wrap_i64]; omega
  go_enter Tryd.func63, Tryd.ntmps63
  go_wp2
  go_ret
  exact ⟨rfl, rfl⟩
set_option maxHeartbeats 2000000 in
theorem i_rowEnd {S : Nat → Prop} (B R : Nat) (u : List Int) (X : List Nd) (w : World) (h : RD S B R w u X) : Calls Tryd.prog 78 #[.pointer (some ⟨R, 0, none⟩)] w fun e w' => e = .returned (.bool (rwE u)) ∧ w' = w := by
  have HA := hide (fun s => i_at B R u X s w h)
  cases u with
  | nil =>
    obtain ⟨ta, tc, c0⟩ := rd_nil h
    clear h
    go_enter Tryd.func78, Tryd.ntmps78
    go_wp2
    go_ret
    exact ⟨rfl, rfl⟩
  | cons c r =>
    obtain ⟨b, off, tc, ad, cp, c0, f0, c1, c2, h1, h2, HT⟩ := rd_cons h
    have h3 : (((r.length + 1 : Nat) : Int) == 0) = false := by simp only [beq_eq_false_iff_ne, ne_eq]; omega
    have h4 : ((r.length : Int) + 1 == 0) = false := by simp only [beq_eq_false_iff_ne, ne_eq]; omega
    clear h HT c2 f0
    have A1 := hide (HA.out 124)
    have A2 := hide (HA.out 41)
    clear HA
    by_cases e1 : c = 124
    · have hd : decide ((c :: r).head? = some 124) = true := by simp [e1]
      have hr : rwE (c :: r) = true := by simp [rwE, e1]
      rw [hd] at A1
      rw [hr]
      clear hd hr e1
      go_enter Tryd.func78, Tryd.ntmps78
      go_wp2_with (first | (go_at_call 80; first | (refine A1.out.mono ?_; rintro e w9 ⟨rfl, h9⟩; rw [h9]; clear h9 w9)))
      go_ret
      exact ⟨rfl, rfl⟩
    · have hd : decide ((c :: r).head? = some 124) = false := by simp [e1]
      rw [hd] at A1
      have hr : rwE (c :: r) = decide ((c :: r).head? = some 41) := by simp [rwE, e1]
      rw [← hr] at A2
      obtain ⟨q, hq⟩ : ∃ q, rwE (c :: r) = q := ⟨_, rfl⟩
      rw [hq] at A2 ⊢
      clear hd hr hq e1
      go_enter Tryd.func78, Tryd.ntmps78
      go_wp2_with (first | (go_at_call_of 80 (Value.int .i64 124); (refine A1.out.mono ?_; rintro e w9 ⟨rfl, h9⟩; rw [h9]; clear h9 w9)) | (go_at_call_of 80 (Value.int .i64 41); (refine A2.out.mono ?_; rintro e w9 ⟨rfl, h9⟩; rw [h9]; clear h9 w9)))
      all_goals
        go_ret
        first | exact ⟨rfl, rfl⟩ | (cases q <;> exact ⟨rfl, rfl⟩)
end Go.Proofs.YtibagghpimadfaaDoor

/-
  Contracts of Go's own library at this program, laid by the shelf's plain mode: each is one application of a theorem of the library.
-/
namespace Go.Proofs
open Go.Shelf
def Tryd.lays119_ren : Go.Shelf.Ren := ⟨fun | 119 => 116 | n => n, fun | 21 => 21 | 4 => 4 | n => n, fun | n => n⟩
theorem Tryd.lays119 : Go.Proofs.Lays.n119 Tryd.prog Tryd.lays119_ren := {
  mixed := by kernel_rfl
  f119 := Tryd.func116.trans (congrArg some (by kernel_rfl))
  t4 := Tryd.underlying4
  a4 := Tryd.isAgg4
  z4 := Tryd.sizeOf4
  v4 := Tryd.zeroValue4
  t21 := Tryd.underlying21
  a21 := Tryd.isAgg21
  z21 := Tryd.sizeOf21
  v21 := Tryd.zeroValue21 }
/-- utf8.ValidRune: "ValidRune reports whether r can be legally encoded as UTF-8. Code points that are out of range or a surrogate half are illegal.": IT RETURNS 'Lib.validRune r'; the world is as it was. (LAID: no walk: one application.) -/
theorem Tryd.utf8_ValidRune (r : Int) (w : World) :
    Calls Tryd.prog 116 #[.int .i32 r] w fun e w' => e = .returned (.bool (Lib.validRune r)) ∧ w' = w := Any.utf8_ValidRune Tryd.lays119 r w
def Tryd.lays137_ren : Go.Shelf.Ren := ⟨fun | 137 => 115 | 217 => 121 | 266 => 122 | n => n, fun | 9 => 9 | 5 => 5 | 3 => 3 | n => n, fun | n => n⟩
theorem Tryd.lays137 : Go.Proofs.Lays.n137 Tryd.prog Tryd.lays137_ren := {
  mixed := by kernel_rfl
  f137 := Tryd.func115.trans (congrArg some (by kernel_rfl))
  f217 := Tryd.func121.trans (congrArg some (by kernel_rfl))
  f266 := Tryd.func122.trans (congrArg some (by kernel_rfl))
  t3 := Tryd.underlying3
  a3 := Tryd.isAgg3
  z3 := Tryd.sizeOf3
  v3 := Tryd.zeroValue3
  t5 := Tryd.underlying5
  a5 := Tryd.isAgg5
  z5 := Tryd.sizeOf5
  v5 := Tryd.zeroValue5
  t9 := Tryd.underlying9
  a9 := Tryd.isAgg9
  z9 := Tryd.sizeOf9
  v9 := Tryd.zeroValue9 }
open Go.RowKit in
/-- strings.IndexByte: "IndexByte returns the index of the first instance of c in s, or -1 if c is not present in s.": IT RETURNS 'Lib.indexByte s c'; the world is as it was. (LAID: no walk: one application.) -/
theorem Tryd.strings_IndexByte (s : ByteArray) (c : Int) (w : World) :
    Calls Tryd.prog 115 #[.string s, .int .u8 c] w fun e w' => e = .returned (.int .i64 (Lib.indexByte s.data.toList c.toNat.toUInt8)) ∧ w' = w := Any.strings_IndexByte Tryd.lays137 s c w
def Tryd.laysM173_ren : Go.Shelf.Ren := ⟨fun | 173 => 71 | 246 => 85 | 283 => 94 | 284 => 95 | 285 => 96 | 286 => 97 | 129 => 107 | 317 => 106 | 318 => 108 | 319 => 109 | 320 => 110 | 337 => 119 | 338 => 120 | n => n, fun | 2 => 2 | 3 => 3 | 9 => 9 | 4 => 4 | 171 => 116 | 0 => 0 | 53 => 102 | 37 => 22 | 5 => 5 | 173 => 119 | 212 => 125 | 51 => 126 | 20 => 20 | 213 => 127 | 46 => 90 | 232 => 134 | 233 => 135 | n => n, fun | 17 => 2 | 18 => 4 | 19 => 5 | n => n⟩
theorem Tryd.laysM173 : Go.Proofs.LaysM.n173 Tryd.prog Tryd.laysM173_ren := {
  mixed := by kernel_rfl
  f129 := Tryd.func107.trans (congrArg some (by kernel_rfl))
  f173 := Tryd.func71.trans (congrArg some (by kernel_rfl))
  f246 := Tryd.func85.trans (congrArg some (by kernel_rfl))
  f283 := Tryd.func94.trans (congrArg some (by kernel_rfl))
  f284 := Tryd.func95.trans (congrArg some (by kernel_rfl))
  f285 := Tryd.func96.trans (congrArg some (by kernel_rfl))
  f286 := Tryd.func97.trans (congrArg some (by kernel_rfl))
  f317 := Tryd.func106.trans (congrArg some (by kernel_rfl))
  f318 := Tryd.func108.trans (congrArg some (by kernel_rfl))
  f319 := Tryd.func109.trans (congrArg some (by kernel_rfl))
  f320 := Tryd.func110.trans (congrArg some (by kernel_rfl))
  f337 := Tryd.func119.trans (congrArg some (by kernel_rfl))
  f338 := Tryd.func120.trans (congrArg some (by kernel_rfl))
  t0 := Tryd.underlying0
  a0 := Tryd.isAgg0
  z0 := Tryd.sizeOf0
  v0 := Tryd.zeroValue0
  t2 := Tryd.underlying2
  a2 := Tryd.isAgg2
  z2 := Tryd.sizeOf2
  v2 := Tryd.zeroValue2
  t3 := Tryd.underlying3
  a3 := Tryd.isAgg3
  z3 := Tryd.sizeOf3
  v3 := Tryd.zeroValue3
  t4 := Tryd.underlying4
  a4 := Tryd.isAgg4
  z4 := Tryd.sizeOf4
  v4 := Tryd.zeroValue4
  t5 := Tryd.underlying5
  a5 := Tryd.isAgg5
  z5 := Tryd.sizeOf5
  v5 := Tryd.zeroValue5
  t9 := Tryd.underlying9
  a9 := Tryd.isAgg9
  z9 := Tryd.sizeOf9
  v9 := Tryd.zeroValue9
  t20 := Tryd.underlying20
  a20 := Tryd.isAgg20
  z20 := Tryd.sizeOf20
  v20 := Tryd.zeroValue20
  t37 := Tryd.underlying22
  a37 := Tryd.isAgg22
  z37 := Tryd.sizeOf22
  v37 := Tryd.zeroValue22
  t46 := Tryd.underlying90
  a46 := Tryd.isAgg90
  z46 := Tryd.sizeOf90
  v46 := Tryd.zeroValue90
  t51 := Tryd.underlying126
  a51 := Tryd.isAgg126
  z51 := Tryd.sizeOf126
  v51 := Tryd.zeroValue126
  t53 := Tryd.underlying102
  a53 := Tryd.isAgg102
  z53 := Tryd.sizeOf102
  v53 := Tryd.zeroValue102
  t171 := Tryd.underlying116
  a171 := Tryd.isAgg116
  z171 := Tryd.sizeOf116
  v171 := Tryd.zeroValue116
  t173 := Tryd.underlying119
  a173 := Tryd.isAgg119
  z173 := Tryd.sizeOf119
  v173 := Tryd.zeroValue119
  t212 := Tryd.underlying125
  a212 := Tryd.isAgg125
  z212 := Tryd.sizeOf125
  v212 := Tryd.zeroValue125
  t213 := Tryd.underlying127
  a213 := Tryd.isAgg127
  z213 := Tryd.sizeOf127
  t232 := Tryd.underlying134
  a232 := Tryd.isAgg134
  z232 := Tryd.sizeOf134
  v232 := Tryd.zeroValue134
  t233 := Tryd.underlying135
  a233 := Tryd.isAgg135
  z233 := Tryd.sizeOf135
  v233 := Tryd.zeroValue135
  g17 := by kernel_rfl
  g18 := by kernel_rfl
  g19 := by kernel_rfl
  i0 := by kernel_rfl
  i2 := by kernel_rfl
  i3 := by kernel_rfl
  i4 := by kernel_rfl
  i5 := by kernel_rfl
  i9 := by kernel_rfl
  i20 := by kernel_rfl
  i37 := by kernel_rfl
  i46 := by kernel_rfl
  i51 := by kernel_rfl
  i53 := by kernel_rfl
  i171 := by kernel_rfl
  i173 := by kernel_rfl
  i212 := by kernel_rfl
  i232 := by kernel_rfl
  i233 := by kernel_rfl
  m17 := by kernel_rfl
  m18 := by kernel_rfl
  m19 := by kernel_rfl }
open Go.RowKit Go.Sort Go.Lib in
/-- strconv.FormatInt: "FormatInt returns the string representation of i in the given base": AT BASE 10: i's decimal numeral, for every int64. (LAID: no walk: one application.) -/
theorem Tryd.strconv_FormatInt_10 (n : Int) (h0 : -9223372036854775808 ≤ n) (h1 : n ≤ 9223372036854775807) (w : World) (htab : Lib.TabIs Tryd.prog w "internal/strconv.uint64pow10" .u64 Lib.pow10Tab) :
    Calls Tryd.prog 71 #[.int .i64 n, .int .i64 10] w fun e w' => e = .returned (.string ⟨(Lib.itoa n).toArray⟩) ∧ ∃ k os, w' = grow (w.drewN k) os := Any.strconv_FormatInt_10 Tryd.laysM173 n h0 h1 w htab
def Tryd.lays151_ren : Go.Shelf.Ren := ⟨fun | 151 => 93 | 152 => 105 | 137 => 115 | 119 => 116 | 224 => 117 | 225 => 118 | 217 => 121 | 266 => 122 | n => n, fun | 9 => 9 | 21 => 21 | 4 => 4 | 3 => 3 | 5 => 5 | 0 => 0 | 46 => 90 | n => n, fun | n => n⟩
theorem Tryd.lays151 : Go.Proofs.Lays.n151 Tryd.prog Tryd.lays151_ren := {
  mixed := by kernel_rfl
  f119 := Tryd.func116.trans (congrArg some (by kernel_rfl))
  f137 := Tryd.func115.trans (congrArg some (by kernel_rfl))
  f151 := Tryd.func93.trans (congrArg some (by kernel_rfl))
  f152 := Tryd.func105.trans (congrArg some (by kernel_rfl))
  f217 := Tryd.func121.trans (congrArg some (by kernel_rfl))
  f224 := Tryd.func117.trans (congrArg some (by kernel_rfl))
  f225 := Tryd.func118.trans (congrArg some (by kernel_rfl))
  f266 := Tryd.func122.trans (congrArg some (by kernel_rfl))
  t0 := Tryd.underlying0
  a0 := Tryd.isAgg0
  z0 := Tryd.sizeOf0
  v0 := Tryd.zeroValue0
  t3 := Tryd.underlying3
  a3 := Tryd.isAgg3
  z3 := Tryd.sizeOf3
  v3 := Tryd.zeroValue3
  t4 := Tryd.underlying4
  a4 := Tryd.isAgg4
  z4 := Tryd.sizeOf4
  v4 := Tryd.zeroValue4
  t5 := Tryd.underlying5
  a5 := Tryd.isAgg5
  z5 := Tryd.sizeOf5
  v5 := Tryd.zeroValue5
  t9 := Tryd.underlying9
  a9 := Tryd.isAgg9
  z9 := Tryd.sizeOf9
  v9 := Tryd.zeroValue9
  t21 := Tryd.underlying21
  a21 := Tryd.isAgg21
  z21 := Tryd.sizeOf21
  v21 := Tryd.zeroValue21
  t46 := Tryd.underlying90
  a46 := Tryd.isAgg90
  z46 := Tryd.sizeOf90
  v46 := Tryd.zeroValue90 }
open Go.RowKit Go.Lib in
theorem Tryd.strings_ContainsRune_ascii (s : ByteArray) (r : Int) (w : World) (h0 : 0 ≤ r) (h1 : r < 128) :
    Calls Tryd.prog 93 #[.string s, .int .i32 r] w fun e w' => e = .returned (.bool (decide (0 ≤ Lib.indexByte s.data.toList r.toNat.toUInt8))) ∧ w' = w := Any.strings_ContainsRune_ascii Tryd.lays151 s r w h0 h1
def Tryd.laysValid_ren : Go.Shelf.Ren := ⟨fun | 196 => 29 | 259 => 52 | n => n, fun | 9 => 9 | 4 => 4 | 3 => 3 | 5 => 5 | 12 => 12 | 119 => 86 | 0 => 0 | 46 => 90 | 139 => 89 | 138 => 88 | 53 => 102 | n => n, fun | 3 => 0 | 4 => 1 | n => n⟩
theorem Tryd.laysValid : Go.Proofs.Lays.n196 Tryd.prog Tryd.laysValid_ren := {
  mixed := by kernel_rfl
  f196 := Tryd.func29.trans (congrArg some (by kernel_rfl))
  f259 := Tryd.func52.trans (congrArg some (by kernel_rfl))
  t0 := Tryd.underlying0
  a0 := Tryd.isAgg0
  z0 := Tryd.sizeOf0
  v0 := Tryd.zeroValue0
  t3 := Tryd.underlying3
  a3 := Tryd.isAgg3
  z3 := Tryd.sizeOf3
  v3 := Tryd.zeroValue3
  t4 := Tryd.underlying4
  a4 := Tryd.isAgg4
  z4 := Tryd.sizeOf4
  v4 := Tryd.zeroValue4
  t5 := Tryd.underlying5
  a5 := Tryd.isAgg5
  z5 := Tryd.sizeOf5
  v5 := Tryd.zeroValue5
  t9 := Tryd.underlying9
  a9 := Tryd.isAgg9
  z9 := Tryd.sizeOf9
  v9 := Tryd.zeroValue9
  t12 := Tryd.underlying12
  a12 := Tryd.isAgg12
  z12 := Tryd.sizeOf12
  v12 := Tryd.zeroValue12
  t46 := Tryd.underlying90
  a46 := Tryd.isAgg90
  z46 := Tryd.sizeOf90
  v46 := Tryd.zeroValue90
  t53 := Tryd.underlying102
  a53 := Tryd.isAgg102
  z53 := Tryd.sizeOf102
  v53 := Tryd.zeroValue102
  t119 := Tryd.underlying86
  a119 := Tryd.isAgg86
  z119 := Tryd.sizeOf86
  t138 := Tryd.underlying88
  a138 := Tryd.isAgg88
  z138 := Tryd.sizeOf88
  v138 := Tryd.zeroValue88
  t139 := Tryd.underlying89
  a139 := Tryd.isAgg89
  z139 := Tryd.sizeOf89
  v139 := Tryd.zeroValue89
  g3 := by kernel_rfl
  g4 := by kernel_rfl }
end Go.Proofs
