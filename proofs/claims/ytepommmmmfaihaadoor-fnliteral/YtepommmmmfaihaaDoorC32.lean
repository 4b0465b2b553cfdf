/-
  Texts put together: RqZ, TeD, TeS.
-/
import Derived.Test.YtepommmmmfaihaaDoorC31
import Derived.Test.YtepommmmmfaihaaDoorC23
import Derived.Test.YtepommmmmfaihaaDoorC19
import Derived.WalkLawsBesides
import Derived.Deep.RegionWith
import Derived.Deep.RegionLaw
import Derived.Deep.DeepCutAuto
import Derived.Lib.QuoteLoop
import Derived.Lib.TrimUEq
import Derived.Test.YtepommmmmfaihaaDoorC9
import Derived.Laws.BytesArg
import Derived.OwnWalk
import Derived.Outline
import Derived.Laws.IdiomStrings
import Derived.Test.YtepommmmmfaihaaDoorC2
/-
  Plain facts on a reader's rows and on what is read; no step of the program's reader in this text.
-/
namespace Go.Proofs.YtepommmmmfaihaaDoor
open Go.RowKit Go.Joins
set_option linter.unusedVariables false
set_option linter.unusedSimpArgs false
/-- The characters that are left, in memory below B. -/
def Tx (B : Nat) (w : World) (ta : Option Addr) (tc : Nat) (u : List Int) : Prop := u.length ≤ tc ∧ tc ≤ maxLen ∧ (0 < u.length → ∃ b off, ta = some ⟨b, off, none⟩ ∧ b < B ∧ ∀ j c, u[j]? = some c → w.cell? ⟨b, off + j, none⟩ = some (.int .i64 c)) ∧ ∀ c ∈ u, chB c = true
section
variable {w w' : World} {B R n tc m c : Nat} {ta ad : Option Addr} {u : List Int} {X : List Nd}
theorem tx_go (h : Tx B w ta tc u) (k : Below B w w') : Tx B w' ta tc u := by
  obtain ⟨h1, h2, h3, h4⟩ := h
  refine ⟨h1, h2, fun h0 => ?_, h4⟩
  obtain ⟨b, off, rfl, hb, hc⟩ := h3 h0
  exact ⟨b, off, rfl, hb, fun j c hj => by
    have := hc j c hj
    simp only [World.cell?] at this ⊢
    rw [k.block b hb]
    exact this⟩
theorem kp_r (w : World) (R : Nat) (i : Nat) (v : Value) : Kp (fun j => j = R) w (w.setCell ⟨R, i, none⟩ v) := kp_set (S := fun j => j = R) _ _ _ rfl
end
theorem infoND : (Tryd.prog.info? 43).map (fun i => (i.zero, i.size, i.bytes)) = some (some (.agg #[.int .i64 0, .bool false, .slice none 0 0, .int .i64 0, .int .i64 0, .int .i64 0, .int .i64 0]), 7, 72) := by kernel_rfl
theorem infoRG : (Tryd.prog.info? 46).map (fun i => (i.zero, i.size, i.bytes)) = some (some (.agg #[.int .i64 0, .int .i64 0]), 2, 16) := by kernel_rfl
theorem grown_undrewR {w w' : World} {row : Option Nat} (h : w.drew.grownBy w' row) : w.grownBy w' row := ⟨h.os, h.tape, h.output, h.size, h.block⟩
theorem own_prL {w : World} {q : Nat} {L : List (Int × Int)} {n : Nat} {cs : Array Value} (hn : L.length = n) (hn5 : n ≤ 500) (hc : cs.toList = prV L) (h : w.heap[q]? = some (.cells cs 46 (0, 0))) : w.ownsRow 0 46 2 (.slice (some ⟨q, 0, none⟩) n n) n (prV L) := by
  have hl := prV_len L
  refine ⟨by rw [hl, hn], .inr ⟨q, n, cs, rfl, Nat.zero_le _, h, Nat.le_refl _, by unfold maxLen; omega, ?_, ?_⟩⟩
  · rw [← Array.length_toList, hc, hl, hn]
  · rw [hc, ← hn, ← hl]; simp
theorem prV_app : ∀ (L : List (Int × Int)) (a b : Int), prV (L ++ [(a, b)]) = prV L ++ [.int .i64 a, .int .i64 b]
  | [], a, b => rfl
  | p :: L, a, b => by rw [List.cons_append, prV, prV_app L a b, prV]; rfl
def BkN (w : World) (N : Nat) (nt : Bool) (ra : Option Addr) (n rc : Nat) : Prop := w.heap[N]? = some (.cells #[.int .i64 2, .bool nt, .slice ra n rc, .int .i64 0, .int .i64 0, .int .i64 0, .int .i64 0] 43 (0, 0))
section
variable {B R N M : Nat} {w w' : World} {u u' : List Int} {X : List Nd} {nt : Bool} {ra : Option Addr} {L : List (Int × Int)} {rc : Nat}
theorem bk_cells (h : BkN w N nt ra M rc) : (w.cell? ⟨N, 0, none⟩ = some (.int .i64 2) ∧ w.cell? ⟨N, 1, none⟩ = some (.bool nt) ∧ w.cell? ⟨N, 2, none⟩ = some (.slice ra M rc) ∧ w.cell? ⟨N, 3, none⟩ = some (.int .i64 0) ∧ w.cell? ⟨N, 4, none⟩ = some (.int .i64 0) ∧ w.cell? ⟨N, 5, none⟩ = some (.int .i64 0) ∧ w.cell? ⟨N, 6, none⟩ = some (.int .i64 0)) ∧ w.frozen? ⟨N, 2, none⟩ = false := by
  have e : ∀ i, w.cell? ⟨N, i, none⟩ = (#[.int .i64 2, .bool nt, .slice ra M rc, .int .i64 0, .int .i64 0, .int .i64 0, .int .i64 0] : Array Value)[i]? := fun i => by rw [cell_of_row w N i _ _ (0, 0) h]
  exact ⟨⟨e 0, e 1, e 2, e 3, e 4, e 5, e 6⟩, frozen_of_row w N 2 _ _ h⟩
theorem bk_lt (h : BkN w N nt ra M rc) : N < w.heap.size := (Array.getElem?_eq_some_iff.1 h).1
end
/-- The loop over the ranges, and the node that is put behind the row. -/
def BrE (u : List Int) (X : List Nd) (nt : Bool) (f : Nat) (v : List Int) (L : List (Int × Int)) : Prop := v.length + 1 ≤ f ∧ brP u X = match brF f v L with
  | none => none
  | some (r, L') => some (r, X ++ [clN nt L'])
def CkN (w : World) (N : Nat) (a mn mx : Int) : Prop := w.heap[N]? = some (.cells #[.int .i64 5, .bool false, .slice none 0 0, .int .i64 a, .int .i64 0, .int .i64 mn, .int .i64 mx] 43 (0, 0))
section
variable {B R N M : Nat} {w w' : World} {u u' : List Int} {X : List Nd} {a mn mx : Int}
theorem ck_cells (h : CkN w N a mn mx) : (w.cell? ⟨N, 0, none⟩ = some (.int .i64 5) ∧ w.cell? ⟨N, 1, none⟩ = some (.bool false) ∧ w.cell? ⟨N, 2, none⟩ = some (.slice none 0 0) ∧ w.cell? ⟨N, 3, none⟩ = some (.int .i64 a) ∧ w.cell? ⟨N, 4, none⟩ = some (.int .i64 0) ∧ w.cell? ⟨N, 5, none⟩ = some (.int .i64 mn) ∧ w.cell? ⟨N, 6, none⟩ = some (.int .i64 mx)) ∧ w.frozen? ⟨N, 5, none⟩ = false ∧ w.frozen? ⟨N, 6, none⟩ = false := by
  have e : ∀ i, w.cell? ⟨N, i, none⟩ = (#[.int .i64 5, .bool false, .slice none 0 0, .int .i64 a, .int .i64 0, .int .i64 mn, .int .i64 mx] : Array Value)[i]? := fun i => by rw [cell_of_row w N i _ _ (0, 0) h]
  exact ⟨⟨e 0, e 1, e 2, e 3, e 4, e 5, e 6⟩, frozen_of_row w N 5 _ _ h, frozen_of_row w N 6 _ _ h⟩
theorem ck_lt (h : CkN w N a mn mx) : N < w.heap.size := (Array.getElem?_eq_some_iff.1 h).1
end
/-- The whole text. -/
def rdW (u : List Int) : Option (List Nd) := match rdC (4 * u.length + 4) u [] with
  | some ([], X) => some X
  | _ => none
theorem rdW_some {u : List Int} {X : List Nd} (h : rdC (4 * u.length + 4) u [] = some ([], X)) : rdW u = some X := by unfold rdW; rw [h]
theorem rdW_more {u r : List Int} {c : Int} {X : List Nd} (h : rdC (4 * u.length + 4) u [] = some (c :: r, X)) : rdW u = none := by unfold rdW; rw [h]
theorem xo_lower {Z B B' : Nat} {S : Nat → Prop} {w : World} {ad : Option Addr} {c : Nat} {X : List Nd} (h : XOZ Z B S w ad c X) (hB : B' ≤ B) : XOZ Z B' S w ad c X := by
  obtain ⟨xs, ⟨h0, h1⟩, h2, h3⟩ := h
  refine ⟨xs, ⟨h0, ?_⟩, h2, h3⟩
  rcases h1 with h1 | ⟨g, cap, cur, hv, hg, rest⟩
  · exact .inl h1
  · exact .inr ⟨g, cap, cur, hv, Nat.le_trans hB hg, rest⟩
theorem decL_ch (l : List UInt8) : chB ((Lib.decodeL l).1 : Int) = true := by
  have h := Lib.decodeN_valid l.length (l.getD 0 0).toNat (l.getD 1 0).toNat (l.getD 2 0).toNat (l.getD 3 0).toNat (UInt8.toNat_lt _)
  rw [← Lib.decodeL_N] at h
  unfold chB
  rw [decide_eq_true_iff]
  omega
theorem runesL_ch : ∀ (f : Nat) (l : List UInt8), l.length ≤ f → ∀ x, runesL l = some x → ∀ c ∈ x, chB c = true
  | 0, l, hf, x, hx => by
    have : l = [] := List.length_eq_zero_iff.1 (by omega)
    subst this
    rw [runesL_nil] at hx
    cases hx
    intro c hc; cases hc
  | f + 1, l, hf, x, hx => by
    by_cases h : l = []
    · subst h
      rw [runesL_nil] at hx
      cases hx
      intro c hc; cases hc
    · by_cases hb : Lib.decodeL l = (65533, 1)
      · rw [runesL_bad h hb] at hx; cases hx
      · have hl : 0 < l.length := List.length_pos_iff.2 h
        have hw := Lib.decodeL_width l
        rw [runesL_step h hb] at hx
        cases hy : runesL (l.drop (Lib.decodeL l).2) with
        | none => rw [hy] at hx; cases hx
        | some y =>
          rw [hy] at hx
          simp at hx
          subst hx
          have ih := runesL_ch f (l.drop (Lib.decodeL l).2) (by rw [List.length_drop]; omega) y hy
          intro c hc
          rcases List.mem_cons.1 hc with rfl | hc
          · exact decL_ch l
          · exact ih c hc
theorem outL_ch (s : ByteArray) : ∀ c ∈ outL (rns s), chB c = true := by
  unfold rns
  by_cases h : s.size ≤ 20000
  · rw [if_pos h]
    cases hx : runesL s.data.toList with
    | none => intro c hc; simp [outL] at hc
    | some x => exact runesL_ch _ s.data.toList (Nat.le_refl _) x hx
  · rw [if_neg h]; intro c hc; simp [outL] at hc
/-- How many ranges a right node has. -/
theorem nodeB_nr {kd : Int} {nt : Bool} {n : Nat} {L H : Nat → Int} {a b mn mx : Int} (h : nodeB kd nt n L H a b mn mx = true) : n ≤ 12 := by
  unfold nodeB at h
  split at h
  · simp at h; omega
  · split at h
    · unfold rowB at h; simp at h; omega
    · split at h
      · simp at h; omega
      · split at h
        · simp at h; omega
        · cases h
theorem rx_len {X : List Nd} (h : rxB (rxOf X) = true) : 1 ≤ X.length ∧ X.length ≤ 120 := by
  by_cases h9 : 1 ≤ (rxOf X).len ∧ (rxOf X).len ≤ 120
  · exact h9
  · rw [rxB_size h9] at h; cases h
theorem rx_node {X : List Nd} (h : rxB (rxOf X) = true) {j : Nat} {nd : Nd} (hj : X[j]? = some nd) : nd.L.length ≤ 12 := by
  have hlt : j < X.length := (List.getElem?_eq_some_iff.1 hj).1
  cases hx : nodeX (rxOf X) j with
  | false => rw [rxB_node (X := rxOf X) hlt hx] at h; cases h
  | true =>
    unfold nodeX at hx
    have h9 := nodeB_nr hx
    have e : (rxOf X).NR j = nd.L.length := by simp only [rxOf, ndAt_of hj]
    omega
theorem xo_z {Z Z' B : Nat} {S : Nat → Prop} {w : World} {ad : Option Addr} {c : Nat} {X : List Nd} (h : XOZ Z B S w ad c X) (hz : ∀ (j : Nat) (nd : Nd), X[j]? = some nd → nd.L.length ≤ Z') : XOZ Z' B S w ad c X := by
  obtain ⟨xs, h1, h2, h3⟩ := h
  refine ⟨xs, h1, fun j nd hj => ?_, h3⟩
  obtain ⟨a, cp, b1, b2, b3, b4⟩ := h2 j nd hj
  exact ⟨a, cp, b1, b2, b3, hz j nd hj⟩
theorem xo_at5 {Z B : Nat} {S : Nat → Prop} {w : World} {ad : Option Addr} {c : Nat} {X : List Nd} (h : XOZ Z B S w ad c X) {j : Nat} (hj : j < X.length) : (ndAt X j).L.length ≤ Z := by
  obtain ⟨xs, h1, h2, h3⟩ := h
  obtain ⟨a, cp, b1, b2, b3, b4⟩ := h2 j X[j] (List.getElem?_eq_getElem hj)
  rw [ndAt_of (List.getElem?_eq_getElem hj)]
  exact b4
/-- What is read as an expression. -/
def rgW (C : List Int) (b : Bool) : Option (List Nd) := if b = true ∧ C.length ≤ 400 then (match rdW C with
  | none => none
  | some X => if rxB (rxOf X) = true then some X else none) else none
def LtAns (V : List Nd) (ok : Bool) (w : World) (e : Ending) (w' : World) : Prop := ∃ ad c, e = .returned (.tuple #[.slice ad V.length c, .bool ok]) ∧ XO w.heap.size (fun j => w.heap.size ≤ j) w' ad c V ∧ Below w.heap.size w w'
def rgV (C : List Int) (b : Bool) : List Nd := (rgW C b).getD []
def rgO (C : List Int) (b : Bool) : Bool := (rgW C b).isSome
theorem rg_no {C : List Int} {b : Bool} {w w' : World} (h : rgW C b = none) (hb : Below w.heap.size w w') : LtAns (rgV C b) (rgO C b) w (.returned (.tuple #[.slice none 0 0, .bool false])) w' := by
  unfold rgV rgO
  rw [h]
  exact ⟨none, 0, rfl, xo_nil _ _ _, hb⟩
theorem rg_yes {C : List Int} {b : Bool} {X : List Nd} {w w' : World} {ad : Option Addr} {c : Nat} (h : rgW C b = some X) (hx : XOZ 500 w.heap.size (fun j => w.heap.size ≤ j) w' ad c X) (hr : rxB (rxOf X) = true) (hb : Below w.heap.size w w') : LtAns (rgV C b) (rgO C b) w (.returned (.tuple #[.slice ad X.length c, .bool true])) w' := by
  unfold rgV rgO
  rw [h]
  exact ⟨ad, c, rfl, xo_z hx (fun j nd hj => by have := rx_node hr hj; omega), hb⟩
theorem rgV_len (C : List Int) (b : Bool) : (rgV C b).length ≤ 120 := by
  unfold rgV
  cases h : rgW C b with
  | none => simp
  | some X =>
    unfold rgW at h
    split at h
    · split at h
      · cases h
      · split at h
        · rename_i hr
          cases h
          exact (rx_len hr).2
        · cases h
    · cases h
theorem tx_own {B : Nat} {w : World} {ta : Option Addr} {tc : Nat} {C : List Int} (h : w.ownsRow B 2 1 (.slice ta C.length tc) C.length (C.map (Value.int .i64))) (hc : C.length ≤ 20000) (hch : ∀ c ∈ C, chB c = true) (htc : C.length ≤ tc ∧ tc ≤ maxLen) : Tx w.heap.size w ta tc C := by
  refine ⟨htc.1, htc.2, fun h0 => ?_, hch⟩
  obtain ⟨g, cap, hv, -, hg⟩ := h.form h0
  simp only [Value.slice.injEq] at hv
  obtain ⟨rfl, -, rfl⟩ := hv
  refine ⟨g, 0, rfl, hg, fun j c hj => ?_⟩
  have hlt : j < C.length := (List.getElem?_eq_some_iff.1 hj).1
  rw [Nat.zero_add, h.cellAt j (by omega), List.getElem?_map, hj]
  rfl
end Go.Proofs.YtepommmmmfaihaaDoor

/-
  Contracts of the specification: the bytes of a character, a small number in decimal.
-/
namespace Go.Proofs.YtepommmmmfaihaaDoor
open Go.RowKit Go.Joins
set_option linter.unusedVariables false
set_option linter.unusedSimpArgs false
theorem bl_app (a b : ByteArray) : (a ++ b).data.toList = a.data.toList ++ b.data.toList := te_app a b
theorem ret_s9 {a b : ByteArray} (h : a = b) : Ending.returned (.string a) = .returned (.string b) := by rw [h]
theorem conv_new (w : World) (xs : List Int) :
    (convert 22 9 (.slice (some ⟨w.heap.size, 0, none⟩) xs.length xs.length)).run Tryd.prog (w.alloc (.cells (xs.map (Value.int .u8)).toArray 5)) = .ok (.string (strOfNums xs)) (w.alloc (.cells (xs.map (Value.int .u8)).toArray 5)) := by
  refine run_convert_bytes_arg _ 22 5 Tryd.underlying22 Tryd.underlying5 w.heap.size 0 xs.length xs.length xs rfl ?_ 9 Tryd.underlying9
  intro i hi
  rw [show (0 + i) = i by omega, cell_of_row _ w.heap.size i _ 5 (0, 0) (heap_alloc_new w _)]
  simp [List.getElem?_eq_getElem hi]
theorem s_bytes_of (r : Int) (w : World) (xs : List Int) (hx : Lib.encodeRuneZ r = xs)
    (h : Calls Tryd.prog 49 #[.int .i64 r] w fun e w' => e = .returned (.string (strOfNums xs)) ∧ w' = w.alloc (.cells (xs.map (Value.int .u8)).toArray 5)) :
    Calls Tryd.prog 49 #[.int .i64 r] w fun e w' => e = .returned (.string (strOfNums (Lib.encodeRuneZ r))) ∧ Below w.heap.size w w' := by
  rw [hx]
  refine h.mono ?_
  rintro e w' ⟨rfl, rfl⟩
  exact ⟨rfl, (Below.refl _ _).alloc (Nat.le_refl _) _⟩

set_option maxRecDepth 100000 in
set_option maxHeartbeats 1000000 in
theorem s_bytes (r : Int) (w : World) (hc : chB r = true) : Calls Tryd.prog 49 #[.int .i64 r] w fun e w' => e = .returned (.string (strOfNums (Lib.encodeRuneZ r))) ∧ Below w.heap.size w w' := by
  have hr : (0 ≤ r ∧ r ≤ 55295) ∨ (57344 ≤ r ∧ r ≤ 1114111) := of_decide_eq_true hc
  clear hc
  by_cases h1 : r ≤ 127
  · have h0 : 0 ≤ r := by omega
    clear hr
    refine s_bytes_of r w _ (Lib.encodeRuneZ_one h0 h1) ?_
    have hcv := conv_new w [r]
    simp only [List.map_cons, List.map_nil, List.length_cons, List.length_nil, Nat.zero_add] at hcv ⊢
    go_enter Tryd.func49, Tryd.ntmps49
    go_wp2
    go_ret
    exact ⟨rfl, rfl⟩
  · by_cases h2 : r ≤ 2047
    · have h0 : 128 ≤ r := by omega
      clear hr h1
      refine s_bytes_of r w _ (Lib.encodeRuneZ_two h0 h2) ?_
      have hcv := conv_new w [192 + r / 64, 128 + r % 64]
      simp only [List.map_cons, List.map_nil, List.length_cons, List.length_nil, Nat.zero_add] at hcv ⊢
      go_enter Tryd.func49, Tryd.ntmps49
      go_wp2
      go_ret
      exact ⟨rfl, rfl⟩
    · by_cases h3 : r ≤ 65535
      · have h0 : 2048 ≤ r := by omega
        have h4 : (2048 ≤ r ∧ r < 55296) ∨ (57343 < r ∧ r ≤ 65535) := by omega
        clear hr h1 h2
        refine s_bytes_of r w _ (Lib.encodeRuneZ_three h4) ?_
        clear h4
        have hcv := conv_new w [224 + r / 4096, 128 + r / 64 % 64, 128 + r % 64]
        simp only [List.map_cons, List.map_nil, List.length_cons, List.length_nil, Nat.zero_add] at hcv ⊢
        go_enter Tryd.func49, Tryd.ntmps49
        go_wp2
        go_ret
        exact ⟨rfl, rfl⟩
      · have h0 : 65536 ≤ r := by omega
        have h5 : r ≤ 1114111 := by omega
        clear hr h1 h2 h3
        refine s_bytes_of r w _ (Lib.encodeRuneZ_four h0 h5) ?_
        have hcv := conv_new w [240 + r / 262144, 128 + r / 4096 % 64, 128 + r / 64 % 64, 128 + r % 64]
        simp only [List.map_cons, List.map_nil, List.length_cons, List.length_nil, Nat.zero_add] at hcv ⊢
        go_enter Tryd.func49, Tryd.ntmps49
        go_wp2
        go_ret
        exact ⟨rfl, rfl⟩


theorem dec_one {n : Int} (h0 : 0 ≤ n) (h1 : n < 10) : (strOfNums [48 + n]).data.toList = Lib.itoa n := by
  unfold strOfNums Lib.itoa
  rw [if_neg (by omega), Lib.decDigits_one (by omega)]
  simp only [List.map_cons, List.map_nil]
  rw [show ((48 : Int) + n).toNat = 48 + n.toNat by omega]
theorem dec_two {n : Int} (h0 : 10 ≤ n) (h1 : n < 100) : (strOfNums [48 + n / 10] ++ strOfNums [48 + n % 10]).data.toList = Lib.itoa n := by
  rw [bl_app]
  unfold strOfNums Lib.itoa
  rw [if_neg (by omega), Lib.decDigits, dif_neg (by omega), Lib.decDigits_one (by omega)]
  simp only [List.map_cons, List.map_nil]
  rw [show ((48 : Int) + n / 10).toNat = 48 + n.toNat / 10 by omega, show ((48 : Int) + n % 10).toNat = 48 + n.toNat % 10 by omega]
theorem one_size (z : Int) : (strOfNums [z]).size = 1 := rfl
/-- The bytes of a character. -/
theorem s_enc (r : Int) (w : World) (h : chB r = true) : Calls Tryd.prog 49 #[.int .i64 r] w fun e w' => e = .returned (.string (Utf8.encode r)) ∧ Below w.heap.size w w' := by
  rw [← enc_nums h]
  exact s_bytes r w h
end Go.Proofs.YtepommmmmfaihaaDoor

/-
  Contracts of the specification: signs, characters' texts, classes' texts, counts' texts.
-/
namespace Go.Proofs.YtepommmmmfaihaaDoor
open Go.RowKit Go.Joins
set_option linter.unusedVariables false
set_option linter.unusedSimpArgs false
set_option maxRecDepth 100000 in
set_option maxHeartbeats 2000000 in
theorem s_meta (c : Int) (w : World) : Calls Tryd.prog 70 #[.int .i64 c] w fun e w' => e = .returned (.bool (isS sgO c)) ∧ w' = w := by
  go_enter Tryd.func70, Tryd.ntmps70
  go_wp2
  go_loop [3] (fun i => ∃ k : Nat, k ≤ 12 ∧ i = .int .i64 k ∧ Hid (∀ j, j < k → ((sgO[j]?.getD 0).toNat : Int) ≠ c)) (fun i => 12 - (intOf i).toNat)
  case atStart => exact ⟨0, Nat.zero_le _, rfl, fun j h => by omega⟩
  case round =>
    obtain ⟨k, hk, rfl, HA⟩ := hrel
    by_cases hlt : k < 12
    · have hki : (k : Int) < 12 := by omega
      have hkb : k < (⟨#[46, 92, 63, 42, 43, 123, 125, 40, 41, 124, 91, 93]⟩ : ByteArray).size := hlt
      have hkb2 : (k : Int) < ((⟨#[46, 92, 63, 42, 43, 123, 125, 40, 41, 124, 91, 93]⟩ : ByteArray).size : Int) := hki
      obtain ⟨x, hx⟩ : ∃ x : UInt8, (⟨#[46, 92, 63, 42, 43, 123, 125, 40, 41, 124, 91, 93]⟩ : ByteArray)[k]'hkb = x := ⟨_, rfl⟩
      have hx2 : sgO[k]?.getD 0 = x := by
        rw [← hx]
        have hkl : k < sgO.length := hlt
        rw [List.getElem?_eq_getElem hkl]
        rfl
      have HX2 := hide hx2
      have hx8 : x.toNat < 256 := x.toNat_lt
      clear hx2
      by_cases he : (x.toNat : Int) = c
      · have heb : ((x.toNat : Int) == c) = true := by rw [beq_iff_eq]; exact he
        have HY : Hid (isS sgO c = true) := hide (isS_yes (j := k) hlt (by rw [HX2.out]; exact he))
        clear he
        go_wp2
        go_ret
        exact ⟨ret_bool HY.out.symm, rfl⟩
      · have heb : ((x.toNat : Int) == c) = false := by rw [beq_eq_false_iff_ne]; exact he
        have HA2 : Hid (∀ j, j < k + 1 → ((sgO[j]?.getD 0).toNat : Int) ≠ c) := hide (fun j hj => by
          by_cases e : j = k
          · subst e; rw [HX2.out]; exact he
          · exact HA.out j (by omega))
        clear he
        go_wp2
        go_round
        case rel => exact ⟨k + 1, by omega, by go_num, HA2⟩
        case measure => simp [intOf]; omega
    · have hkm : k = 12 := by omega
      subst hkm
      have HN : Hid (isS sgO c = false) := hide (isS_no HA.out)
      go_wp2
      go_ret
      exact ⟨ret_bool HN.out.symm, rfl⟩
theorem ch_sgI (c : Int) : isS sgI c = decide (c = 91 ∨ c = 93 ∨ c = 92 ∨ c = 45 ∨ c = 94) := by
  unfold isS sgI
  rw [Bool.eq_iff_iff]
  simp
  omega
/-- A character's text, written within brackets or not. -/
def sgOf (ins : Bool) : List UInt8 := if ins = true then sgI else sgO
end Go.Proofs.YtepommmmmfaihaaDoor
