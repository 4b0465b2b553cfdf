/-
  Texts put together: StK, TbA, TbB.
-/
import Derived.Test.YtfbahffljhnjbaaGreatDoorD44
import Derived.Test.YtfbahffljhnjbaaGreatDoorD3
import Derived.Test.YtfbahffljhnjbaaGreatDoorD5
import Derived.Test.YtfbahffljhnjbaaGreatDoorD34
/-
  Contracts of the laws' helpers on rows of texts: marks on all places from any count on, and that they stand.
-/
namespace Go.Proofs.YtfbahffljhnjbaaGreatDoor
open Go.RowKit Go.Joins
set_option linter.unusedVariables false
set_option linter.unusedSimpArgs false
/-- n marks from s on. -/
def mkU (s : Nat) : Nat → List ByteArray
  | 0 => []
  | n + 1 => mkU s n ++ [mkT ((s + n : Nat) : Int)]
theorem mkU_len (s : Nat) : ∀ n, (mkU s n).length = n
  | 0 => rfl
  | n + 1 => by rw [mkU, List.length_append, mkU_len s n]; rfl
theorem mkU_get (s : Nat) : ∀ (n j : Nat), j < n → (mkU s n)[j]?.getD ⟨#[]⟩ = mkT ((s + j : Nat) : Int)
  | 0, j, h => absurd h (Nat.not_lt_zero j)
  | n + 1, j, h => by
    rw [mkU]
    by_cases e : j < n
    · rw [List.getElem?_append_left (by rw [mkU_len]; exact e)]
      exact mkU_get s n j e
    · have e2 : j = n := by omega
      subst e2
      rw [List.getElem?_append_right (by rw [mkU_len]; exact Nat.le_refl _), mkU_len, Nat.sub_self]
      rfl
theorem mkU_step (s : Nat) (xs : List ByteArray) (n j : Nat) (hn : xs.length = n) (hj : j < n) :
    ((mkU s j ++ xs.drop j).map Value.string).set j (.string (mkT ((s + j : Nat) : Int))) = (mkU s (j + 1) ++ xs.drop (j + 1)).map Value.string := by
  rw [List.map_append, List.set_append_right _ _ (by rw [List.length_map, mkU_len]; exact Nat.le_refl _), List.length_map, mkU_len, Nat.sub_self]
  have hd : xs.drop j = xs[j]'(by omega) :: xs.drop (j + 1) := List.drop_eq_getElem_cons (by omega)
  rw [hd, List.map_cons, List.set_cons_zero, mkU, List.map_append, List.map_append, List.append_assoc]
  rfl
theorem gk_set (w : World) (g i : Nat) (u : Value) : w.grownBy (w.setCell ⟨g, i, none⟩ u) (some g) :=
  ⟨rfl, rfl, rfl, by simp, fun k _ hk => heap_setCell_other w ⟨g, i, none⟩ k u (fun e => hk (by rw [e]))⟩
theorem gk_refl (w : World) (row : Option Nat) : w.grownBy w row := ⟨rfl, rfl, rfl, Nat.le_refl _, fun _ _ _ => rfl⟩
theorem gk_trans {w w1 w2 : World} {row : Option Nat} (h1 : w.grownBy w1 row) (h2 : w1.grownBy w2 row) : w.grownBy w2 row :=
  ⟨h2.os.trans h1.os, h2.tape.trans h1.tape, h2.output.trans h1.output, Nat.le_trans h1.size h2.size, fun k hk hne => (h2.block k (Nat.lt_of_lt_of_le hk h1.size) hne).trans (h1.block k hk hne)⟩
theorem gk_below {w w' : World} (hb : Below w.heap.size w w') (row : Option Nat) : w.grownBy w' row := ⟨hb.os, hb.tape, hb.output, hb.size, fun k hk _ => hb.block k hk⟩
set_option maxHeartbeats 1000000 in
theorem markK_none (a : Option Addr) (c s : Nat) (w : World) (hs1 : s ≤ 16777216) :
    Calls Tryz.prog 49 #[.slice a 0 c, .int .i64 s] w fun e w' => e = .returned (.int .i64 s) ∧ w' = w := by
  go_enter Tryz.func49, Tryz.ntmps49
  go_wp2
  go_loop [1, 5] (fun k i => k = .int .i64 s ∧ i = .int .i64 0) (fun _ _ => 0)
  case atStart => exact ⟨rfl, rfl⟩
  case round =>
    obtain ⟨rfl, rfl⟩ := hrel
    go_wp2
    go_ret
    exact ⟨rfl, rfl⟩
set_option maxHeartbeats 2000000 in
theorem markK_some (B g n c s : Nat) (xs : List ByteArray) (w : World) (hx : xs.length = n) (hn : n ≤ 1048576) (hs0 : 1 ≤ s) (hs1 : s ≤ 16777216) (hown : w.ownsRow B 9 1 (.slice (some ⟨g, 0, none⟩) n c) n (xs.map Value.string)) :
    Calls Tryz.prog 49 #[.slice (some ⟨g, 0, none⟩) n c, .int .i64 s] w fun e w' => e = .returned (.int .i64 (s + n : Nat)) ∧
      w'.ownsRow B 9 1 (.slice (some ⟨g, 0, none⟩) n c) n ((mkU s n).map Value.string) ∧ w.grownBy w' (some g) := by
  have HX := hide hx
  have H0 : w.ownsRow B 9 1 (.slice (some ⟨g, 0, none⟩) n c) n ((mkU s 0 ++ xs.drop 0).map Value.string) := by simpa [mkU] using hown
  have HO := hide H0
  clear hown H0 hx
  go_enter Tryz.func49, Tryz.ntmps49
  go_wp2
  go_loopw [1, 5] (fun k i wr => ∃ j : Nat, j ≤ n ∧ i = .int .i64 j ∧ k = .int .i64 ((s + j : Nat) : Int) ∧ wr.ownsRow B 9 1 (.slice (some ⟨g, 0, none⟩) n c) n ((mkU s j ++ xs.drop j).map Value.string) ∧ w.grownBy wr (some g)) (fun _ i _ => n - (intOf i).toNat)
  case atStart => exact ⟨0, Nat.zero_le _, rfl, rfl, HO.out, gk_refl _ _⟩
  case round =>
    obtain ⟨j, hj, rfl, rfl, hown, hb⟩ := hrel
    by_cases hlt : j < n
    · have hji : (j : Int) < (n : Int) := by omega
      have HB := hide hb
      have HO1 := hide hown
      clear hown hb
      go_wp2_with fail
      refine (l_mtV _ _ (by omega) (by omega)).mono ?_
      rintro e w2 ⟨rfl, hb2⟩
      have hown2 := gOwn_after HO1.out hb2
      have hst := hide (hown2.stored j (.string (mkT ((s + j : Nat) : Int))))
      have hfr := hown2.frozenAt j
      have hcc : ∃ v, w2.cell? ⟨g, j, none⟩ = some v := by
        rw [hown2.cellAt j (by omega)]
        have hl : j < ((mkU s j ++ xs.drop j).map Value.string).length := by have := HX.out; rw [List.length_map, List.length_append, mkU_len, List.length_drop]; omega
        exact ⟨_, List.getElem?_eq_getElem hl⟩
      obtain ⟨v0, hcv⟩ := hcc
      have HB2 := hide (gk_trans HB.out (gk_below hb2 (some g)))
      clear hown2 hb2
      go_wp2
      go_roundw
      case rel =>
        refine ⟨j + 1, by omega, by go_num, by go_num, ?_, gk_trans HB2.out (gk_set _ _ _ _)⟩
        rw [← mkU_step s xs n j HX.out hlt]
        exact hst.out.1
      case measure => simp [intOf]; omega
    · have hkn : j = n := by omega
      subst hkn
      have hfull : mkU s j ++ xs.drop j = mkU s j := by have := HX.out; subst this; simp
      rw [hfull] at hown
      have HO2 := hide hown
      have HB := hide hb
      clear hown hb
      go_wp2
      go_ret
      exact ⟨rfl, HO2.out, HB.out⟩
theorem markK_any (B : Nat) (ad : Option Addr) (n c s : Nat) (xs : List ByteArray) (w : World) (hx : xs.length = n) (hn : n ≤ 1048576) (hs0 : 1 ≤ s) (hs1 : s ≤ 16777216) (hown : w.ownsRow B 9 1 (.slice ad n c) n (xs.map Value.string)) :
    Calls Tryz.prog 49 #[.slice ad n c, .int .i64 s] w fun e w' => e = .returned (.int .i64 (s + n : Nat)) ∧
      w'.ownsRow B 9 1 (.slice ad n c) n ((mkU s n).map Value.string) ∧ w.grownBy w' (Value.slice ad n c).ownBlock := by
  by_cases h0 : n = 0
  · subst h0
    refine (markK_none ad c s w hs1).mono ?_
    rintro e w' ⟨rfl, rfl⟩
    have : xs = [] := List.length_eq_zero_iff.1 hx
    subst this
    exact ⟨rfl, hown, gk_refl _ _⟩
  · rcases hown.2 with ⟨hv, h0'⟩ | ⟨g, cap, cur, hv, hB, hg, rest⟩
    · exact absurd h0' h0
    · simp only [Value.slice.injEq] at hv
      obtain ⟨rfl, _, rfl⟩ := hv
      exact markK_some B g n c s xs w hx hn hs0 hs1 hown
/-- While a place is held against its mark. -/
def HSK (w w' : World) (b o : Nat) (s : ByteArray) : Prop := Below w.heap.size w w' ∧ b < w.heap.size ∧ w'.cell? ⟨b, o, none⟩ = some (.string s)
theorem hsk_go {w w1 w2 : World} {b o : Nat} {s : ByteArray} (x : HSK w w1 b o s) (h : Below w1.heap.size w1 w2) : HSK w w2 b o s :=
  ⟨x.1.trans (h.mono x.1.size), x.2.1, (h.cell (p := ⟨b, o, none⟩) (Nat.lt_of_lt_of_le x.2.1 x.1.size)).trans x.2.2⟩
theorem hsk_drew {w w1 : World} {b o : Nat} {s : ByteArray} (x : HSK w w1 b o s) : HSK w w1.drew b o s := hsk_go x ⟨rfl, rfl, rfl, Nat.le_refl _, fun _ _ => rfl⟩
theorem hsk_all {w w1 : World} {b o : Nat} {s : ByteArray} (x : HSK w w1 b o s) : HSK w w1 b o s ∧ w1.cell? ⟨b, o, none⟩ = some (.string s) := ⟨x, x.2.2⟩
set_option maxRecDepth 100000 in
set_option maxHeartbeats 4000000 in
theorem heldK (a : Option Addr) (n c s : Nat) (w : World) (hn : n ≤ 1048576) (hs0 : 1 ≤ s) (hs1 : s ≤ 16777216) (hr : TxAt w a (mkU s n) w.heap.size) :
    Calls Tryz.prog 50 #[.slice a n c, .int .i64 s] w fun e w' => e = .returned (.int .i64 (s + n : Nat)) ∧ Below w.heap.size w w' := by
  have HR := hide hr
  clear hr
  go_enter Tryz.func50, Tryz.ntmps50
  go_wp2
  go_loopw [1, 5] (fun k i wr => ∃ j : Nat, j ≤ n ∧ i = .int .i64 j ∧ k = .int .i64 ((s + j : Nat) : Int) ∧ Below w.heap.size w wr) (fun _ i _ => n - (intOf i).toNat)
  case atStart => exact ⟨0, Nat.zero_le _, rfl, rfl, Below.refl _ _⟩
  case round =>
    obtain ⟨j, hj, rfl, rfl, hb⟩ := hrel
    by_cases hlt : j < n
    · have hji : (j : Int) < (n : Int) := by omega
      have hj0 : (0 : Int) ≤ (j : Int) := by omega
      have hlt2 : j < (mkU s n).length := by rw [mkU_len]; exact hlt
      obtain ⟨b, off, rfl, hbs, hc⟩ := HR.out (fun h => by rw [h] at hlt2; exact absurd hlt2 (Nat.not_lt_zero _))
      have k0 := (hb.cell (p := ⟨b, off + j, none⟩) hbs).trans (hc j hlt2)
      rw [mkU_get s n j hlt] at k0
      have CM := hide (fun (W : World) => l_mtV ((s + j : Nat) : Int) W (by omega) (by omega))
      obtain ⟨T, hT⟩ : ∃ T, mkT ((s + j : Nat) : Int) = T := ⟨_, rfl⟩
      rw [hT] at k0 CM
      have XX : Hid (HSK w wr b (off + j) T) := ⟨hb, hbs, k0⟩
      clear hc hb hT k0 hlt2
      go_wp2
      go_region_held3 (fun w' => HSK w w' b (off + j) T ∧ w'.cell? ⟨b, off + j, none⟩ = some (.string T)) (first | assumption | exact hsk_all (hsk_drew XX.out) | exact hsk_all XX.out) (first | (go_at_call 47; refine (CM.out _).mono ?_; rintro e w2 ⟨rfl, hb2⟩; have X2 := hide (hsk_go (hsk_drew XX.out) hb2); replace XX := X2; clear X2 hb2))
      all_goals
        go_wp2
        go_roundw
        case rel => exact ⟨j + 1, by omega, by go_num, by go_num, XX.out.1⟩
        case measure => simp [intOf]; omega
    · have hkn : j = n := by omega
      subst hkn
      go_wp2
      go_ret
      exact ⟨rfl, hb⟩
end Go.Proofs.YtfbahffljhnjbaaGreatDoor

/-
  Contracts of the laws' helpers on tables (rows of rows of texts): likeness, marks on all places, that they stand.
-/
namespace Go.Proofs.YtfbahffljhnjbaaGreatDoor
open Go.RowKit Go.Joins
set_option linter.unusedVariables false
set_option linter.unusedSimpArgs false
/-- A table, to be read: its row and its rows' texts lie below B. -/
def TabAt (w : World) (a : Option Addr) (T : List (List ByteArray)) (B : Nat) : Prop := T ≠ [] → ∃ b off, a = some ⟨b, off, none⟩ ∧ b < B ∧ ∀ j, j < T.length → ∃ ad cp, w.cell? ⟨b, off + j, none⟩ = some (.slice ad (T[j]?.getD []).length cp) ∧ TxAt w ad (T[j]?.getD []) B
theorem tbl_go {w w' : World} {a : Option Addr} {T : List (List ByteArray)} {B : Nat} (h : TabAt w a T B) (hb : Below B w w') : TabAt w' a T B := fun h0 => by
  obtain ⟨b, off, e, hl, hc⟩ := h h0
  refine ⟨b, off, e, hl, fun j hj => ?_⟩
  obtain ⟨ad, cp, h1, h2⟩ := hc j hj
  exact ⟨ad, cp, (hb.cell (p := ⟨b, off + j, none⟩) hl).trans h1, tx_go h2 hb⟩
theorem tbl_up {w : World} {a : Option Addr} {T : List (List ByteArray)} {B B' : Nat} (h : TabAt w a T B) (hB : B ≤ B') : TabAt w a T B' := fun h0 => by
  obtain ⟨b, off, e, hl, hc⟩ := h h0
  refine ⟨b, off, e, Nat.lt_of_lt_of_le hl hB, fun j hj => ?_⟩
  obtain ⟨ad, cp, h1, h2⟩ := hc j hj
  exact ⟨ad, cp, h1, tx_up h2 hB⟩
theorem tbl_own {w : World} {B k c : Nat} {ad : Option Addr} {cs : List Value} {T : List (List ByteArray)} (h : w.ownsRow B 30 1 (.slice ad k c) k cs) (hr : RrS B w cs T) (hk : T.length = k) : TabAt w ad T w.heap.size := fun h0 => by
  have hl := h.1
  rcases h.2 with ⟨-, hz⟩ | ⟨g, cap, cur, hv, hB, hh, -, -, -, hx⟩
  · exact absurd (List.length_eq_zero_iff.1 (by omega)) h0
  · simp only [Value.slice.injEq] at hv
    obtain ⟨rfl, -, rfl⟩ := hv
    refine ⟨g, 0, rfl, (Array.getElem?_eq_some_iff.1 hh).1, fun j hj => ?_⟩
    obtain ⟨a, c2, h1, h2⟩ := hr.2.1 j hj
    refine ⟨a, c2, ?_, tx_own h2⟩
    have := h.cellAt j (by omega)
    rw [Nat.zero_add, this, h1]
/-- How many texts stand in the rows ahead of one. -/
def offR (T : List (List ByteArray)) : Nat → Nat
  | 0 => 0
  | j + 1 => offR T j + (T[j]?.getD []).length
theorem offR_le (T : List (List ByteArray)) : ∀ (i j : Nat), i ≤ j → offR T i ≤ offR T j
  | i, 0, h => by have : i = 0 := by omega
                  subst this; exact Nat.le_refl _
  | i, j + 1, h => by
    by_cases e : i = j + 1
    · subst e; exact Nat.le_refl _
    · have := offR_le T i j (by omega)
      rw [offR]; omega
/-- While two rows are held against each other. -/
def EQR (w w' : World) (b o b' o' : Nat) (x : List ByteArray) (ad : Option Addr) (cp : Nat) (ad' : Option Addr) (cp' : Nat) : Prop := Below w.heap.size w w' ∧ (b < w.heap.size ∧ b' < w.heap.size) ∧
  w'.cell? ⟨b, o, none⟩ = some (.slice ad x.length cp) ∧ w'.cell? ⟨b', o', none⟩ = some (.slice ad' x.length cp') ∧ TxAt w' ad x w.heap.size ∧ TxAt w' ad' x w.heap.size
section
variable {w w1 w2 : World} {b o b' o' : Nat} {x : List ByteArray} {ad : Option Addr} {cp : Nat} {ad' : Option Addr} {cp' : Nat}
theorem eqr_go (h0 : EQR w w1 b o b' o' x ad cp ad' cp') (h : Below w1.heap.size w1 w2) : EQR w w2 b o b' o' x ad cp ad' cp' := by
  obtain ⟨hb, ⟨h1, h2⟩, c1, c2, r1, r2⟩ := h0
  have hh := h.mono hb.size
  exact ⟨hb.trans hh, ⟨h1, h2⟩, (hh.cell (p := ⟨b, o, none⟩) h1).trans c1, (hh.cell (p := ⟨b', o', none⟩) h2).trans c2, tx_go r1 hh, tx_go r2 hh⟩
theorem eqr_drew (h : EQR w w1 b o b' o' x ad cp ad' cp') : EQR w w1.drew b o b' o' x ad cp ad' cp' := eqr_go h ⟨rfl, rfl, rfl, Nat.le_refl _, fun _ _ => rfl⟩
theorem eqr_all (h : EQR w w1 b o b' o' x ad cp ad' cp') : EQR w w1 b o b' o' x ad cp ad' cp' ∧ w1.cell? ⟨b, o, none⟩ = some (.slice ad x.length cp) ∧ w1.cell? ⟨b', o', none⟩ = some (.slice ad' x.length cp') := ⟨h, h.2.2.1, h.2.2.2.1⟩
theorem eqr_r1 (h : EQR w w1 b o b' o' x ad cp ad' cp') : TxAt w1 ad x w1.heap.size := tx_up h.2.2.2.2.1 h.1.size
theorem eqr_r2 (h : EQR w w1 b o b' o' x ad cp ad' cp') : TxAt w1 ad' x w1.heap.size := tx_up h.2.2.2.2.2 h.1.size
end
set_option maxRecDepth 100000 in
set_option maxHeartbeats 8000000 in
theorem l_eqSS (T : List (List ByteArray)) (n : Nat) (a1 a2 : Option Addr) (c1 c2 : Nat) (w : World) (hX : T.length = n) (hn : n ≤ 1048576) (hnr : ∀ j, j < n → (T[j]?.getD []).length ≤ 1048576) (h1 : TabAt w a1 T w.heap.size) (h2 : TabAt w a2 T w.heap.size) :
    Calls Tryz.prog 15 #[.slice a1 n c1, .slice a2 n c2] w fun e w' => e = .returned (.bool true) ∧ Below w.heap.size w w' := by
  have HX := hide hX
  have HNR := hide hnr
  have H1 := hide h1
  have H2 := hide h2
  clear h1 h2 hnr hX
  go_enter Tryz.func15, Tryz.ntmps15
  go_wp2
  go_loopw [5] (fun i wr => ∃ k : Nat, k ≤ n ∧ i = .int .i64 k ∧ Below w.heap.size w wr) (fun i _ => n - (intOf i).toNat)
  case atStart => exact ⟨0, Nat.zero_le _, rfl, Below.refl _ _⟩
  case round =>
    obtain ⟨k, hk, rfl, hb⟩ := hrel
    by_cases hlt : k < n
    · obtain ⟨b, off, rfl, hbs, hc⟩ := H1.out (fun e => by have := HX.out; rw [e] at this; simp at this; omega)
      obtain ⟨b', off', rfl, hbs', hc'⟩ := H2.out (fun e => by have := HX.out; rw [e] at this; simp at this; omega)
      obtain ⟨ad, cp, hk1, hr1⟩ := hc k (by rw [HX.out]; omega)
      obtain ⟨ad', cp', hk2, hr2⟩ := hc' k (by rw [HX.out]; omega)
      have hnk := HNR.out k hlt
      obtain ⟨x, hx⟩ : ∃ x, T[k]?.getD [] = x := ⟨_, rfl⟩
      rw [hx] at hk1 hk2 hr1 hr2 hnk
      have XX : Hid (EQR w wr b (off + k) b' (off' + k) x ad cp ad' cp') := ⟨hb, ⟨hbs, hbs'⟩, (hb.cell (p := ⟨b, off + k, none⟩) hbs).trans hk1, (hb.cell (p := ⟨b', off' + k, none⟩) hbs').trans hk2, tx_go hr1 hb, tx_go hr2 hb⟩
      have hi : (k : Int) < (n : Int) := by omega
      have hi0 : (0 : Int) ≤ (k : Int) := by omega
      clear hc hc' hb hk1 hk2 hr1 hr2 hx
      go_wp2
      go_region_held3 (fun w' => EQR w w' b (off + k) b' (off' + k) x ad cp ad' cp' ∧ w'.cell? ⟨b, off + k, none⟩ = some (.slice ad x.length cp) ∧ w'.cell? ⟨b', off' + k, none⟩ = some (.slice ad' x.length cp')) (first | assumption | exact eqr_all (eqr_drew XX.out) | exact eqr_all XX.out) (first | (go_at_call 46; refine (eq_strs _ _ x.length _ _ x _ rfl hnk (eqr_r1 (And.left (by assumption))) (eqr_r2 (And.left (by assumption)))).mono ?_; rintro e w2 ⟨rfl, hb2⟩; have X2 := hide (eqr_go (eqr_drew XX.out) hb2); replace XX := X2; clear X2 hb2))
      all_goals
        go_wp2
        go_roundw
        case rel => exact ⟨k + 1, by omega, by go_num, XX.out.1⟩
        case measure => simp [intOf]; omega
    · go_wp2
      go_ret
      exact ⟨rfl, hb⟩
end Go.Proofs.YtfbahffljhnjbaaGreatDoor

/-
  Contracts of the laws' helpers on tables: marks on all places, and that they stand.
-/
namespace Go.Proofs.YtfbahffljhnjbaaGreatDoor
open Go.RowKit Go.Joins
set_option linter.unusedVariables false
set_option linter.unusedSimpArgs false
theorem rrs_set {B i k c : Nat} {w w' : World} {cs : List Value} {M : List (List ByteArray)} {r : List ByteArray} {a : Option Addr} (h : RrS B w cs M) (hi : i < M.length) (hc : cs[i]? = some (.slice a k c)) (hk : r.length = k) (hown : w'.ownsRow B 9 1 (.slice a k c) k (r.map Value.string)) (hg : w.grownBy w' (Value.slice a k c).ownBlock) : RrS B w' cs (M.set i r) := by
  refine ⟨by rw [List.length_set]; exact h.1, fun j hj => ?_, h.2.2⟩
  rw [List.length_set] at hj
  by_cases e : j = i
  · subst e
    rw [List.getElem?_set_self hj]
    subst hk
    exact ⟨a, c, hc, hown⟩
  · rw [List.getElem?_set_ne (fun e2 => e e2.symm)]
    obtain ⟨a2, c2, h1, h2⟩ := h.2.1 j hj
    refine ⟨a2, c2, h1, own_keptB h2 hg (fun q hq e9 => ?_)⟩
    rcases Nat.lt_or_gt_of_ne e with hlt | hgt
    · exact h.2.2 j i _ _ hlt h1 hc q e9 hq
    · exact h.2.2 i j _ _ hgt hc h1 q hq e9
theorem tb_ne : (30 : TypeId) ≠ 9 := by decide
set_option maxRecDepth 100000 in
set_option maxHeartbeats 4000000 in
theorem l_markSS (B : Nat) (ad : Option Addr) (n c : Nat) (cs : List Value) (T : List (List ByteArray)) (w : World) (hX : T.length = n) (hn : n ≤ 1048576) (hz : offR T n ≤ 1048576) (hBw : B ≤ w.heap.size) (hown : w.ownsRow B 30 1 (.slice ad n c) n cs) (hr : RrS B w cs T) :
    Calls Tryz.prog 19 #[.slice ad n c, .int .i64 1] w fun e w' => e = .returned (.int .i64 (1 + offR T n : Nat)) ∧ ∃ M : List (List ByteArray), M.length = n ∧ (∀ j, j < n → M[j]?.getD [] = mkU (1 + offR T j) (T[j]?.getD []).length) ∧
      w'.ownsRow B 30 1 (.slice ad n c) n cs ∧ RrS B w' cs M ∧ Below B w w' := by
  have HX := hide hX
  have HZ := hide hz
  have HO := hide hown
  have HR := hide hr
  clear hown hr hX hz
  go_enter Tryz.func19, Tryz.ntmps19
  go_wp2
  go_loopw [1, 5] (fun k i wr => ∃ j : Nat, j ≤ n ∧ i = .int .i64 j ∧ k = .int .i64 ((1 + offR T j : Nat) : Int) ∧ Hid (∃ M : List (List ByteArray), M.length = n ∧ (∀ q, q < j → M[q]?.getD [] = mkU (1 + offR T q) (T[q]?.getD []).length) ∧ (∀ q, q < n → (M[q]?.getD []).length = (T[q]?.getD []).length) ∧ wr.ownsRow B 30 1 (.slice ad n c) n cs ∧ RrS B wr cs M ∧ Below B w wr)) (fun _ i _ => n - (intOf i).toNat)
  case atStart => exact ⟨0, Nat.zero_le _, rfl, rfl, T, HX.out, fun q h => absurd h (Nat.not_lt_zero q), fun q h => rfl, HO.out, HR.out, Below.refl _ _⟩
  case round =>
    obtain ⟨j, hj, rfl, rfl, HM⟩ := hrel
    by_cases hlt : j < n
    · have hji : (j : Int) < (n : Int) := by omega
      have hj0 : (0 : Int) ≤ (j : Int) := by omega
      obtain ⟨M, hM, hM1, hM2, ho, hrr, hb⟩ := HM.out
      obtain ⟨a, c2, h1, h2⟩ := hrr.2.1 j (by omega)
      have hlo := offR_le T (j + 1) n (by omega)
      rw [offR] at hlo
      have hzz := HZ.out
      have hl2 := hM2 j hlt
      obtain ⟨R, hR⟩ : ∃ R, M[j]?.getD [] = R := ⟨_, rfl⟩
      rw [hR] at h1 h2 hl2
      have hgg : ∃ g, ad = some ⟨g, 0, none⟩ ∧ wr.cell? ⟨g, j, none⟩ = some (.slice a R.length c2) := by
        rcases ho.2 with ⟨-, hz9⟩ | ⟨g, cap, cur, hv, -⟩
        · omega
        · simp only [Value.slice.injEq] at hv
          obtain ⟨rfl, -, rfl⟩ := hv
          have h9 := ho.cellAt j (by omega)
          exact ⟨g, rfl, h9.trans h1⟩
      obtain ⟨g, rfl, hcell⟩ := hgg
      have CM := hide (markK_any B a R.length c2 (1 + offR T j) R wr rfl (by omega) (by omega) (by omega) h2)
      have H1 := hide h1
      have H2 := hide h2
      have HL2 := hide hl2
      have HB := hide hb
      have HOO := hide ho
      have HRR := hide hrr
      have HM1 := hide hM1
      have HM2 := hide hM2
      have HMM := hide hM
      obtain ⟨O, hO⟩ : ∃ O, 1 + offR T j = O := ⟨_, rfl⟩
      have HOE := hide hO
      rw [hO] at CM ⊢
      clear h1 h2 hl2 hb ho hrr hM1 hM2 hM HM hlo hzz hR hO
      go_wp2_with fail
      refine CM.out.mono ?_
      rintro e w2 ⟨rfl, ho2, hg2⟩
      have HO2 := hide ho2
      have HG2 := hide hg2
      clear ho2 hg2
      go_wp2
      go_roundw
      case rel =>
        refine ⟨j + 1, by omega, by go_num, ?_, M.set j (mkU O R.length), ?_, fun q hq => ?_, fun q hq => ?_, ?_, ?_, ?_⟩
        · have h9 : O + R.length = 1 + offR T (j + 1) := by rw [offR, ← HOE.out, HL2.out]; omega
          exact congrArg (Value.int .i64) (by omega)
        · rw [List.length_set]; exact HMM.out
        · by_cases e : q = j
          · subst e
            rw [List.getElem?_set_self (by rw [HMM.out]; exact hlt), HL2.out, ← HOE.out]
            rfl
          · rw [List.getElem?_set_ne (fun e2 => e e2.symm)]
            exact HM1.out q (by omega)
        · by_cases e : q = j
          · subst e
            rw [List.getElem?_set_self (by rw [HMM.out]; exact hlt)]
            show (mkU O R.length).length = _
            rw [mkU_len]
            exact HL2.out
          · rw [List.getElem?_set_ne (fun e2 => e e2.symm)]
            exact HM2.out q hq
        · exact own_keptB HOO.out HG2.out (own_apart HOO.out H2.out tb_ne)
        · exact rrs_set HRR.out (by rw [HMM.out]; exact hlt) H1.out (mkU_len _ _) HO2.out HG2.out
        · exact HB.out.grown HG2.out (Nat.le_trans hBw HB.out.size) (fun k hk => (H2.out.lt k hk).1)
      case measure => simp [intOf]; omega
    · have hkn : j = n := by omega
      subst hkn
      go_wp2
      go_ret
      obtain ⟨M, hM, hM1, hM2, ho, hrr, hb⟩ := HM.out
      exact ⟨rfl, M, hM, hM1, ho, hrr, hb⟩
/-- While a row is held against its marks. -/
def HSR (w w' : World) (b o : Nat) (r : List ByteArray) (ad : Option Addr) (cp : Nat) : Prop := Below w.heap.size w w' ∧ b < w.heap.size ∧ w'.cell? ⟨b, o, none⟩ = some (.slice ad r.length cp) ∧ TxAt w' ad r w.heap.size
set_option maxRecDepth 100000 in
set_option maxHeartbeats 4000000 in
theorem l_heldSS (a : Option Addr) (n c : Nat) (M T : List (List ByteArray)) (w : World) (hX : M.length = n) (hn : n ≤ 1048576) (hz : offR T n ≤ 1048576) (hM : ∀ j, j < n → M[j]?.getD [] = mkU (1 + offR T j) (T[j]?.getD []).length) (hr : TabAt w a M w.heap.size) :
    Calls Tryz.prog 20 #[.slice a n c, .int .i64 1] w fun e w' => e = .returned (.int .i64 (1 + offR T n : Nat)) ∧ Below w.heap.size w w' := by
  have HX := hide hX
  have HZ := hide hz
  have HM := hide hM
  have HR := hide hr
  clear hr hM hX hz
  go_enter Tryz.func20, Tryz.ntmps20
  go_wp2
  go_loopw [1, 5] (fun k i wr => ∃ j : Nat, j ≤ n ∧ i = .int .i64 j ∧ k = .int .i64 ((1 + offR T j : Nat) : Int) ∧ Below w.heap.size w wr) (fun _ i _ => n - (intOf i).toNat)
  case atStart => exact ⟨0, Nat.zero_le _, rfl, rfl, Below.refl _ _⟩
  case round =>
    obtain ⟨j, hj, rfl, rfl, hb⟩ := hrel
    by_cases hlt : j < n
    · have hji : (j : Int) < (n : Int) := by omega
      have hj0 : (0 : Int) ≤ (j : Int) := by omega
      obtain ⟨b, off, rfl, hbs, hc⟩ := HR.out (fun e => by have := HX.out; rw [e] at this; simp at this; omega)
      obtain ⟨ad, cp, h1, h2⟩ := hc j (by rw [HX.out]; exact hlt)
      rw [HM.out j hlt] at h1 h2
      have hlo := offR_le T (j + 1) n (by omega)
      rw [offR] at hlo
      have hzz := HZ.out
      have k0 := (hb.cell (p := ⟨b, off + j, none⟩) hbs).trans h1
      rw [mkU_len] at k0
      have CM := hide (heldK ad (T[j]?.getD []).length cp (1 + offR T j) wr (by omega) (by omega) (by omega) (tx_up (tx_go h2 hb) hb.size))
      have HE : Hid (1 + offR T j + (T[j]?.getD []).length = 1 + offR T (j + 1)) := hide (by rw [offR]; omega)
      obtain ⟨O, hO⟩ : ∃ O, 1 + offR T j = O := ⟨_, rfl⟩
      obtain ⟨R, hR⟩ : ∃ R, (T[j]?.getD []).length = R := ⟨_, rfl⟩
      rw [hO, hR] at CM
      rw [hO, hR] at HE
      rw [hR] at k0
      rw [hO]
      have HB := hide hb
      clear hc hb h1 h2 hlo hzz hO hR
      go_wp2_with fail
      refine CM.out.mono ?_
      rintro e w2 ⟨rfl, hb2⟩
      have HB2 := hide (HB.out.trans (hb2.mono HB.out.size))
      clear hb2
      have hpos : ¬ ((O + R : Nat) : Int) < 0 := by omega
      rw [HE.out] at hpos ⊢
      go_wp2
      go_roundw
      case rel => exact ⟨j + 1, by omega, by go_num, rfl, HB2.out⟩
      case measure => simp [intOf]; omega
    · have hkn : j = n := by omega
      subst hkn
      go_wp2
      go_ret
      exact ⟨rfl, hb⟩
end Go.Proofs.YtfbahffljhnjbaaGreatDoor
