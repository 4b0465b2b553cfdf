/-
  Contracts of the laws' helpers on rows of names: that two that are alike are told so, marks on all places, and whether they are still there; a name among others.
-/
import Derived.Test.YtdfcpgdfmhicoaaDoorDocAt
import Derived.Test.YtdfcpgdfmhicoaaDoorGen
import Derived.Test.YtdfcpgdfmhicoaaDoorMkRow
namespace Go.Proofs.YtdfcpgdfmhicoaaDoor
open Go.RowKit Go.Joins
set_option linter.unusedVariables false
set_option linter.unusedSimpArgs false
/-- A row of pairs of texts that the call owns. -/
def OwnQ (B : Nat) (w : World) (ad : Option Addr) (m c : Nat) (N V : Nat → ByteArray) : Prop := ∃ xs, w.ownsRow B 73 2 (.slice ad m c) m xs ∧ PairsS xs m N V
section
variable {B m c : Nat} {w w' : World} {ad : Option Addr} {N V : Nat → ByteArray}
theorem ownQ_at (h : OwnQ B w ad m c N V) : AtAt w ad m N V w.heap.size := fun h0 => by
  obtain ⟨xs, h, hp⟩ := h
  rcases h.2 with ⟨hv, h9⟩ | ⟨g, cap, cur, hv, hB, hg, rest⟩
  · omega
  · simp only [Value.slice.injEq] at hv
    obtain ⟨rfl, _, rfl⟩ := hv
    refine ⟨g, 0, rfl, (h.lt g rfl).2, fun j hj => ⟨?_, ?_⟩⟩
    · rw [Nat.zero_add, h.cellAt (j * 2) (by omega)]; exact (hp j hj).1
    · rw [Nat.zero_add, h.cellAt (j * 2 + 1) (by omega)]; exact (hp j hj).2
theorem ownQ_go (h : OwnQ B w ad m c N V) (hb : Below w.heap.size w w') : OwnQ B w' ad m c N V := by
  obtain ⟨xs, h, hp⟩ := h
  exact ⟨xs, gOwn_after h hb, hp⟩
theorem ownQ_lt (h : OwnQ B w ad m c N V) : ∀ k, (Value.slice ad m c).ownBlock = some k → B ≤ k ∧ k < w.heap.size := by
  obtain ⟨xs, h, hp⟩ := h
  exact h.lt
theorem ownQ_lower {B' : Nat} (h : OwnQ B w ad m c N V) (hB : B' ≤ B) : OwnQ B' w ad m c N V := by
  obtain ⟨xs, h, hp⟩ := h
  exact ⟨xs, gOwn_lower h hB, hp⟩
theorem ownQ_none (B : Nat) (w : World) (N V : Nat → ByteArray) : OwnQ B w none 0 0 N V := ⟨[], ⟨rfl, .inl ⟨rfl, rfl⟩⟩, fun j h => by omega⟩
theorem ownQ_stays {X : Nat} (h : OwnQ B w ad m c N V) (hb : Below X w w') (hX : ∀ k, (Value.slice ad m c).ownBlock = some k → k < X) : OwnQ B w' ad m c N V := by
  obtain ⟨xs, h, hp⟩ := h
  refine ⟨xs, ⟨h.1, ?_⟩, hp⟩
  rcases h.2 with hn | ⟨g, cap, cur, hv, hB, hg, rest⟩
  · exact .inl hn
  · refine .inr ⟨g, cap, cur, hv, hB, ?_, rest⟩
    rw [hb.block g (hX g (by rw [hv]; rfl))]; exact hg
theorem ownQ_chg {lo hi : Nat} (h : OwnQ B w ad m c N V) (k : Chg lo hi w w') (hX : ∀ j, (Value.slice ad m c).ownBlock = some j → j < lo ∨ hi ≤ j) : OwnQ B w' ad m c N V := by
  obtain ⟨xs, h, hp⟩ := h
  refine ⟨xs, ⟨h.1, ?_⟩, hp⟩
  rcases h.2 with hn | ⟨g, cap, cur, hv, hB, hg, rest⟩
  · exact .inl hn
  · refine .inr ⟨g, cap, cur, hv, hB, ?_, rest⟩
    rw [k.block g (Array.getElem?_eq_some_iff.1 hg).1 (hX g (by rw [hv]; rfl))]; exact hg
end
theorem l_eqQ (x y : ByteArray) (w : World) : Calls Tryd.prog 57 #[.agg #[.string x, .string y], .agg #[.string x, .string y]] w fun e w' => e = .returned (.bool true) ∧ Below w.heap.size w w' := by
  go_enter Tryd.func57, Tryd.ntmps57
  go_wp2
  go_ret
  exact ⟨rfl, ((Below.refl _ _).alloc (Nat.le_refl _) _).alloc (by simp) _⟩
set_option maxHeartbeats 1000000 in
theorem l_eqQs (a1 a2 : Option Addr) (n c1 c2 : Nat) (N V : Nat → ByteArray) (w : World) (hn : n ≤ 1048576) (h1 : AtAt w a1 n N V w.heap.size) (h2 : AtAt w a2 n N V w.heap.size) :
    Calls Tryd.prog 26 #[.slice a1 n c1, .slice a2 n c2] w fun e w' => e = .returned (.bool true) ∧ Below w.heap.size w w' := by
  have H1 := hide h1
  have H2 := hide h2
  clear h1 h2
  go_enter Tryd.func26, Tryd.ntmps26
  go_wp2
  go_loopw [5] (fun i wr => ∃ k : Nat, k ≤ n ∧ i = .int .i64 k ∧ Below w.heap.size w wr) (fun i _ => n - (intOf i).toNat)
  case atStart => exact ⟨0, Nat.zero_le _, rfl, Below.refl _ _⟩
  case round =>
    obtain ⟨k, hk, rfl, hb⟩ := hrel
    by_cases hlt : k < n
    · obtain ⟨b, off, rfl, hbs, hc⟩ := H1.out (by omega)
      obtain ⟨b', off', rfl, hbs', hc'⟩ := H2.out (by omega)
      have X : Hid (EQA w wr ⟨b, off + k * 2, none⟩ ⟨b', off' + k * 2, none⟩ (N k) (V k)) := ⟨hb, ⟨hbs, hbs'⟩, ⟨(hb.cell hbs).trans (hc k hlt).1, (hb.cell (p := ⟨b, off + k * 2 + 1, none⟩) hbs).trans (hc k hlt).2⟩, ⟨(hb.cell hbs').trans (hc' k hlt).1, (hb.cell (p := ⟨b', off' + k * 2 + 1, none⟩) hbs').trans (hc' k hlt).2⟩⟩
      have hi : (k : Int) < (n : Int) := by omega
      have hi0 : (0 : Int) ≤ (k : Int) := by omega
      clear hc hc' hb
      go_wp2
      go_region_held3 (fun w' => EQA w w' ⟨b, off + k * 2, none⟩ ⟨b', off' + k * 2, none⟩ (N k) (V k) ∧ w'.cell? ⟨b, off + k * 2, none⟩ = some (.string (N k)) ∧ w'.cell? ⟨b, off + k * 2 + 1, none⟩ = some (.string (V k)) ∧ w'.cell? ⟨b', off' + k * 2, none⟩ = some (.string (N k)) ∧ w'.cell? ⟨b', off' + k * 2 + 1, none⟩ = some (.string (V k))) (first | assumption | exact eqa_all (eqa_drew X.out) | exact eqa_all X.out) (first | (go_at_call 57; refine (l_eqQ _ _ _).mono ?_; rintro e w2 ⟨rfl, hb2⟩; have X2 := hide (eqa_go (eqa_drew X.out) hb2); replace X := X2; clear X2 hb2))
      all_goals
        go_wp2
        go_roundw
        case rel => exact ⟨k + 1, by omega, by go_num, X.out.1⟩
        case measure => simp [intOf]; omega
    · go_wp2
      go_ret
      exact ⟨rfl, hb⟩
/-- The digits of a number. -/
def mtT (x : Nat) : ByteArray := if h : 0 < x then mtT (x / 10) ++ strOfNums [48 + (x : Int) % 10] else ⟨#[]⟩
termination_by x
theorem mtT_pos {x : Nat} (h : 0 < x) : mtT x = mtT (x / 10) ++ strOfNums [48 + (x : Int) % 10] := by rw [mtT, dif_pos h]
theorem mtT_zero : mtT 0 = ⟨#[]⟩ := by rw [mtT, dif_neg (by omega)]
def mkT (k : Nat) : ByteArray := ⟨#[109]⟩ ++ mtT k
set_option maxHeartbeats 1000000 in
theorem l_mtF (k : Nat) (w : World) (h0 : 1 ≤ k) (h1 : k ≤ 1099511627776) : Calls Tryd.prog 45 #[.int .i64 k] w fun e w' => e = .returned (.string (mkT k)) ∧ Below w.heap.size w w' := by
  obtain ⟨T, hT⟩ : ∃ T, mtT k = T := ⟨_, rfl⟩
  have HT := hide hT
  clear hT
  have hk0 : (0 : Int) < k := by omega
  go_enter Tryd.func45, Tryd.ntmps45
  go_wp2
  go_loopw [0, 3] (fun kv sv wr => ∃ (x : Nat) (s : ByteArray), kv = .int .i64 x ∧ sv = .string s ∧ s.size + x ≤ k ∧ Hid (mtT x ++ s = T) ∧ Below w.heap.size w wr) (fun kv _ _ => (intOf kv).toNat)
  case atStart => exact ⟨k, ⟨#[]⟩, rfl, rfl, by show 0 + k ≤ k; omega, hide (by rw [HT.out]; exact ByteArray.append_empty), Below.refl _ _⟩
  case round =>
    obtain ⟨x, s, rfl, rfl, hx1, HM, hb⟩ := hrel
    by_cases hx : 0 < x
    · have hx' : (0 : Int) < x := by omega
      have hcv := conv_new wr [48 + (x : Int) % 10]
      have hos := one_size (48 + (x : Int) % 10)
      obtain ⟨o, ho⟩ : ∃ o, strOfNums [48 + (x : Int) % 10] = o := ⟨_, rfl⟩
      have HM2 : Hid (mtT (x / 10) ++ (o ++ s) = T) := hide (by rw [← HM.out, mtT_pos hx, ho, ByteArray.append_assoc])
      rw [ho] at hcv hos
      simp only [List.map_cons, List.map_nil, List.length_cons, List.length_nil, Nat.zero_add] at hcv
      have hS1 : ¬ 9223372036854775807 < o.size + s.size := by omega
      have HOS := hide hos
      have HB := hide hb
      clear ho hos hb
      go_wp2
      go_roundw
      case rel => exact ⟨x / 10, o ++ s, by simp, rfl, by rw [ByteArray.size_append, HOS.out]; omega, HM2, HB.out.alloc HB.out.size _⟩
      case measure => simp [intOf]; omega
    · have hx0 : x = 0 := by omega
      subst hx0
      have HM2 : Hid (s = T) := hide (by rw [← HM.out, mtT_zero]; exact ByteArray.empty_append.symm)
      have hS1 : ¬ 9223372036854775807 < 1 + s.size := by omega
      go_wp2
      go_ret
      exact ⟨by rw [mkT, HT.out, ← HM2.out]; rfl, hb⟩
def mkN (k : Nat) (j : Nat) : ByteArray := mkT (k + 2 * j)
def mkV (k : Nat) (j : Nat) : ByteArray := mkT (k + 2 * j + 1)
set_option maxHeartbeats 2000000 in
theorem l_markQs (B : Nat) (ad : Option Addr) (n c : Nat) (N V : Nat → ByteArray) (w : World) (hn : n ≤ 1048576) (ho : OwnQ B w ad n c N V) :
    Calls Tryd.prog 27 #[.slice ad n c, .int .i64 1] w fun e w' => e = .returned (.int .i64 (1 + 2 * n)) ∧ OwnQ B w' ad n c (mkN 1) (mkV 1) ∧ Below B w w' := by
  by_cases h0 : n = 0
  · subst h0
    have HO := hide ho
    clear ho
    go_enter Tryd.func27, Tryd.ntmps27
    go_wp2
    go_loop [1, 5] (fun k i => k = .int .i64 1 ∧ i = .int .i64 0) (fun _ _ => 0)
    case atStart => exact ⟨rfl, rfl⟩
    case round =>
      obtain ⟨rfl, rfl⟩ := hrel
      go_wp2
      go_ret
      obtain ⟨xs, h1, h2⟩ := HO.out
      exact ⟨rfl, ⟨xs, h1, fun j hj => by omega⟩, Below.refl _ _⟩
  · obtain ⟨xs, hown, hp⟩ := ho
    obtain ⟨g, hag, hBg⟩ : ∃ g, ad = some ⟨g, 0, none⟩ ∧ B ≤ g := by
      rcases hown.2 with ⟨hv, h9⟩ | ⟨g, cap, cur, hv, hB, hg, rest⟩
      · exact absurd h9 h0
      · simp only [Value.slice.injEq] at hv
        exact ⟨g, hv.1, hB⟩
    subst hag
    have HO := hide hown
    clear hown hp
    go_enter Tryd.func27, Tryd.ntmps27
    go_wp2
    go_loopw [1, 5] (fun k i wr => ∃ j : Nat, j ≤ n ∧ i = .int .i64 j ∧ k = .int .i64 ((1 + 2 * j : Nat) : Int) ∧ (∃ ys, wr.ownsRow B 73 2 (.slice (some ⟨g, 0, none⟩) n c) n ys ∧ PairsS ys j (mkN 1) (mkV 1)) ∧ Below B w wr) (fun _ i _ => n - (intOf i).toNat)
    case atStart => exact ⟨0, Nat.zero_le _, rfl, rfl, ⟨_, HO.out, fun j hj => by omega⟩, Below.refl _ _⟩
    case round =>
      obtain ⟨j, hj, rfl, rfl, ⟨ys, hown, hp⟩, hb⟩ := hrel
      have HP := hide hp
      have HW := hide hown
      have HB := hide hb
      clear hp hown hb
      by_cases hlt : j < n
      · have hmi : (j : Int) < (n : Int) := by omega
        go_wp2_with fail
        refine (l_mtF (1 + 2 * j) _ (by omega) (by omega)).mono ?_
        rintro e w2 ⟨rfl, hb2⟩
        have HW2 := hide (gOwn_after HW.out hb2)
        have HB2 := hide (HB.out.trans ((hb2.mono (Nat.le_trans hBg (Nat.le_of_lt (HW.out.lt g rfl).2)))))
        have hf0 := HW2.out.frozenAt (j * 2)
        obtain ⟨v0, hv0⟩ : ∃ v, w2.cell? ⟨g, j * 2, none⟩ = some v := by
          rw [HW2.out.cellAt (j * 2) (by omega)]
          exact ⟨_, List.getElem?_eq_getElem (by rw [HW2.out.1]; omega)⟩
        clear hb2
        go_wp2_with fail
        refine (l_mtF (1 + 2 * j + 1) _ (by omega) (by omega)).mono ?_
        rintro e w3 ⟨rfl, hb3⟩
        have HW3 := hide (gOwn_after (HW2.out.stored (j * 2) (.string (mkT (1 + 2 * j)))).1 hb3)
        have HB3 := hide ((HB2.out.setCell (p := ⟨g, j * 2, none⟩) hBg (.string (mkT (1 + 2 * j)))).trans (hb3.mono (Nat.le_trans hBg (Nat.le_of_lt (by rw [heap_setCell_size]; exact (HW2.out.lt g rfl).2)))))
        have hf1 := HW3.out.frozenAt (j * 2 + 1)
        obtain ⟨v1, hv1⟩ : ∃ v, w3.cell? ⟨g, j * 2 + 1, none⟩ = some v := by
          rw [HW3.out.cellAt (j * 2 + 1) (by omega)]
          exact ⟨_, List.getElem?_eq_getElem (by rw [HW3.out.1]; omega)⟩
        clear hb3 hf0 hv0
        go_wp2
        go_roundw
        case rel => exact ⟨j + 1, by omega, by go_num, by go_num, ⟨_, (HW3.out.stored (j * 2 + 1) (.string (mkT (1 + 2 * j + 1)))).1, pairsS_step (N := mkN 1) (V := mkV 1) HP.out hlt HW.out.1⟩, HB3.out.setCell (p := ⟨g, j * 2 + 1, none⟩) hBg _⟩
        case measure => simp [intOf]; omega
      · have hjn : j = n := by omega
        subst hjn
        go_wp2
        go_ret
        exact ⟨ret_iI (by omega), ⟨ys, HW.out, HP.out⟩, HB.out⟩
/-- While a place is held against its mark. -/
def HQ (w w' : World) (p : Addr) (x : ByteArray) : Prop := Below w.heap.size w w' ∧ p.block < w.heap.size ∧ w'.cell? p = some (.string x)
theorem hq_go {w w1 w2 : World} {p : Addr} {x : ByteArray} (h : HQ w w1 p x) (k : Below w1.heap.size w1 w2) : HQ w w2 p x :=
  ⟨h.1.trans (k.mono h.1.size), h.2.1, (k.cell (p := p) (Nat.lt_of_lt_of_le h.2.1 h.1.size)).trans h.2.2⟩
theorem hq_drew {w w1 : World} {p : Addr} {x : ByteArray} (h : HQ w w1 p x) : HQ w w1.drew p x := hq_go h ⟨rfl, rfl, rfl, Nat.le_refl _, fun _ _ => rfl⟩
theorem hq_all {w w1 : World} {p : Addr} {x : ByteArray} (h : HQ w w1 p x) : HQ w w1 p x ∧ w1.cell? p = some (.string x) := ⟨h, h.2.2⟩
set_option maxHeartbeats 2000000 in
theorem l_heldQs (a : Option Addr) (n c : Nat) (w : World) (hn : n ≤ 1048576) (hr : AtAt w a n (mkN 1) (mkV 1) w.heap.size) :
    Calls Tryd.prog 28 #[.slice a n c, .int .i64 1] w fun e w' => e = .returned (.int .i64 (1 + 2 * n)) ∧ Below w.heap.size w w' := by
  have HR := hide hr
  clear hr
  go_enter Tryd.func28, Tryd.ntmps28
  go_wp2
  go_loopw [1, 5] (fun k i wr => ∃ j : Nat, j ≤ n ∧ i = .int .i64 j ∧ k = .int .i64 ((1 + 2 * j : Nat) : Int) ∧ Below w.heap.size w wr) (fun _ i _ => n - (intOf i).toNat)
  case atStart => exact ⟨0, Nat.zero_le _, rfl, rfl, Below.refl _ _⟩
  case round =>
    obtain ⟨j, hj, rfl, rfl, hb⟩ := hrel
    by_cases hlt : j < n
    · obtain ⟨b, off, rfl, hbs, hc⟩ := HR.out (by omega)
      have hmi : (j : Int) < (n : Int) := by omega
      have hi0 : (0 : Int) ≤ (j : Int) := by omega
      have HC2 : Hid (w.cell? ⟨b, off + j * 2 + 1, none⟩ = some (.string (mkT (1 + 2 * j + 1)))) := hide (hc j hlt).2
      have X : Hid (HQ w wr ⟨b, off + j * 2, none⟩ (mkT (1 + 2 * j))) := ⟨hb, hbs, (hb.cell hbs).trans (hc j hlt).1⟩
      clear hc hb
      go_wp2
      go_region_held3 (fun w' => HQ w w' ⟨b, off + j * 2, none⟩ (mkT (1 + 2 * j)) ∧ w'.cell? ⟨b, off + j * 2, none⟩ = some (.string (mkT (1 + 2 * j)))) (first | assumption | exact hq_all (hq_drew X.out) | exact hq_all X.out) (first | (go_at_call 45; refine (l_mtF (1 + 2 * j) _ (by omega) (by omega)).mono ?_; rintro e w2 ⟨rfl, hb2⟩; have X2 := hide (hq_go (hq_drew X.out) hb2); replace X := X2; clear X2 hb2))
      all_goals
        go_wp2
        have Y : Hid (HQ w _ ⟨b, off + j * 2 + 1, none⟩ (mkT (1 + 2 * j + 1))) := ⟨X.out.1, hbs, (X.out.1.cell (p := ⟨b, off + j * 2 + 1, none⟩) hbs).trans HC2.out⟩
        clear X
        go_region_held3 (fun w' => HQ w w' ⟨b, off + j * 2 + 1, none⟩ (mkT (1 + 2 * j + 1)) ∧ w'.cell? ⟨b, off + j * 2 + 1, none⟩ = some (.string (mkT (1 + 2 * j + 1)))) (first | assumption | exact hq_all (hq_drew Y.out) | exact hq_all Y.out) (first | (go_at_call 45; refine (l_mtF (1 + 2 * j + 1) _ (by omega) (by omega)).mono ?_; rintro e w2 ⟨rfl, hb2⟩; have X2 := hide (hq_go (hq_drew Y.out) hb2); replace Y := X2; clear X2 hb2))
        all_goals
          go_wp2
          go_roundw
          case rel => exact ⟨j + 1, by omega, by go_num, by go_num, Y.out.1⟩
          case measure => simp [intOf]; omega
    · have hjn : j = n := by omega
      subst hjn
      go_wp2
      go_ret
      exact ⟨ret_iI (by omega), hb⟩
theorem below_dq {b : Nat} {w w1 : World} (h : Below b w w1) : Below b w w1.drew := ⟨h.os, h.tape, h.output, h.size, h.block⟩
/-- A pair of texts among those of a row. -/
def anyQ (m : Nat) (N V : Nat → ByteArray) (x y : ByteArray) : Bool := (List.range m).any fun k => sameS x (N k) && sameS y (V k)
theorem anyQ_hit {m k : Nat} {N V : Nat → ByteArray} {x y : ByteArray} (hk : k < m) (h : (sameS x (N k) && sameS y (V k)) = true) : anyQ m N V x y = true := by
  unfold anyQ
  rw [List.any_eq_true]
  exact ⟨k, by simpa using hk, h⟩
theorem anyQ_no {m : Nat} {N V : Nat → ByteArray} {x y : ByteArray} (h : ∀ k, k < m → (sameS x (N k) && sameS y (V k)) = false) : anyQ m N V x y = false := by
  unfold anyQ
  rw [List.any_eq_false]
  intro k hk
  have := h k (by simpa using hk)
  rw [this]
  decide
set_option maxHeartbeats 2000000 in
theorem i_indexQ (a : Option Addr) (n c : Nat) (N V : Nat → ByteArray) (x y : ByteArray) (w : World) (hn : n ≤ 1048576) (hr : AtAt w a n N V w.heap.size) :
    Calls Tryd.prog 84 #[.slice a n c, .agg #[.string x, .string y]] w fun e w' => ∃ z : Int, e = .returned (.int .i64 z) ∧ decide (0 ≤ z) = anyQ n N V x y ∧ Below w.heap.size w w' := by
  have HR := hide hr
  clear hr
  go_enter Tryd.func84, Tryd.ntmps84
  go_wp2
  go_loopw [8] (fun i wr => ∃ k : Nat, k ≤ n ∧ i = .int .i64 k ∧ Hid (Below (w.heap.size + 1) (w.alloc (.cells #[.string x, .string y] 73)) wr) ∧ Hid (∀ j, j < k → (sameS x (N j) && sameS y (V j)) = false)) (fun i _ => n - (intOf i).toNat)
  case atStart => exact ⟨0, Nat.zero_le _, rfl, hide (Below.refl _ _), fun j h => by omega⟩
  case round =>
    obtain ⟨k, hk, rfl, HB, HM⟩ := hrel
    have HBw := hide (((Below.refl w.heap.size w).alloc (Nat.le_refl _) _).trans (HB.out.mono (Nat.le_succ _)))
    by_cases hlt : k < n
    · obtain ⟨b, off, rfl, hbs, hc⟩ := HR.out (by omega)
      have c0 : wr.cell? ⟨b, off + k * 2, none⟩ = some (.string (N k)) := (HBw.out.cell hbs).trans (hc k hlt).1
      have c1 : wr.cell? ⟨b, off + k * 2 + 1, none⟩ = some (.string (V k)) := (HBw.out.cell hbs).trans (hc k hlt).2
      have hx := cellsAt_go (cellsAt_new w #[.string x, .string y] 73) HB.out (by omega)
      have x0 : wr.cell? ⟨w.heap.size, 0, none⟩ = some (.string x) := cellsAt_cell hx 0
      have x1 : wr.cell? ⟨w.heap.size, 1, none⟩ = some (.string y) := cellsAt_cell hx 1
      have hi : (k : Int) < (n : Int) := by omega
      have hi0 : (0 : Int) ≤ (k : Int) := by omega
      clear hc hx
      by_cases e1 : x.toList = (N k).toList
      · by_cases e2 : y.toList = (V k).toList
        · have HA := hide (anyQ_hit (m := n) (k := k) (N := N) (V := V) (x := x) (y := y) hlt (by unfold sameS; rw [e1, e2]; simp))
          go_wp2
          go_region
          go_wp2
          go_ret
          exact ⟨k, rfl, by rw [HA.out]; simp, below_dq HBw.out⟩
        · have HE : Hid ((sameS x (N k) && sameS y (V k)) = false) := hide (by unfold sameS; rw [beq_eq_false_iff_ne.2 e2]; simp)
          go_wp2
          go_region
          go_wp2
          go_roundw
          case rel =>
            refine ⟨k + 1, by omega, by go_num, hide (below_dq HB.out), fun j hj => ?_⟩
            by_cases e : j = k
            · subst e; exact HE.out
            · exact HM.out j (by omega)
          case measure => simp [intOf]; omega
      · have HE : Hid ((sameS x (N k) && sameS y (V k)) = false) := hide (by unfold sameS; rw [beq_eq_false_iff_ne.2 e1]; simp)
        go_wp2
        go_region
        go_wp2
        go_roundw
        case rel =>
          refine ⟨k + 1, by omega, by go_num, hide (below_dq HB.out), fun j hj => ?_⟩
          by_cases e : j = k
          · subst e; exact HE.out
          · exact HM.out j (by omega)
        case measure => simp [intOf]; omega
    · have hkn : k = n := by omega
      subst hkn
      go_wp2
      go_ret
      exact ⟨-1, rfl, by rw [anyQ_no HM.out]; rfl, HBw.out⟩
set_option maxHeartbeats 1000000 in
theorem i_hasQ (a : Option Addr) (n c : Nat) (N V : Nat → ByteArray) (x y : ByteArray) (w : World) (hn : n ≤ 1048576) (hr : AtAt w a n N V w.heap.size) :
    Calls Tryd.prog 72 #[.slice a n c, .agg #[.string x, .string y]] w fun e w' => e = .returned (.bool (anyQ n N V x y)) ∧ Below w.heap.size w w' := by
  have C := hide (i_indexQ a n c N V x y _ hn (atAt_up (atAt_go hr ((Below.refl _ _).alloc (Nat.le_refl _) (.cells #[.string x, .string y] 73))) (by simp)))
  clear hr
  go_enter Tryd.func72, Tryd.ntmps72
  go_wp2_with fail
  refine C.out.mono ?_
  rintro e w2 ⟨z, rfl, hz, hb⟩
  have HZ := hide hz
  have HB := hide (gBox_below hb)
  clear hz hb
  go_wp2
  go_ret
  exact ⟨ret_bool HZ.out, HB.out⟩
end Go.Proofs.YtdfcpgdfmhicoaaDoor
