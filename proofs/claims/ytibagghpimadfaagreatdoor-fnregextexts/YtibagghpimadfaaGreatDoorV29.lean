/-
  Contracts of the program: a count's text; is a kind among some?
-/
import Derived.Test.YtibagghpimadfaaGreatDoorV28
import Derived.Test.YtibagghpimadfaaGreatDoorV26
import Derived.Lib.OthersKept
import Derived.Lib.SmallJoins
import Derived.Lib.AppendIntMem
namespace Go.Proofs.YtibagghpimadfaaGreatDoor
open Go.RowKit Go.Joins
set_option linter.unusedVariables false
set_option linter.unusedSimpArgs false
/-- The table of the powers of ten, as Go's own library lays it. -/
def PwT (w : World) : Prop := Lib.TabIs Tryz.prog w "internal/strconv.uint64pow10" .u64 Lib.pow10Tab
theorem pw_go {w w' : World} (h : PwT w) (hb : Below w.heap.size w w') : PwT w' := tab_stays (g := 2) (by kernel_rfl) h hb (Nat.le_refl _)
theorem i_fmt (n : Int) (w : World) (h0 : 0 ≤ n) (h1 : n ≤ 20) (hp : PwT w) : Calls Tryz.prog 48 #[.int .i64 n, .int .i64 10] w fun e w' => e = .returned (.string (itB n)) ∧ Below w.heap.size w w' := by
  refine (Tryz.strconv_FormatInt_10 n (by omega) (by omega) w hp).mono ?_
  rintro e w' ⟨rfl, k, os, rfl⟩
  exact ⟨rfl, Lib.below_grow _ _ (Nat.le_refl _) _ _⟩
set_option maxRecDepth 100000 in
set_option maxHeartbeats 8000000 in
theorem i_cnt (mn mx : Int) (w : World) (h : 0 ≤ mn ∧ mn ≤ 20 ∧ mx ≤ 20 ∧ -1 ≤ mx) (hp : PwT w) :
    Calls Tryz.prog 28 #[.int .i64 mn, .int .i64 mx] w fun e w' => e = .returned (.string (cnT mn mx)) ∧ Below w.heap.size w w' := by
  obtain ⟨h0, h1, h2, h3⟩ := h
  have HP := hide hp
  have CM := hide (i_fmt mn w h0 h1 hp)
  have z1 := itB_size h0 h1
  have HV : Hid (cnT mn mx = if mn = 0 ∧ mx = 1 then ⟨#[63]⟩ else if mn = 0 ∧ mx = -1 then ⟨#[42]⟩ else if mn = 1 ∧ mx = -1 then ⟨#[43]⟩ else
    if mn = mx then ⟨#[123]⟩ ++ itB mn ++ ⟨#[125]⟩ else if mx = -1 then ⟨#[123]⟩ ++ itB mn ++ ⟨#[44, 125]⟩ else ⟨#[123]⟩ ++ itB mn ++ ⟨#[44]⟩ ++ itB mx ++ ⟨#[125]⟩) := hide rfl
  clear hp
  by_cases p1 : mn = 0 ∧ mx = 1
  · obtain ⟨rfl, rfl⟩ := p1
    go_enter Tryz.func28, Tryz.ntmps28
    go_wp2
    go_ret
    exact ⟨rfl, Below.refl _ _⟩
  · by_cases p2 : mn = 0 ∧ mx = -1
    · obtain ⟨rfl, rfl⟩ := p2
      go_enter Tryz.func28, Tryz.ntmps28
      go_wp2
      go_ret
      exact ⟨rfl, Below.refl _ _⟩
    · by_cases p3 : mn = 1 ∧ mx = -1
      · obtain ⟨rfl, rfl⟩ := p3
        go_enter Tryz.func28, Tryz.ntmps28
        go_wp2
        go_ret
        exact ⟨rfl, Below.refl _ _⟩
      · rw [if_neg p1, if_neg p2, if_neg p3] at HV
        obtain ⟨D, hD⟩ : ∃ D, itB mn = D := ⟨_, rfl⟩
        have H1 : Hid ((mn == 0) = true → (mx == 1) = false) := hide (fun e => by rw [beq_iff_eq] at e; rw [beq_eq_false_iff_ne]; omega)
        have H2 : Hid ((mn == 0) = true → (mx == -1) = false) := hide (fun e => by rw [beq_iff_eq] at e; rw [beq_eq_false_iff_ne]; omega)
        have H3 : Hid ((mn == 1) = true → (mx == -1) = false) := hide (fun e => by rw [beq_iff_eq] at e; rw [beq_eq_false_iff_ne]; omega)
        clear p1 p2 p3
        by_cases p4 : mn = mx
        · rw [if_pos p4, hD] at HV
          rw [hD] at CM z1
          subst p4
          have hm1 : (mn == -1) = false := by rw [beq_eq_false_iff_ne]; omega
          have a1 : ¬ 9223372036854775807 < 1 + D.size := by omega
          have a2 : ¬ 9223372036854775807 < 1 + D.size + 1 := by omega
          clear hD
          have hc : ((mn == 0) = true ∧ (mn == 1) = false) ∨ ((mn == 0) = false ∧ (mn == 1) = true) ∨ ((mn == 0) = false ∧ (mn == 1) = false) := by
            by_cases h9 : mn = 0
            · subst h9; exact .inl ⟨by decide, by decide⟩
            · by_cases h8 : mn = 1
              · subst h8; exact .inr (.inl ⟨by decide, by decide⟩)
              · exact .inr (.inr ⟨by rw [beq_eq_false_iff_ne]; exact h9, by rw [beq_eq_false_iff_ne]; exact h8⟩)
          rcases hc with ⟨c0, c1⟩ | ⟨c0, c1⟩ | ⟨c0, c1⟩
          all_goals
            go_enter Tryz.func28, Tryz.ntmps28
            go_wp2_with (go_at_call 48; refine CM.out.mono ?_; rintro e w2 ⟨rfl, hb2⟩; have HB2 := hide hb2; clear hb2)
            go_ret
            exact ⟨ret_s9 HV.out.symm, HB2.out⟩
        · rw [if_neg p4] at HV
          have e4 : (mn == mx) = false := by rw [beq_eq_false_iff_ne]; exact p4
          by_cases p5 : mx = -1
          · rw [if_pos p5, hD] at HV
            rw [hD] at CM z1
            have e5 : (mx == -1) = true := by rw [beq_iff_eq]; exact p5
            have e6 : (mx == 1) = false := by rw [beq_eq_false_iff_ne]; omega
            have c0 : (mn == 0) = false := by
              cases c0 : (mn == 0)
              · rfl
              · exact absurd (e5.symm.trans (H2.out c0)) (by decide)
            have c1 : (mn == 1) = false := by
              cases c1 : (mn == 1)
              · rfl
              · exact absurd (e5.symm.trans (H3.out c1)) (by decide)
            have a1 : ¬ 9223372036854775807 < 1 + D.size := by omega
            have a2 : ¬ 9223372036854775807 < 1 + D.size + 2 := by omega
            clear hD p4 p5
            go_enter Tryz.func28, Tryz.ntmps28
            go_wp2_with (go_at_call 48; refine CM.out.mono ?_; rintro e w2 ⟨rfl, hb2⟩; have HB2 := hide hb2; clear hb2)
            go_ret
            exact ⟨ret_s9 HV.out.symm, HB2.out⟩
          · rw [if_neg p5, hD] at HV
            have CX : Hid (∀ w9, PwT w9 → Calls Tryz.prog 48 #[.int .i64 mx, .int .i64 10] w9 fun e w' => e = .returned (.string (itB mx)) ∧ Below w9.heap.size w9 w') := hide (fun w9 hp => i_fmt mx w9 (by omega) h2 hp)
            have z2 := itB_size (n := mx) (by omega) h2
            obtain ⟨E, hE⟩ : ∃ E, itB mx = E := ⟨_, rfl⟩
            rw [hE] at HV CX z2
            rw [hD] at CM z1
            have e5 : (mx == -1) = false := by rw [beq_eq_false_iff_ne]; exact p5
            have a1 : ¬ 9223372036854775807 < 1 + D.size := by omega
            have a2 : ¬ 9223372036854775807 < 1 + D.size + 1 := by omega
            have a3 : ¬ 9223372036854775807 < 1 + D.size + 1 + E.size := by omega
            have a4 : ¬ 9223372036854775807 < 1 + D.size + 1 + E.size + 1 := by omega
            clear hD hE p4 p5
            have hc : ((mn == 0) = true ∧ (mn == 1) = false ∧ (mx == 1) = false) ∨ ((mn == 0) = false ∧ (mn == 1) = true ∧ true = true) ∨ ((mn == 0) = false ∧ (mn == 1) = false ∧ true = true) := by
              by_cases h9 : mn = 0
              · exact .inl ⟨by rw [beq_iff_eq]; exact h9, by rw [beq_eq_false_iff_ne]; omega, H1.out (by rw [beq_iff_eq]; exact h9)⟩
              · by_cases h8 : mn = 1
                · exact .inr (.inl ⟨by rw [beq_eq_false_iff_ne]; omega, by rw [beq_iff_eq]; exact h8, rfl⟩)
                · exact .inr (.inr ⟨by rw [beq_eq_false_iff_ne]; exact h9, by rw [beq_eq_false_iff_ne]; exact h8, rfl⟩)
            rcases hc with ⟨c0, c1, c2⟩ | ⟨c0, c1, c2⟩ | ⟨c0, c1, c2⟩
            all_goals
              go_enter Tryz.func28, Tryz.ntmps28
              go_wp2_with (first | (go_at_call_of 48 (Value.int .i64 mn); refine CM.out.mono ?_; rintro e w2 ⟨rfl, hb2⟩; have HB2 := hide hb2; clear hb2) | (go_at_call_of 48 (Value.int .i64 mx); refine (CX.out _ (pw_go HP.out HB2.out)).mono ?_; rintro e w3 ⟨rfl, hb3⟩; have HB3 := hide (HB2.out.trans (hb3.mono HB2.out.size)); clear hb3))
              go_ret
              exact ⟨ret_s9 HV.out.symm, HB3.out⟩
/-- A row of kinds, in a block of its own, or none. -/
def KsAt (w : World) (v : Value) (ks : List Int) : Prop := (v = .slice none 0 0 ∧ ks = []) ∨ ∃ g T, v = .slice (some ⟨g, 0, none⟩) ks.length ks.length ∧ w.heap[g]? = some (.cells (ks.map (Value.int .i64)).toArray T (0, 0))
theorem ks_go {w w' : World} {v : Value} {ks : List Int} (h : KsAt w v ks) (k : Below w.heap.size w w') : KsAt w' v ks := by
  rcases h with h | ⟨g, T, e, h⟩
  · exact .inl h
  · exact .inr ⟨g, T, e, (k.block g (Array.getElem?_eq_some_iff.1 h).1).trans h⟩
set_option maxRecDepth 100000 in
set_option maxHeartbeats 4000000 in
theorem i_index (ks : List Int) (g n : Nat) (T : TypeId) (k : Int) (w : World) (hn : ks.length = n) (hl : n ≤ 3) (h : w.heap[g]? = some (.cells (ks.map (Value.int .i64)).toArray T (0, 0))) :
    Calls Tryz.prog 65 #[.slice (some ⟨g, 0, none⟩) n n, .int .i64 k] w fun e w' => (∃ r : Int, e = .returned (.int .i64 r) ∧ ((0 ≤ r) ↔ ks.contains k = true)) ∧ Below w.heap.size w w' := by
  have HN := hide hn
  have hc : ∀ j, j < n → w.cell? ⟨g, j, none⟩ = some (.int .i64 (ks[j]?.getD 0)) := fun j hj => by
    rw [cell_of_row w g j _ T (0, 0) h]
    simp [List.getElem?_eq_getElem (show j < ks.length by omega)]
  have HC := hide hc
  clear h hc hn
  go_enter Tryz.func65, Tryz.ntmps65
  go_wp2
  go_loop [8] (fun i => ∃ j : Nat, j ≤ n ∧ i = .int .i64 j ∧ Hid (∀ q, q < j → ks[q]?.getD 0 ≠ k)) (fun i => n - (intOf i).toNat)
  case atStart => exact ⟨0, Nat.zero_le _, rfl, fun q h => by omega⟩
  case round =>
    obtain ⟨j, hj, rfl, HA⟩ := hrel
    by_cases hlt : j < n
    · have hji : (j : Int) < n := by omega
      have c0 := HC.out j hlt
      obtain ⟨x, hx⟩ : ∃ x, ks[j]?.getD 0 = x := ⟨_, rfl⟩
      rw [hx] at c0
      by_cases he : k = x
      · have HY : Hid (ks.contains k = true) := hide (by
          rw [List.contains_iff_mem, he, ← hx, List.getElem?_eq_getElem (by have := HN.out; omega)]
          exact List.getElem_mem _)
        have heb : (k == x) = true := by rw [beq_iff_eq]; exact he
        have heb2 : (x == k) = true := by rw [beq_iff_eq]; exact he.symm
        clear hx he
        go_wp2
        go_ret
        exact ⟨⟨_, rfl, ⟨fun _ => by first | exact HY.out | (have := HY.out; simpa using this), fun _ => by omega⟩⟩, Below.refl _ _⟩
      · have heb : (k == x) = false := by rw [beq_eq_false_iff_ne]; exact he
        have heb2 : (x == k) = false := by rw [beq_eq_false_iff_ne]; exact fun e => he e.symm
        have HA2 : Hid (∀ q, q < j + 1 → ks[q]?.getD 0 ≠ k) := hide (fun q hq => by
          by_cases e : q = j
          · subst e; rw [hx]; exact fun e => he e.symm
          · exact HA.out q (by omega))
        clear hx he
        go_wp2
        go_round
        case rel => exact ⟨j + 1, by omega, by go_num, HA2⟩
        case measure => simp [intOf]; omega
    · have hjn : j = n := by omega
      subst hjn
      have HNO : Hid (¬ ks.contains k = true) := hide (fun h => by
        rw [List.contains_iff_mem] at h
        obtain ⟨q, hq, e⟩ := List.mem_iff_getElem.1 h
        exact HA.out q (by have := HN.out; omega) (by rw [List.getElem?_eq_getElem hq]; exact e))
      go_wp2
      go_ret
      exact ⟨⟨_, rfl, ⟨fun h => by omega, fun h => by first | exact absurd h HNO.out | exact absurd (List.contains_iff_mem.2 h) HNO.out⟩⟩, Below.refl _ _⟩
set_option maxHeartbeats 2000000 in
theorem i_among (ks : List Int) (v : Value) (k : Int) (w : World) (hl : ks.length ≤ 3) (h : KsAt w v ks) :
    Calls Tryz.prog 47 #[v, .int .i64 k] w fun e w' => e = .returned (.bool (ks.contains k)) ∧ Below w.heap.size w w' := by
  rcases h with ⟨rfl, rfl⟩ | ⟨g, T, rfl, h⟩
  · have C : Hid (Calls Tryz.prog 65 #[.slice none 0 0, .int .i64 k] w fun e w' => e = .returned (.int .i64 (-1)) ∧ w' = w) := hide (by
      go_enter Tryz.func65, Tryz.ntmps65
      go_wp2
      go_loop [8] (fun i => i = .int .i64 0) (fun _ => 0)
      case atStart => exact rfl
      case round =>
        subst hrel
        go_wp2
        go_ret
        exact ⟨rfl, rfl⟩)
    go_enter Tryz.func47, Tryz.ntmps47
    go_wp2_with (go_at_call 65; refine C.out.mono ?_; rintro e w9 ⟨rfl, h9⟩; rw [h9]; clear h9 w9)
    go_ret
    exact ⟨rfl, Below.refl _ _⟩
  · have C := hide (i_index ks g ks.length T k w rfl hl h)
    obtain ⟨n, hn⟩ : ∃ n, ks.length = n := ⟨_, rfl⟩
    rw [hn] at C ⊢
    clear h hn hl
    go_enter Tryz.func47, Tryz.ntmps47
    go_wp2_with fail
    refine C.out.mono ?_
    rintro e w2 ⟨⟨r, rfl, hr⟩, hb⟩
    have HB := hide hb
    clear hb
    by_cases h0 : 0 ≤ r
    · have HY := hide (hr.1 h0)
      have h0b : decide (0 ≤ r) = true := decide_eq_true h0
      clear hr
      go_wp2
      go_ret
      exact ⟨ret_bool HY.out.symm, HB.out⟩
    · have HY : Hid (ks.contains k = false) := hide (by
        cases hx : ks.contains k
        · rfl
        · exact absurd (hr.2 hx) h0)
      have h0b : decide (0 ≤ r) = false := decide_eq_false h0
      clear hr
      go_wp2
      go_ret
      exact ⟨ret_bool (by first | exact HY.out.symm | (rw [decide_eq_false h0]; exact HY.out.symm)), HB.out⟩
end Go.Proofs.YtibagghpimadfaaGreatDoor
