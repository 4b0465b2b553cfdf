/-
  Contracts of the laws' helpers on rows of texts: marks on all places, and that they stand.
-/
import Derived.Test.YtlhdfaoehamehaaStS
namespace Go.Proofs.Ytlhdfaoehamehaa
open Go.RowKit Go.Joins
set_option linter.unusedVariables false
set_option linter.unusedSimpArgs false
theorem mkS_step (xs : List ByteArray) (n j : Nat) (hn : xs.length = n) (hj : j < n) :
    ((mkUp 1 j ++ xs.drop j).map Value.string).set j (.string (mkT ((1 + j : Nat) : Int))) = (mkUp 1 (j + 1) ++ xs.drop (j + 1)).map Value.string := by
  rw [List.map_append, List.set_append_right _ _ (by rw [List.length_map, mkUp_len]; exact Nat.le_refl _), List.length_map, mkUp_len, Nat.sub_self]
  have hd : xs.drop j = xs[j]'(by omega) :: xs.drop (j + 1) := List.drop_eq_getElem_cons (by omega)
  rw [hd, List.map_cons, List.set_cons_zero, mkUp, List.map_append, List.map_append, List.append_assoc]
  rfl
set_option maxHeartbeats 1000000 in
theorem markS_none (a : Option Addr) (c : Nat) (w : World) :
    Calls Try.prog 18 #[.slice a 0 c, .int .i64 1] w fun e w' => e = .returned (.int .i64 1) ∧ w' = w := by
  go_enter Try.func18, Try.ntmps18
  go_wp2
  go_loop [1, 5] (fun k i => k = .int .i64 1 ∧ i = .int .i64 0) (fun _ _ => 0)
  case atStart => exact ⟨rfl, rfl⟩
  case round =>
    obtain ⟨rfl, rfl⟩ := hrel
    go_wp2
    go_ret
    exact ⟨rfl, rfl⟩
set_option maxHeartbeats 2000000 in
theorem mark_strs (B g n c : Nat) (xs : List ByteArray) (w : World) (hx : xs.length = n) (hn : n ≤ 1048576) (hBg : B ≤ g) (hBw : B ≤ w.heap.size) (hown : w.ownsRow B 9 1 (.slice (some ⟨g, 0, none⟩) n c) n (xs.map Value.string)) :
    Calls Try.prog 18 #[.slice (some ⟨g, 0, none⟩) n c, .int .i64 1] w fun e w' => e = .returned (.int .i64 (1 + n)) ∧
      w'.ownsRow B 9 1 (.slice (some ⟨g, 0, none⟩) n c) n ((mkUp 1 n).map Value.string) ∧ Below B w w' := by
  have HX := hide hx
  have H0 : w.ownsRow B 9 1 (.slice (some ⟨g, 0, none⟩) n c) n ((mkUp 1 0 ++ xs.drop 0).map Value.string) := by simpa [mkUp] using hown
  have HO := hide H0
  clear hown H0 hx
  go_enter Try.func18, Try.ntmps18
  go_wp2
  go_loopw [1, 5] (fun k i wr => ∃ j : Nat, j ≤ n ∧ i = .int .i64 j ∧ k = .int .i64 ((1 + j : Nat) : Int) ∧ wr.ownsRow B 9 1 (.slice (some ⟨g, 0, none⟩) n c) n ((mkUp 1 j ++ xs.drop j).map Value.string) ∧ Below B w wr) (fun _ i _ => n - (intOf i).toNat)
  case atStart => exact ⟨0, Nat.zero_le _, rfl, rfl, HO.out, Below.refl _ _⟩
  case round =>
    obtain ⟨j, hj, rfl, rfl, hown, hb⟩ := hrel
    by_cases hlt : j < n
    · have hji : (j : Int) < (n : Int) := by omega
      have HB := hide hb
      have HO1 := hide hown
      clear hown hb
      go_wp2_with fail
      refine (l_mtV _ _ (by omega) (by omega)).mono ?_
      rintro e w2 ⟨rfl, hb2⟩
      have hown2 := gOwn_after HO1.out hb2
      have hst := hide (hown2.stored j (.string (mkT ((1 + j : Nat) : Int))))
      have hfr := hown2.frozenAt j
      have hcc : ∃ v, w2.cell? ⟨g, j, none⟩ = some v := by
        rw [hown2.cellAt j (by omega)]
        have hl : j < ((mkUp 1 j ++ xs.drop j).map Value.string).length := by have := HX.out; rw [List.length_map, List.length_append, mkUp_len, List.length_drop]; omega
        exact ⟨_, List.getElem?_eq_getElem hl⟩
      obtain ⟨v0, hcv⟩ := hcc
      have HB2 := hide (HB.out.trans (hb2.mono (Nat.le_trans hBw HB.out.size)))
      clear hown2 hb2
      go_wp2
      go_roundw
      case rel =>
        refine ⟨j + 1, by omega, by go_num, by go_num, ?_, HB2.out.setCell hBg _⟩
        rw [← mkS_step xs n j HX.out hlt]
        exact hst.out.1
      case measure => simp [intOf]; omega
    · have hkn : j = n := by omega
      subst hkn
      have hfull : mkUp 1 j ++ xs.drop j = mkUp 1 j := by have := HX.out; subst this; simp
      rw [hfull] at hown
      have HO2 := hide hown
      have HB := hide hb
      clear hown hb
      go_wp2
      go_ret
      exact ⟨ret_iI (by omega), HO2.out, HB.out⟩
theorem markS_any (B : Nat) (ad : Option Addr) (n c : Nat) (xs : List ByteArray) (w : World) (hx : xs.length = n) (hn : n ≤ 1048576) (hBw : B ≤ w.heap.size) (hown : w.ownsRow B 9 1 (.slice ad n c) n (xs.map Value.string)) :
    Calls Try.prog 18 #[.slice ad n c, .int .i64 1] w fun e w' => e = .returned (.int .i64 (1 + n)) ∧
      w'.ownsRow B 9 1 (.slice ad n c) n ((mkUp 1 n).map Value.string) ∧ Below B w w' := by
  by_cases h0 : n = 0
  · subst h0
    refine (markS_none ad c w).mono ?_
    rintro e w' ⟨rfl, rfl⟩
    have : xs = [] := List.length_eq_zero_iff.1 hx
    subst this
    exact ⟨rfl, hown, Below.refl _ _⟩
  · rcases hown.2 with ⟨hv, h0'⟩ | ⟨g, cap, cur, hv, hB, hg, rest⟩
    · exact absurd h0' h0
    · simp only [Value.slice.injEq] at hv
      obtain ⟨rfl, _, rfl⟩ := hv
      exact mark_strs B g n c xs w hx hn hB hBw hown
/-- While a place is held against its mark. -/
def HS (w w' : World) (b o : Nat) (s : ByteArray) : Prop := Below w.heap.size w w' ∧ b < w.heap.size ∧ w'.cell? ⟨b, o, none⟩ = some (.string s)
theorem hs_go {w w1 w2 : World} {b o : Nat} {s : ByteArray} (x : HS w w1 b o s) (h : Below w1.heap.size w1 w2) : HS w w2 b o s :=
  ⟨x.1.trans (h.mono x.1.size), x.2.1, (h.cell (p := ⟨b, o, none⟩) (Nat.lt_of_lt_of_le x.2.1 x.1.size)).trans x.2.2⟩
theorem hs_drew {w w1 : World} {b o : Nat} {s : ByteArray} (x : HS w w1 b o s) : HS w w1.drew b o s := hs_go x ⟨rfl, rfl, rfl, Nat.le_refl _, fun _ _ => rfl⟩
theorem hs_all {w w1 : World} {b o : Nat} {s : ByteArray} (x : HS w w1 b o s) : HS w w1 b o s ∧ w1.cell? ⟨b, o, none⟩ = some (.string s) := ⟨x, x.2.2⟩
set_option maxRecDepth 100000 in
set_option maxHeartbeats 4000000 in
theorem held_strs (a : Option Addr) (n c : Nat) (w : World) (hn : n ≤ 1048576) (hr : TxAt w a (mkUp 1 n) w.heap.size) :
    Calls Try.prog 19 #[.slice a n c, .int .i64 1] w fun e w' => e = .returned (.int .i64 (1 + n)) ∧ Below w.heap.size w w' := by
  have HR := hide hr
  clear hr
  go_enter Try.func19, Try.ntmps19
  go_wp2
  go_loopw [1, 5] (fun k i wr => ∃ j : Nat, j ≤ n ∧ i = .int .i64 j ∧ k = .int .i64 ((1 + j : Nat) : Int) ∧ Below w.heap.size w wr) (fun _ i _ => n - (intOf i).toNat)
  case atStart => exact ⟨0, Nat.zero_le _, rfl, rfl, Below.refl _ _⟩
  case round =>
    obtain ⟨j, hj, rfl, rfl, hb⟩ := hrel
    by_cases hlt : j < n
    · have hji : (j : Int) < (n : Int) := by omega
      have hj0 : (0 : Int) ≤ (j : Int) := by omega
      have hlt2 : j < (mkUp 1 n).length := by rw [mkUp_len]; exact hlt
      obtain ⟨b, off, rfl, hbs, hc⟩ := HR.out (fun h => by rw [h] at hlt2; exact absurd hlt2 (Nat.not_lt_zero _))
      have k0 := (hb.cell (p := ⟨b, off + j, none⟩) hbs).trans (hc j hlt2)
      rw [mkUp_get 1 n j hlt] at k0
      have CM := hide (fun (W : World) => l_mtV ((1 + j : Nat) : Int) W (by omega) (by omega))
      obtain ⟨T, hT⟩ : ∃ T, mkT ((1 + j : Nat) : Int) = T := ⟨_, rfl⟩
      rw [hT] at k0 CM
      have XX : Hid (HS w wr b (off + j) T) := ⟨hb, hbs, k0⟩
      clear hc hb hT k0 hlt2
      go_wp2
      go_region_held3 (fun w' => HS w w' b (off + j) T ∧ w'.cell? ⟨b, off + j, none⟩ = some (.string T)) (first | assumption | exact hs_all (hs_drew XX.out) | exact hs_all XX.out) (first | (go_at_call 36; refine (CM.out _).mono ?_; rintro e w2 ⟨rfl, hb2⟩; have X2 := hide (hs_go (hs_drew XX.out) hb2); replace XX := X2; clear X2 hb2))
      all_goals
        go_wp2
        go_roundw
        case rel => exact ⟨j + 1, by omega, by go_num, by go_num, XX.out.1⟩
        case measure => simp [intOf]; omega
    · have hkn : j = n := by omega
      subst hkn
      go_wp2
      go_ret
      exact ⟨ret_iI (by omega), hb⟩
end Go.Proofs.Ytlhdfaoehamehaa
