/-
  Texts put together: RsG, RsG40, RsG91, RsG46.
-/
import Derived.Test.YtepommmmmfaihaaDoorC36
/-
  Contract of the specification's reader of expressions: an atom.
-/
namespace Go.Proofs.YtepommmmmfaihaaDoor
open Go.RowKit Go.Joins
set_option linter.unusedVariables false
set_option linter.unusedSimpArgs false
/-- What a choice, a row, a piece, an atom of at most n characters leave. -/
def ChS (n : Nat) : Prop := ∀ (B R : Nat) (C : List Int) (k : Nat) (X : List Nd) (w : World) (g : Nat), C.length - k ≤ n → 4 * (C.length - k) + 4 ≤ g → X.length ≤ 120 → SD (fun j => B ≤ j) B R w C k false X → Calls Tryd.prog 43 #[.pointer (some ⟨R, 0, none⟩)] w (RaS B R C w (rdC g (C.drop k) X))
def RwS (n : Nat) : Prop := ∀ (B R : Nat) (C : List Int) (k : Nat) (X : List Nd) (w : World) (g : Nat), C.length - k ≤ n → 4 * (C.length - k) + 3 ≤ g → X.length ≤ 120 → SD (fun j => B ≤ j) B R w C k false X → Calls Tryd.prog 57 #[.pointer (some ⟨R, 0, none⟩)] w (RaS B R C w (rdR g (C.drop k) X))
def PcS (n : Nat) : Prop := ∀ (B R : Nat) (C : List Int) (k : Nat) (X : List Nd) (w : World) (g : Nat), k < C.length → C.length - k ≤ n → 4 * (C.length - k) + 2 ≤ g → X.length ≤ 120 → SD (fun j => B ≤ j) B R w C k false X → Calls Tryd.prog 63 #[.pointer (some ⟨R, 0, none⟩)] w (RaS B R C w (rdP g (C.drop k) X))
def AtS (n : Nat) : Prop := ∀ (B R : Nat) (C : List Int) (k : Nat) (X : List Nd) (w : World) (g : Nat), k < C.length → C.length - k ≤ n → 4 * (C.length - k) + 1 ≤ g → X.length ≤ 120 → SD (fun j => B ≤ j) B R w C k false X → Calls Tryd.prog 65 #[.pointer (some ⟨R, 0, none⟩)] w (RaS B R C w (rdA g (C.drop k) X))
section
variable {B R : Nat} {C : List Int} {w w1 w' : World} {o o' : Option (List Int × List Nd)} {k' : Nat} {X : List Nd} {nd : Nd} {e : Ending}
theorem ras_add (E : o = some (C.drop k', X ++ [nd])) (h : SD (fun j => B ≤ j) B R w' C k' (decide (120 < X.length + 1)) (X ++ [nd])) (hb : Below B w w') : RaS B R C w o (.returned (.int .i64 (X.length : Int))) w' := by
  by_cases hb9 : 120 < X.length + 1
  · rw [decide_eq_true hb9] at h
    refine .inr ⟨⟨X.length, k', X ++ [nd], rfl, h⟩, fun u' X' h9 => ?_, hb⟩
    rw [E] at h9
    cases h9
    exact .inl (by simp; omega)
  · rw [decide_eq_false hb9] at h
    exact .inl ⟨k', X ++ [nd], E, by simp; omega, by simp, h, hb⟩
theorem ras_bad {v : Int} (E : o = none) (h : SD (fun j => B ≤ j) B R w' C k' true X) (hb : Below B w w') : RaS B R C w o (.returned (.int .i64 v)) w' :=
  .inr ⟨⟨v, k', X, rfl, h⟩, fun u' X' h9 => (by rw [E] at h9; cases h9), hb⟩
theorem ras_go (hb : Below B w w1) (h : RaS B R C w1 o e w') : RaS B R C w o e w' := by
  rcases h with ⟨k', X', h1, h2, h3, h4, h5⟩ | ⟨h1, h2, h3⟩
  · exact .inl ⟨k', X', h1, h2, h3, h4, hb.trans h5⟩
  · exact .inr ⟨h1, h2, hb.trans h3⟩
theorem ras_eq (E : o' = o) (h : RaS B R C w o e w') : RaS B R C w o' e w' := by rw [E]; exact h
end
/-- A class of ranges that were just made is put behind the row. -/
theorem s_addL {B R : Nat} {C : List Int} {k : Nat} {X : List Nd} {w : World} (nt : Bool) (L : List (Int × Int)) (cs : Array Value) (n : Nat) (hn : L.length = n) (hc : cs.toList = prV L) (hl : n ≤ 500) (hX : X.length ≤ 120) (h : SD (fun j => B ≤ j) B R w C k false X) :
    Calls Tryd.prog 59 #[.pointer (some ⟨R, 0, none⟩), .agg #[.int .i64 2, .bool nt, .slice (some ⟨w.heap.size, 0, none⟩) n n, .int .i64 0, .int .i64 0, .int .i64 0, .int .i64 0]] (w.alloc (.cells cs 46)) fun e w' => e = .returned (.int .i64 (X.length : Int)) ∧ SD (fun j => B ≤ j) B R w' C k (decide (120 < X.length + 1)) (X ++ [clN nt L]) ∧ Below B w w' := by
  subst hn
  have hB := sd_lt h
  refine (s_add B R C k X (clN nt L) (some ⟨w.heap.size, 0, none⟩) L.length (w.alloc (.cells cs 46)) hX hl (sd_bl (sd_small h) ((Below.refl w.heap.size w).alloc (Nat.le_refl _) _)) (fun j hj => hj.1) (own_prL (L := L) rfl hl hc (heap_alloc_new w _)) (fun k hk => ?_)).mono ?_
  · have h9 : w.heap.size = k := (by simpa [Value.ownBlock] using hk)
    refine ⟨by omega, fun h10 => ?_⟩
    have : k < w.heap.size := h10.2
    omega
  · rintro e w' ⟨rfl, h1, h2⟩
    exact ⟨rfl, h1, (((Below.refl w.heap.size w).alloc (Nat.le_refl _) _).mono hB).trans h2⟩
end Go.Proofs.YtepommmmmfaihaaDoor

/-
  Contract of the specification's reader of expressions: an atom in parentheses.
-/
namespace Go.Proofs.YtepommmmmfaihaaDoor
open Go.RowKit Go.Joins
set_option linter.unusedVariables false
set_option linter.unusedSimpArgs false
set_option maxRecDepth 100000 in
set_option maxHeartbeats 8000000 in
theorem s_atom40 (n : Nat) (hC : ∀ m, m < n → ChS m) (B R : Nat) (C : List Int) (k : Nat) (X : List Nd) (w : World) (f : Nat) (hlt : k < C.length) (hn : C.length - k ≤ n) (hg : 4 * (C.length - k) + 1 ≤ f + 1) (hX : X.length ≤ 120) (h : SD (fun j => B ≤ j) B R w C k false X) (c : Int) (hr : C.drop k = c :: C.drop (k + 1)) (e1 : c = 40) :
    Calls Tryd.prog 65 #[.pointer (some ⟨R, 0, none⟩)] w (RaS B R C w (rdA (f + 1) (c :: C.drop (k + 1)) X)) := by
  have H0 := hide h
  have hB := sd_lt h
  have hC4 := h.1.2.2
  obtain ⟨b, off, tc, ad, cp, c0, c1, c2, c3, f1, f2, ck, -⟩ := sd_here h hr
  have hch := chB_cases (sd_ch h c (by rw [← List.take_append_drop k C, hr]; simp))
  have hd : decide ((k : Int) ≥ (C.length : Int)) = false := decide_eq_false (by omega)
  have hi0 : (0 : Int) ≤ (k : Int) := by omega
  have hi1 : (k : Int) < (C.length : Int) := by omega
  have hi2 : ¬ (C.length : Int) ≤ (k : Int) := by omega
  have hw : IntKind.i64.wrap ((k : Int) + 1) = (k : Int) + 1 := by rw [IntKind.wrap_i64]; omega
  clear h hr
  have HE : Hid (rdA (f + 1) (c :: C.drop (k + 1)) X = match rdC f (C.drop (k + 1)) X with
    | none => none
    | some (u1, X1) => if u1.head? = some 41 then some (u1.tail, X1) else none) := hide (by rw [rdA, if_pos e1]; rfl)
  subst e1
  go_enter Tryd.func65, Tryd.ntmps65
  go_wp2
  go_quiet (fail)
  revert nq; intro n1
  have H1 := hide (sd_k1 (sd_dr H0.out n1) hlt)
  have HB1 : Hid (Below B w ((w.drewN n1).setCell ⟨R, 1, none⟩ (.int .i64 ((k : Int) + 1)))) := hide (sd_kpB H0.out (kp_trS (kp_drewN w _) (kp_r _ R 1 _)))
  go_wp2_with fail
  obtain ⟨W, hW⟩ : ∃ W, (w.drewN n1).setCell ⟨R, 1, none⟩ (.int .i64 ((k : Int) + 1)) = W := ⟨_, rfl⟩
  rw [hW] at H1 HB1 ⊢
  clear hW c0 c1 c2 c3 f1 f2 ck hd hi0 hi1 hi2 hw H0
  refine (hC (C.length - (k + 1)) (by omega) B R C (k + 1) X W f (Nat.le_refl _) (by omega) hX H1.out).mono ?_
  rintro e w2 (⟨k', X', ho, hX', rfl, h2, hb2⟩ | ⟨⟨v, k', X', rfl, h2⟩, hno, hb2⟩)
  · have HB2 := hide (HB1.out.trans hb2)
    have HE2 : Hid (rdA (f + 1) (40 :: C.drop (k + 1)) X = if (C.drop k').head? = some 41 then some ((C.drop k').tail, X') else none) := hide (by have h9 := HE.out; rw [ho] at h9; exact h9)
    clear hb2 HE ho
    by_cases e2 : (C.drop k').head? = some 41
    · have e3 := tail_cons e2
      obtain ⟨-, e4, hlt4⟩ := drop_at e3
      have E : Hid (rdA (f + 1) (40 :: C.drop (k + 1)) X = some (C.drop (k' + 1), X')) := hide (by rw [HE2.out, if_pos e2, e4])
      have HT := hide (s_isY B R C k' 41 _ X' w2 h2 e3)
      have H2 := hide h2
      clear HE2 e2 e3 e4 h2
      go_wp2_with fail
      refine HT.out.mono ?_
      rintro e w3 ⟨rfl, h3, q3⟩
      have H3 := hide h3
      have HB3 := hide (HB2.out.trans (sd_kpB H2.out q3))
      clear h3 q3
      go_wp2
      go_ret
      exact .inl ⟨k' + 1, X', E.out, hX', rfl, H3.out, HB3.out⟩
    · have E : Hid (rdA (f + 1) (40 :: C.drop (k + 1)) X = none) := hide (by rw [HE2.out, if_neg e2])
      have HT := hide (s_isN B R C k' 41 X' w2 h2 e2)
      have H2 := hide h2
      clear HE2 e2 h2
      go_wp2_with fail
      refine HT.out.mono ?_
      rintro e w3 ⟨rfl, h3, q3⟩
      obtain ⟨_, _, _, _, ⟨-, -, d2, -⟩, ff, -⟩ := sd_cells h3
      have ff2 := ff 2
      have H4 := hide (sd_b h3 true)
      have HB4 := hide ((HB2.out.trans (sd_kpB H2.out q3)).trans (sd_kpB h3 (kp_r _ R 2 (.bool true))))
      clear h3 q3 ff
      go_wp2
      go_ret
      exact ras_bad E.out H4.out HB4.out
  · have HB2 := hide (HB1.out.trans hb2)
    have HNO : Hid (∀ u9 X9, rdA (f + 1) (40 :: C.drop (k + 1)) X = some (u9, X9) → Bd X9) := hide (fun u9 X9 h9 => by
      rw [HE.out] at h9
      cases hq : rdC f (C.drop (k + 1)) X with
      | none => rw [hq] at h9; cases h9
      | some p =>
        obtain ⟨u1, X1⟩ := p
        rw [hq] at h9
        have hb9 := hno u1 X1 hq
        dsimp only at h9
        split at h9
        · cases h9; exact hb9
        · cases h9)
    have HT := hide (s_isB B R C k' 41 X' w2 h2)
    have H2 := hide h2
    clear hb2 HE h2 hno
    go_wp2_with fail
    refine HT.out.mono ?_
    rintro e w3 ⟨rfl, h3, q3⟩
    obtain ⟨_, _, _, _, ⟨-, -, d2, -⟩, ff, -⟩ := sd_cells h3
    have ff2 := ff 2
    have H4 := hide (sd_b h3 true)
    have HB4 := hide ((HB2.out.trans (sd_kpB H2.out q3)).trans (sd_kpB h3 (kp_r _ R 2 (.bool true))))
    clear h3 q3 ff
    go_wp2
    go_ret
    exact .inr ⟨⟨v, k', X', rfl, H4.out⟩, HNO.out, HB4.out⟩
end Go.Proofs.YtepommmmmfaihaaDoor

/-
  Contract of the specification's reader of expressions: an atom in brackets.
-/
namespace Go.Proofs.YtepommmmmfaihaaDoor
open Go.RowKit Go.Joins
set_option linter.unusedVariables false
set_option linter.unusedSimpArgs false
set_option maxRecDepth 100000 in
set_option maxHeartbeats 8000000 in
theorem s_atom91 (n : Nat) (hC : ∀ m, m < n → ChS m) (B R : Nat) (C : List Int) (k : Nat) (X : List Nd) (w : World) (f : Nat) (hlt : k < C.length) (hn : C.length - k ≤ n) (hg : 4 * (C.length - k) + 1 ≤ f + 1) (hX : X.length ≤ 120) (h : SD (fun j => B ≤ j) B R w C k false X) (c : Int) (hr : C.drop k = c :: C.drop (k + 1)) (e1 : ¬ c = 40) (e2 : c = 91) :
    Calls Tryd.prog 65 #[.pointer (some ⟨R, 0, none⟩)] w (RaS B R C w (rdA (f + 1) (c :: C.drop (k + 1)) X)) := by
  have H0 := hide h
  have hB := sd_lt h
  have hC4 := h.1.2.2
  obtain ⟨b, off, tc, ad, cp, c0, c1, c2, c3, f1, f2, ck, -⟩ := sd_here h hr
  have hch := chB_cases (sd_ch h c (by rw [← List.take_append_drop k C, hr]; simp))
  have hd : decide ((k : Int) ≥ (C.length : Int)) = false := decide_eq_false (by omega)
  have hi0 : (0 : Int) ≤ (k : Int) := by omega
  have hi1 : (k : Int) < (C.length : Int) := by omega
  have hi2 : ¬ (C.length : Int) ≤ (k : Int) := by omega
  have hw : IntKind.i64.wrap ((k : Int) + 1) = (k : Int) + 1 := by rw [IntKind.wrap_i64]; omega
  clear h hr
  have b1 : (c == 40) = false := by simp [e1]
  have HE : Hid (rdA (f + 1) (c :: C.drop (k + 1)) X = brP (C.drop (k + 1)) X) := hide (by rw [rdA, if_neg e1, if_pos e2])
  subst e2
  clear e1 b1
  go_enter Tryd.func65, Tryd.ntmps65
  go_wp2
  go_quiet (fail)
  revert nq; intro n1
  have H1 := hide (sd_k1 (sd_dr H0.out n1) hlt)
  have HB1 : Hid (Below B w ((w.drewN n1).setCell ⟨R, 1, none⟩ (.int .i64 ((k : Int) + 1)))) := hide (sd_kpB H0.out (kp_trS (kp_drewN w _) (kp_r _ R 1 _)))
  go_wp2_with fail
  obtain ⟨W, hW⟩ : ∃ W, (w.drewN n1).setCell ⟨R, 1, none⟩ (.int .i64 ((k : Int) + 1)) = W := ⟨_, rfl⟩
  rw [hW] at H1 HB1 ⊢
  clear hW c0 c1 c2 c3 f1 f2 ck hd hi0 hi1 hi2 hw H0
  refine (s_brack B R C (k + 1) X W hX H1.out).mono ?_
  rintro e w2 (⟨k', X', ho, hX', rfl, h2, hb2⟩ | ⟨⟨v, k', X', rfl, h2⟩, hno, hb2⟩)
  · have HQ : Hid (RaS B R C w (rdA (f + 1) (91 :: C.drop (k + 1)) X) (.returned (.int .i64 ((X'.length : Int) - 1))) w2) := hide (ras_eq HE.out (ras_go HB1.out (.inl ⟨k', X', ho, hX', rfl, h2, hb2⟩)))
    clear ho h2 hb2
    go_wp2
    go_ret
    exact HQ.out
  · have HQ : Hid (RaS B R C w (rdA (f + 1) (91 :: C.drop (k + 1)) X) (.returned (.int .i64 v)) w2) := hide (ras_eq HE.out (ras_go HB1.out (.inr ⟨⟨v, k', X', rfl, h2⟩, hno, hb2⟩)))
    clear hno h2 hb2
    go_wp2
    go_ret
    exact HQ.out
end Go.Proofs.YtepommmmmfaihaaDoor

/-
  Contract of the specification's reader of expressions: an atom: any sign.
-/
namespace Go.Proofs.YtepommmmmfaihaaDoor
open Go.RowKit Go.Joins
set_option linter.unusedVariables false
set_option linter.unusedSimpArgs false
set_option maxRecDepth 100000 in
set_option maxHeartbeats 8000000 in
theorem s_atom46 (n : Nat) (hC : ∀ m, m < n → ChS m) (B R : Nat) (C : List Int) (k : Nat) (X : List Nd) (w : World) (f : Nat) (hlt : k < C.length) (hn : C.length - k ≤ n) (hg : 4 * (C.length - k) + 1 ≤ f + 1) (hX : X.length ≤ 120) (h : SD (fun j => B ≤ j) B R w C k false X) (c : Int) (hr : C.drop k = c :: C.drop (k + 1)) (e1 : ¬ c = 40) (e2 : ¬ c = 91) (e3 : c = 46) :
    Calls Tryd.prog 65 #[.pointer (some ⟨R, 0, none⟩)] w (RaS B R C w (rdA (f + 1) (c :: C.drop (k + 1)) X)) := by
  have H0 := hide h
  have hB := sd_lt h
  have hC4 := h.1.2.2
  obtain ⟨b, off, tc, ad, cp, c0, c1, c2, c3, f1, f2, ck, -⟩ := sd_here h hr
  have hch := chB_cases (sd_ch h c (by rw [← List.take_append_drop k C, hr]; simp))
  have hd : decide ((k : Int) ≥ (C.length : Int)) = false := decide_eq_false (by omega)
  have hi0 : (0 : Int) ≤ (k : Int) := by omega
  have hi1 : (k : Int) < (C.length : Int) := by omega
  have hi2 : ¬ (C.length : Int) ≤ (k : Int) := by omega
  have hw : IntKind.i64.wrap ((k : Int) + 1) = (k : Int) + 1 := by rw [IntKind.wrap_i64]; omega
  clear h hr
  have b1 : (c == 40) = false := by simp [e1]
  have b2 : (c == 91) = false := by simp [e2]
  have E : Hid (rdA (f + 1) (c :: C.drop (k + 1)) X = some (C.drop (k + 1), X ++ [dotN])) := hide (by rw [rdA, if_neg e1, if_neg e2, if_pos e3])
  subst e3
  clear e1 b1 e2 b2
  go_enter Tryd.func65, Tryd.ntmps65
  go_wp2
  go_quiet (fail)
  revert nq; intro n1
  have H1 := hide (sd_k1 (sd_dr H0.out n1) hlt)
  have HB1 : Hid (Below B w ((w.drewN n1).setCell ⟨R, 1, none⟩ (.int .i64 ((k : Int) + 1)))) := hide (sd_kpB H0.out (kp_trS (kp_drewN w _) (kp_r _ R 1 _)))
  go_wp2_with fail
  obtain ⟨W, hW⟩ : ∃ W, (w.drewN n1).setCell ⟨R, 1, none⟩ (.int .i64 ((k : Int) + 1)) = W := ⟨_, rfl⟩
  rw [hW] at H1 HB1 ⊢
  have hWs : w.heap.size = W.heap.size := by rw [← hW, heap_setCell_size]; rfl
  rw [hWs]
  clear hW c0 c1 c2 c3 f1 f2 ck hd hi0 hi1 hi2 hw H0
  refine (s_addL true [(10, 10), (13, 13)] #[.int .i64 10, .int .i64 10, .int .i64 13, .int .i64 13] 2 rfl rfl (by omega) hX H1.out).mono ?_
  rintro e w2 ⟨rfl, h2, hb2⟩
  have HQ : Hid (RaS B R C w (rdA (f + 1) (46 :: C.drop (k + 1)) X) (.returned (.int .i64 (X.length : Int))) w2) := hide (ras_add E.out h2 (HB1.out.trans hb2))
  clear h2 hb2
  go_wp2
  go_ret
  exact HQ.out
end Go.Proofs.YtepommmmmfaihaaDoor
