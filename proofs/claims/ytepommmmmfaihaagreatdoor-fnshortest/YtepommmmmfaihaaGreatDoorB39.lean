/-
  Texts put together: RrE, RsE, RsB.
-/
import Derived.Test.YtepommmmmfaihaaGreatDoorB38
import Derived.Test.YtepommmmmfaihaaGreatDoorB33
import Derived.Test.YtepommmmmfaihaaGreatDoorB35
/-
  Contracts of the program's reader of expressions: classes of one character, of a letter; what stands behind a backslash.
-/
namespace Go.Proofs.YtepommmmmfaihaaGreatDoor
open Go.RowKit Go.Joins
set_option linter.unusedVariables false
set_option linter.unusedSimpArgs false
theorem own_prL {w : World} {q : Nat} {L : List (Int × Int)} {n : Nat} {cs : Array Value} (hn : L.length = n) (hn5 : n ≤ 500) (hc : cs.toList = prV L) (h : w.heap[q]? = some (.cells cs 103 (0, 0))) : w.ownsRow 0 103 2 (.slice (some ⟨q, 0, none⟩) n n) n (prV L) := by
  have hl := prV_len L
  refine ⟨by rw [hl, hn], .inr ⟨q, n, cs, rfl, Nat.zero_le _, h, Nat.le_refl _, by unfold maxLen; omega, ?_, ?_⟩⟩
  · rw [← Array.length_toList, hc, hl, hn]
  · rw [hc, ← hn, ← hl]; simp
/-- What stays when something is made. -/
theorem rd_small {B R : Nat} {w : World} {u : List Int} {X : List Nd} (h : RD (fun j => B ≤ j) B R w u X) : RD (fun j => B ≤ j ∧ j < w.heap.size) B R w u X := by
  obtain ⟨h0, ta, tc, ad, c, h1, h2, h3⟩ := h
  refine ⟨h0, ta, tc, ad, c, h1, h2, xo_imp h3.1 (fun k hk hs => ⟨hs, hk⟩), fun k hk => ⟨h3.2 k hk, ?_⟩⟩
  obtain ⟨xs, ho, -⟩ := h3.1
  exact (ho.lt k hk).2
set_option maxHeartbeats 2000000 in
theorem i_classOf (a : Int) (w : World) : Calls Tryz.prog 136 #[.int .i64 a] w fun e w' => ∃ q, e = .returned (.agg #[.int .i64 2, .bool false, .slice (some ⟨q, 0, none⟩) 1 1, .int .i64 0, .int .i64 0, .int .i64 0, .int .i64 0]) ∧ w.heap.size ≤ q ∧ w'.ownsRow 0 103 2 (.slice (some ⟨q, 0, none⟩) 1 1) 1 (prV [(a, a)]) ∧ Below w.heap.size w w' := by
  go_enter Tryz.func136, Tryz.ntmps136
  have h1 : ((w.alloc (.cells #[.int .i64 2, .bool false, .slice (some ⟨w.heap.size + 1, 0, none⟩) 1 1, .int .i64 0, .int .i64 0, .int .i64 0, .int .i64 0] 69)).alloc (.cells #[.int .i64 a, .int .i64 a] 103)).heap[w.heap.size + 1]? = some (.cells #[.int .i64 a, .int .i64 a] 103 (0, 0)) := by
    have h := heap_alloc_new (w.alloc (.cells #[.int .i64 2, .bool false, .slice (some ⟨w.heap.size + 1, 0, none⟩) 1 1, .int .i64 0, .int .i64 0, .int .i64 0, .int .i64 0] 69)) (.cells #[.int .i64 a, .int .i64 a] 103)
    rw [show (w.alloc (.cells #[.int .i64 2, .bool false, .slice (some ⟨w.heap.size + 1, 0, none⟩) 1 1, .int .i64 0, .int .i64 0, .int .i64 0, .int .i64 0] 69)).heap.size = w.heap.size + 1 by simp] at h
    exact h
  have H1 := hide (own_prL (L := [(a, a)]) (n := 1) rfl (by omega) rfl h1)
  have HB := hide (((Below.refl w.heap.size w).alloc (Nat.le_refl _) (.cells #[.int .i64 2, .bool false, .slice (some ⟨w.heap.size + 1, 0, none⟩) 1 1, .int .i64 0, .int .i64 0, .int .i64 0, .int .i64 0] 69)).alloc (by simp) (.cells #[.int .i64 a, .int .i64 a] 103))
  clear h1
  go_wp2
  refine bodyPost_ret (v := .agg #[.int .i64 2, .bool false, .slice (some ⟨w.heap.size + 1, 0, none⟩) 1 1, .int .i64 0, .int .i64 0, .int .i64 0, .int .i64 0]) (by simp [results, Tryz.results136, go_sem]) rfl ?_
  exact ⟨w.heap.size + 1, rfl, by omega, H1.out, HB.out⟩
/-- Ranges in new memory. -/
def LrA (L : List (Int × Int)) (w : World) (e : Ending) (w' : World) : Prop := ∃ na, e = .returned (.slice na L.length L.length) ∧ w'.ownsRow 0 103 2 (.slice na L.length L.length) L.length (prV L) ∧ (∀ k, (Value.slice na L.length L.length).ownBlock = some k → w.heap.size ≤ k) ∧ Below w.heap.size w w'
theorem lr_new {w : World} {L : List (Int × Int)} {cs : Array Value} (hl : L.length ≤ 500) (hc : cs.toList = prV L) : LrA L w (.returned (.slice (some ⟨w.heap.size, 0, none⟩) L.length L.length)) (w.alloc (.cells cs 103)) :=
  ⟨_, rfl, own_prL rfl hl hc (heap_alloc_new w _), fun k hk => by have h9 : w.heap.size = k := (by simpa [Value.ownBlock] using hk); omega, (Below.refl w.heap.size w).alloc (Nat.le_refl _) _⟩
set_option maxHeartbeats 4000000 in
theorem i_letters (c : Int) (w : World) : Calls Tryz.prog 140 #[.int .i64 c] w (LrA (ltR c) w) := by
  by_cases e1 : c = 100 ∨ c = 68
  · have E : Hid (ltR c = [(48, 57)]) := hide (by unfold ltR; rw [if_pos e1])
    have HN := hide (lr_new (w := w) (L := [(48, 57)]) (cs := #[.int .i64 48, .int .i64 57]) (by simp) rfl)
    rcases e1 with rfl | rfl
    all_goals
      go_enter Tryz.func140, Tryz.ntmps140
      go_wp2
      go_ret
      rw [E.out]
      exact HN.out
  · by_cases e2 : c = 119 ∨ c = 87
    · have E : Hid (ltR c = [(48, 57), (65, 90), (95, 95), (97, 122)]) := hide (by unfold ltR; rw [if_neg e1, if_pos e2])
      have HN := hide (lr_new (w := w) (L := [(48, 57), (65, 90), (95, 95), (97, 122)]) (cs := #[.int .i64 48, .int .i64 57, .int .i64 65, .int .i64 90, .int .i64 95, .int .i64 95, .int .i64 97, .int .i64 122]) (by simp) rfl)
      clear e1
      rcases e2 with rfl | rfl
      all_goals
        go_enter Tryz.func140, Tryz.ntmps140
        go_wp2
        go_ret
        rw [E.out]
        exact HN.out
    · by_cases e3 : c = 115 ∨ c = 83
      · have E : Hid (ltR c = [(9, 10), (13, 13), (32, 32)]) := hide (by unfold ltR; rw [if_neg e1, if_neg e2, if_pos e3])
        have HN := hide (lr_new (w := w) (L := [(9, 10), (13, 13), (32, 32)]) (cs := #[.int .i64 9, .int .i64 10, .int .i64 13, .int .i64 13, .int .i64 32, .int .i64 32]) (by simp) rfl)
        clear e1 e2
        rcases e3 with rfl | rfl
        all_goals
          go_enter Tryz.func140, Tryz.ntmps140
          go_wp2
          go_ret
          rw [E.out]
          exact HN.out
      · have E : Hid (ltR c = []) := hide (by unfold ltR; rw [if_neg e1, if_neg e2, if_neg e3])
        have b1 : (c == 100) = false := by simp; omega
        have b2 : (c == 68) = false := by simp; omega
        have b3 : (c == 119) = false := by simp; omega
        have b4 : (c == 87) = false := by simp; omega
        have b5 : (c == 115) = false := by simp; omega
        have b6 : (c == 83) = false := by simp; omega
        clear e1 e2 e3
        go_enter Tryz.func140, Tryz.ntmps140
        go_wp2
        go_ret
        rw [E.out]
        exact ⟨none, rfl, World.ownsRow_nil _ _ _ _, fun k hk => (by cases hk), Below.refl _ _⟩
/-- What a part leaves: the rest and the nodes, or it gives up. -/
def RaI (B R : Nat) (w : World) (o : Option (List Int × List Nd)) (e : Ending) (w' : World) : Prop := match o with
  | some (u', X') => e = .returned (.tuple #[]) ∧ RD (fun j => B ≤ j) B R w' u' X' ∧ Below B w w'
  | none => GivB B w e w'
theorem giv_bl {B : Nat} {w w1 w2 : World} {e : Ending} (k : Below B w w1) (g : GivB B w1 e w2) : GivB B w e w2 := ⟨g.1, k.trans g.2⟩
set_option maxHeartbeats 4000000 in
theorem i_slash (B R : Nat) (u : List Int) (X : List Nd) (w : World) (hX : X.length ≤ 4000) (h : RD (fun j => B ≤ j) B R w u X) : Calls Tryz.prog 134 #[.pointer (some ⟨R, 0, none⟩)] w (RaI B R w (bsP u X)) := by
  have H0 := hide h
  have hB := rdx_lt h
  cases u with
  | nil =>
    obtain ⟨ta, tc, c0⟩ := rd_nil h
    have HA := hide (i_escN (u := []) rfl h)
    clear h
    go_enter Tryz.func134, Tryz.ntmps134
    go_wp2_with fail
    refine HA.out.mono ?_
    rintro e w2 ⟨⟨tv, v, rfl⟩, k2⟩
    have K2 := hide k2
    clear k2
    go_wp2
    exact ⟨rfl, ⟨_, _, rfl⟩, K2.out⟩
  | cons c r =>
    have hs := rd_small h
    obtain ⟨b, off, tc, ad, cp, c0, f0, c1, c2, h1, h2, HT⟩ := rd_cons h
    have h6 : (0 : Int) < (r.length : Int) + 1 := by omega
    have h7 : (0 : Int) < ((r.length + 1 : Nat) : Int) := by omega
    clear h HT
    have HS := hide hs
    clear hs
    have hB' := hB
    go_enter Tryz.func134, Tryz.ntmps134
    go_wp2_with fail
    refine (i_letters c _).mono ?_
    rintro e w1 ⟨na, rfl, ho, hk, hb⟩
    have HO := hide ho
    have HK := hide hk
    have HB := hide hb
    have HS1 := hide (rd_blA HS.out hb)
    have HB1 := hide (hb.mono hB)
    clear ho hk hb c0 c1 c2 f0
    by_cases hl : 0 < (ltR c).length
    · have hl' : (0 : Int) < ((ltR c).length : Int) := by omega
      have hl5 : (ltR c).length ≤ 500 := by unfold ltR; split <;> (try split) <;> (try split) <;> simp
      have E : Hid (bsP (c :: r) X = some (r, X ++ [clN (capB c) (ltR c)])) := hide (by rw [bsP, if_pos hl])
      have HN := hide (i_nextC B R c r X w1 HS1.out)
      have CB := hide (fun W => i_in c 65 90 W)
      have HC : Hid (decide (65 ≤ c ∧ c ≤ 90) = capB c) := hide rfl
      rw [HC.out] at CB
      obtain ⟨L, hL⟩ : ∃ L, ltR c = L := ⟨_, rfl⟩
      rw [hL] at hl hl' hl5 HO HK E
      rw [hL]
      obtain ⟨cb, hcb⟩ : ∃ cb, capB c = cb := ⟨_, rfl⟩
      rw [hcb] at CB E
      clear hL hcb HC hl
      go_wp2_with fail
      refine HN.out.mono ?_
      rintro e w2 ⟨rfl, h2, k2⟩
      have H2 := hide h2
      have HB2 := hide (HB1.out.trans (rd_kpB HS1.out k2))
      have HO2 := hide (own_kp HO.out k2 (fun j hj e9 => by
        obtain ⟨_, _, _, _, _, hx, _⟩ := HS1.out
        exact type_ne HO.out hj hx (by decide) e9))
      have HA := hide (i_add B R r X (clN cb L) na L.length w2 (by omega) hl5 h2 (fun j hj => hj.1) HO2.out (fun k hk => ⟨Nat.le_trans hB (HK.out k hk), fun h9 => by have := HK.out k hk; omega⟩))
      clear h2 k2 HN
      go_wp2_with (first | (go_at_call 83; refine (CB.out _).mono ?_; rintro e w9 ⟨rfl, h9⟩; rw [h9]; clear h9 w9))
      refine HA.out.mono ?_
      rintro e w3 ⟨rfl, h3, k3⟩
      have H3 := hide h3
      have HB3 := hide (HB2.out.trans k3)
      clear h3 k3 HA
      go_wp2
      go_end0
      rw [E.out]
      exact ⟨rfl, H3.out, HB3.out⟩
    · have hl' : ¬ (0 : Int) < ((ltR c).length : Int) := by omega
      have E0 : Hid (bsP (c :: r) X = match esP (c :: r) with
        | none => none
        | some (d, r') => some (r', X ++ [clsN d])) := hide (by rw [bsP, if_neg hl]; rfl)
      rcases hn : esP (c :: r) with _ | ⟨d, r2⟩
      · have E : Hid (bsP (c :: r) X = none) := hide (by rw [E0.out, hn])
        have HE := hide (i_escN hn HS1.out)
        clear hn E0
        go_wp2_with fail
        refine HE.out.mono ?_
        rintro e w3 ⟨⟨tv, v, rfl⟩, k3⟩
        have K3 := hide (giv_bl HB1.out ⟨⟨tv, v, rfl⟩, k3⟩)
        clear k3
        go_wp2
        rw [E.out]
        exact ⟨rfl, K3.out⟩
      · have E : Hid (bsP (c :: r) X = some (r2, X ++ [clsN d])) := hide (by have h9 := E0.out; rw [hn] at h9; exact h9)
        have HE := hide (i_escY hn HS1.out)
        clear hn E0
        go_wp2_with fail
        refine HE.out.mono ?_
        rintro e w2 ⟨rfl, h2, k2⟩
        have H2 := hide h2
        have HB2 := hide (HB1.out.trans (rd_kpB HS1.out k2))
        have hz2 : w.heap.size ≤ w2.heap.size := Nat.le_trans HB.out.size k2.size
        clear h2 k2 HE
        go_wp2_with fail
        refine (i_classOf d _).mono ?_
        rintro e w3 ⟨q, rfl, hq, hr3, hb3⟩
        have HB3 := hide (HB2.out.trans (hb3.mono (by omega)))
        have HA := hide (i_add B R r2 X (clsN d) (some ⟨q, 0, none⟩) 1 w3 (by omega) (by simp [clsN]) (rd_blA H2.out hb3) (fun j hj => hj.1) hr3 (fun k hk => by
          have h9 : q = k := (by simpa [Value.ownBlock] using hk)
          refine ⟨by omega, fun h10 => ?_⟩
          have : k < w.heap.size := h10.2
          omega))
        clear hr3 hb3
        go_wp2_with fail
        refine HA.out.mono ?_
        rintro e w4 ⟨rfl, h4, k4⟩
        have H4 := hide h4
        have HB4 := hide (HB3.out.trans k4)
        clear h4 k4 HA
        go_wp2
        go_end0
        rw [E.out]
        exact ⟨rfl, H4.out, HB4.out⟩
end Go.Proofs.YtepommmmmfaihaaGreatDoor

/-
  Contracts of the specification's reader of expressions: the class of a letter.
-/
namespace Go.Proofs.YtepommmmmfaihaaGreatDoor
open Go.RowKit Go.Joins
set_option linter.unusedVariables false
set_option linter.unusedSimpArgs false
/-- The class of a letter, or none. -/
def MnA (c : Int) (w : World) (e : Ending) (w' : World) : Prop :=
  if 0 < (ltR c).length then ∃ na, e = .returned (.tuple #[.agg #[.int .i64 2, .bool (capB c), .slice na (ltR c).length (ltR c).length, .int .i64 0, .int .i64 0, .int .i64 0, .int .i64 0], .bool true]) ∧ w'.ownsRow 0 103 2 (.slice na (ltR c).length (ltR c).length) (ltR c).length (prV (ltR c)) ∧ (∀ k, (Value.slice na (ltR c).length (ltR c).length).ownBlock = some k → w.heap.size ≤ k) ∧ Below w.heap.size w w'
  else e = .returned (.tuple #[.agg #[.int .i64 0, .bool false, .slice none 0 0, .int .i64 0, .int .i64 0, .int .i64 0, .int .i64 0], .bool false]) ∧ Below w.heap.size w w'
theorem mn_new {w : World} {c : Int} {L : List (Int × Int)} {n : Nat} {b : Bool} {cs : Array Value} (o1 o2 : Obj) (hL : ltR c = L) (hn : L.length = n) (hp : 0 < n) (hl : n ≤ 500) (hc : cs.toList = prV L) (hb : capB c = b) : MnA c w (.returned (.tuple #[.agg #[.int .i64 2, .bool b, .slice (some ⟨w.heap.size + 1 + 1, 0, none⟩) n n, .int .i64 0, .int .i64 0, .int .i64 0, .int .i64 0], .bool true])) (((w.alloc o1).alloc o2).alloc (.cells cs 103)) := by
  unfold MnA
  rw [hL, hb, hn, if_pos hp]
  have hs : ((w.alloc o1).alloc o2).heap.size = w.heap.size + 1 + 1 := by simp
  have h1 := heap_alloc_new ((w.alloc o1).alloc o2) (.cells cs 103)
  rw [hs] at h1
  refine ⟨_, rfl, own_prL hn hl hc h1, fun k hk => ?_, (((Below.refl w.heap.size w).alloc (Nat.le_refl _) o1).alloc (by simp) o2).alloc (by simp; omega) _⟩
  have h9 : w.heap.size + 1 + 1 = k := (by simpa [Value.ownBlock] using hk)
  omega
set_option maxRecDepth 100000 in
set_option maxHeartbeats 4000000 in
theorem s_many (c : Int) (w : World) : Calls Tryz.prog 120 #[.int .i64 c] w (MnA c w) := by
  by_cases e1 : c = 100 ∨ c = 68
  · rcases e1 with rfl | rfl
    all_goals
      go_enter Tryz.func120, Tryz.ntmps120
      go_wp2
      refine bodyPost_ret (by simp [results, Tryz.results120, go_sem]; rfl) rfl ?_
      exact mn_new _ _ (L := [(48, 57)]) rfl rfl (by omega) (by omega) rfl rfl
  · by_cases e2 : c = 119 ∨ c = 87
    · clear e1
      rcases e2 with rfl | rfl
      all_goals
        go_enter Tryz.func120, Tryz.ntmps120
        go_wp2
        refine bodyPost_ret (by simp [results, Tryz.results120, go_sem]; rfl) rfl ?_
        exact mn_new _ _ (L := [(48, 57), (65, 90), (95, 95), (97, 122)]) rfl rfl (by omega) (by omega) rfl rfl
    · by_cases e3 : c = 115 ∨ c = 83
      · clear e1 e2
        rcases e3 with rfl | rfl
        all_goals
          go_enter Tryz.func120, Tryz.ntmps120
          go_wp2
          refine bodyPost_ret (by simp [results, Tryz.results120, go_sem]; rfl) rfl ?_
          exact mn_new _ _ (L := [(9, 10), (13, 13), (32, 32)]) rfl rfl (by omega) (by omega) rfl rfl
      · have E : Hid (ltR c = []) := hide (by unfold ltR; rw [if_neg e1, if_neg e2, if_neg e3])
        have b1 : (c == 100) = false := by simp; omega
        have b2 : (c == 68) = false := by simp; omega
        have b3 : (c == 119) = false := by simp; omega
        have b4 : (c == 87) = false := by simp; omega
        have b5 : (c == 115) = false := by simp; omega
        have b6 : (c == 83) = false := by simp; omega
        clear e1 e2 e3
        go_enter Tryz.func120, Tryz.ntmps120
        go_wp2
        refine bodyPost_ret (by simp [results, Tryz.results120, go_sem]; rfl) rfl ?_
        unfold MnA
        rw [E.out, if_neg (by simp)]
        exact ⟨rfl, ((Below.refl w.heap.size w).alloc (Nat.le_refl _) _).alloc (by simp) _⟩
end Go.Proofs.YtepommmmmfaihaaGreatDoor

/-
  Contracts of the specification's reader of expressions: a character within brackets, a number.
-/
namespace Go.Proofs.YtepommmmmfaihaaGreatDoor
open Go.RowKit Go.Joins
set_option linter.unusedVariables false
set_option linter.unusedSimpArgs false
theorem kp_trS {R : Nat} {w w1 w2 : World} (h : Kp (fun j => j = R) w w1) (k : Kp (fun j => j = R) w1 w2) : Kp (fun j => j = R) w w2 := h.trans k (fun _ _ hj => hj)
/-- What a part answers: a value, or it is bad. -/
def ChA (S : Nat → Prop) (B R : Nat) (C : List Int) (k : Nat) (X : List Nd) (w : World) (o : Option (Int × List Int)) (e : Ending) (w' : World) : Prop := match o with
  | some (v, r) => ∃ k', r = C.drop k' ∧ k < k' ∧ e = .returned (.int .i64 v) ∧ SD S B R w' C k' false X ∧ Kp (fun j => j = R) w w'
  | none => ∃ v k', e = .returned (.int .i64 v) ∧ SD S B R w' C k' true X ∧ Kp (fun j => j = R) w w'
set_option maxRecDepth 100000 in
set_option maxHeartbeats 4000000 in
theorem s_charB {S : Nat → Prop} (B R : Nat) (C : List Int) (k : Nat) (X : List Nd) (w : World) (h : SD S B R w C k false X) :
    Calls Tryz.prog 130 #[.pointer (some ⟨R, 0, none⟩)] w (ChA S B R C k X w (inP (C.drop k))) := by
  have H0 := hide h
  have h4 := h.1.2.2
  have h5 := h.1.2.1
  cases hr : C.drop k with
  | nil =>
    have hk : C.length ≤ k := List.drop_eq_nil_iff.1 hr
    obtain ⟨ta, tc, ad, cp, ⟨c0, c1, c2, c3⟩, f, -⟩ := sd_cells h
    have f2 := f 2
    have hd : decide ((k : Int) ≥ (C.length : Int)) = true := decide_eq_true (by omega)
    have hi2 : (C.length : Int) ≤ (k : Int) := by omega
    clear h hr f
    go_enter Tryz.func130, Tryz.ntmps130
    go_wp2
    go_quiet (fail)
    go_wp2
    go_ret
    exact ⟨0, k, rfl, sd_b (sd_dr H0.out _) true, (kp_drewN w _).trans (kp_r _ R 2 _) (fun j _ hj => hj)⟩
  | cons c r =>
    obtain ⟨b, off, tc, ad, cp, c0, c1, c2, c3, f1, f2, ck, hlt⟩ := sd_here h hr
    obtain ⟨-, hr1, -⟩ := drop_at hr
    have hch := sd_ch h c (by rw [← List.take_append_drop k C, hr]; simp)
    have hd : decide ((k : Int) ≥ (C.length : Int)) = false := decide_eq_false (by omega)
    have hi0 : (0 : Int) ≤ (k : Int) := by omega
    have hi1 : (k : Int) < (C.length : Int) := by omega
    have hi2 : ¬ (C.length : Int) ≤ (k : Int) := by omega
    have hw : IntKind.i64.wrap ((k : Int) + 1) = (k : Int) + 1 := by rw [IntKind.wrap_i64]; omega
    clear h
    by_cases e1 : c = 92
    · subst e1
      have E0 : Hid (inP (92 :: r) = esP r) := hide (by rw [inP, if_pos rfl])
      go_enter Tryz.func130, Tryz.ntmps130
      go_wp2
      go_quiet (fail)
      revert nq; intro n1
      go_wp2
      go_quiet (fail)
      revert nq; intro n2
      go_wp2
      have H1 := hide (sd_k1 (sd_dr H0.out (n1 + n2)) hlt)
      have K1 : Hid (Kp (fun j => j = R) w ((w.drewN (n1 + n2)).setCell ⟨R, 1, none⟩ (.int .i64 ((k : Int) + 1)))) := hide ((kp_drewN w _).trans (kp_r _ R 1 _) (fun j _ hj => hj))
      obtain ⟨W, hW⟩ : ∃ W, (w.drewN (n1 + n2)).setCell ⟨R, 1, none⟩ (.int .i64 ((k : Int) + 1)) = W := ⟨_, rfl⟩
      rw [hW] at H1 K1 ⊢
      clear hW c0 c1 c2 c3 f1 f2 ck hd hi0 hi1 hi2 hw
      cases hr2 : C.drop (k + 1) with
      | nil =>
        have hk : C.length ≤ k + 1 := List.drop_eq_nil_iff.1 hr2
        have E1 : Hid (inP (92 :: r) = none) := hide (by rw [E0.out, hr1, hr2]; rfl)
        obtain ⟨ta, tc, ad, cp, ⟨c0, c1, c2, c3⟩, f, -⟩ := sd_cells H1.out
        have f2 := f 2
        have ek : ((k + 1 : Nat) : Int) = (k : Int) + 1 := by omega
        rw [ek] at c1
        have hd : decide ((k : Int) + 1 ≥ (C.length : Int)) = true := decide_eq_true (by omega)
        have hi2 : (C.length : Int) ≤ (k : Int) + 1 := by omega
        clear ek f hr2 hr1 hr
        go_quiet (fail)
        go_wp2
        go_ret
        rw [E1.out]
        exact ⟨0, k + 1, rfl, sd_b (sd_dr H1.out _) true, kp_trS (kp_trS K1.out (kp_drewN W _)) (kp_r _ R 2 _)⟩
      | cons d r2 =>
        obtain ⟨b, off, tc, ad, cp, c0, c1, c2, c3, f1, f2, ck, hlt2⟩ := sd_here H1.out hr2
        obtain ⟨-, hr3, -⟩ := drop_at hr2
        have hdc := chB_cases (sd_ch H1.out d (by rw [← List.take_append_drop (k + 1) C, hr2]; simp))
        have ek : ((k + 1 : Nat) : Int) = (k : Int) + 1 := by omega
        rw [ek] at c1
        have hd : decide ((k : Int) + 1 ≥ (C.length : Int)) = false := decide_eq_false (by omega)
        have hi0 : (0 : Int) ≤ (k : Int) + 1 := by omega
        have hi1 : (k : Int) + 1 < (C.length : Int) := by omega
        have hi2 : ¬ (C.length : Int) ≤ (k : Int) + 1 := by omega
        have hi3 : ((k : Int) + 1).toNat = k + 1 := by omega
        have hw : IntKind.i64.wrap ((k : Int) + 1 + 1) = (k : Int) + 1 + 1 := by rw [IntKind.wrap_i64]; omega
        have CE := hide (fun W => s_esc d W)
        rcases es_of (c := d) (r := r2) (by omega) with ⟨he, hn⟩ | ⟨he, hn⟩
        · have E1 : Hid (inP (92 :: r) = none) := hide (by rw [E0.out, hr1, hr2, he])
          obtain ⟨x, hx⟩ : ∃ x, esC d = x := ⟨_, rfl⟩
          rw [hx] at CE hn
          have hnd : decide (x < 0) = true := decide_eq_true hn
          clear ek hr2 hr1 hr he hx
          go_quiet (first | (go_at_call 121; exact Calls.quiet_of_same (CE.out _)))
          go_wp2
          go_ret
          rw [E1.out]
          exact ⟨0, k + 1, rfl, sd_b (sd_dr H1.out _) true, kp_trS (kp_trS K1.out (kp_drewN W _)) (kp_r _ R 2 _)⟩
        · have E1 : Hid (inP (92 :: r) = some (esC d, r2)) := hide (by rw [E0.out, hr1, hr2, he])
          have HR3 := hide hr3
          obtain ⟨x, hx⟩ : ∃ x, esC d = x := ⟨_, rfl⟩
          rw [hx] at CE hn E1
          have hnd : decide (x < 0) = false := decide_eq_false (by omega)
          have HR2 := hide hr2
          clear ek hr2 hr1 hr he hx hr3
          go_quiet (first | (go_at_call 121; exact Calls.quiet_of_same (CE.out _)))
          revert nq; intro n1
          go_wp2
          have H2 := hide (sd_dr H1.out n1)
          have K2 : Hid (Kp (fun j => j = R) w (W.drewN n1)) := hide (kp_trS K1.out (kp_drewN W _))
          obtain ⟨W2, hW2⟩ : ∃ W2, W.drewN n1 = W2 := ⟨_, rfl⟩
          rw [hW2] at H2 K2 ⊢
          clear hW2 c0 c1 c2 c3 f1 f2 ck
          obtain ⟨b, off, tc, ad, cp, c0, c1, c2, c3, f1, f2, ck, -⟩ := sd_here H2.out HR2.out
          have ek : ((k + 1 : Nat) : Int) = (k : Int) + 1 := by omega
          rw [ek] at c1
          clear ek HR2
          go_quiet (first | (go_at_call 121; exact Calls.quiet_of_same (CE.out _)))
          revert nq; intro n2
          go_wp2
          go_ret
          rw [E1.out]
          have h9 := sd_k1 (sd_dr H2.out n2) hlt2
          have ek : ((k + 1 : Nat) : Int) + 1 = (k : Int) + 1 + 1 := by omega
          rw [ek] at h9
          exact ⟨k + 1 + 1, HR3.out, by omega, rfl, h9, kp_trS (kp_trS K2.out (kp_drewN W2 _)) (kp_r _ R 1 _)⟩
    · have b0 : (c == 92) = false := by simp [e1]
      have E0 : Hid (inP (c :: r) = if isS sgI c = true then none else some (c, r)) := hide (by rw [inP, if_neg e1])
      have HR1 := hide hr1
      by_cases e2 : c = 91 ∨ c = 93 ∨ c = 45 ∨ c = 94
      · have E1 : Hid (inP (c :: r) = none) := hide (by
          rw [E0.out, if_pos]
          rcases e2 with rfl | rfl | rfl | rfl <;> decide)
        clear E0 hr1 hr e1
        rcases e2 with rfl | rfl | rfl | rfl
        all_goals
          go_enter Tryz.func130, Tryz.ntmps130
          go_wp2
          go_quiet (fail)
          revert nq; intro n1
          go_wp2
          go_quiet (fail)
          revert nq; intro n2
          go_wp2
          go_ret
          rw [E1.out]
          exact ⟨_, k + 1, rfl, sd_b (sd_k1 (sd_dr H0.out (n1 + n2)) hlt) true, kp_trS (kp_trS (kp_drewN w _) (kp_r _ R 1 _)) (kp_r _ R 2 _)⟩
      · have b1 : (c == 91) = false := by simp; omega
        have b2 : (c == 93) = false := by simp; omega
        have b3 : (c == 45) = false := by simp; omega
        have b4 : (c == 94) = false := by simp; omega
        have E1 : Hid (inP (c :: r) = some (c, r)) := hide (by
          rw [E0.out, if_neg]
          unfold isS sgI
          simp
          omega)
        clear E0 hr1 hr e1 e2
        go_enter Tryz.func130, Tryz.ntmps130
        go_wp2
        go_quiet (fail)
        revert nq; intro n1
        go_wp2
        go_quiet (fail)
        revert nq; intro n2
        go_wp2
        go_ret
        rw [E1.out]
        exact ⟨k + 1, HR1.out, by omega, rfl, sd_k1 (sd_dr H0.out (n1 + n2)) hlt, kp_trS (kp_drewN w _) (kp_r _ R 1 _)⟩
end Go.Proofs.YtepommmmmfaihaaGreatDoor
