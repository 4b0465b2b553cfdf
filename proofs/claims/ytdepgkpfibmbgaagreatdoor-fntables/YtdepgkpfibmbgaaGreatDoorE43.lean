/-
  Texts put together: TtM, TtW.
-/
import Derived.Test.YtdepgkpfibmbgaaGreatDoorE21
import Derived.Test.YtdepgkpfibmbgaaGreatDoorE27
import Derived.Test.YtdepgkpfibmbgaaGreatDoorE37
import Derived.Test.YtdepgkpfibmbgaaGreatDoorE42
import Derived.Deep.DeepCutAuto
/-
  Plain facts for FnTables: what a table's rows are; how a table is read; two rows of like texts.
-/
namespace Go.Proofs.YtdepgkpfibmbgaaGreatDoor
open Go.RowKit Go.Joins
set_option linter.unusedVariables false
set_option linter.unusedSimpArgs false
theorem selV_ky {D : Dc} {x : Int} {k : Ky} (hk : KeyOne k) (ht : txOk D x = true) : selV D x k.pa = kyP D x.toNat k := by
  unfold selV kyP
  rw [hk.2.2.2.1, ht]
  rfl
theorem tt_el {D : Dc} {x j : Int} {s : ByteArray} (h : j ∈ selV D x s) : txOk D j = true ∧ 0 ≤ j ∧ j < D.n := by
  obtain ⟨h1, h2, ⟨h3, h4⟩, -, h5, -⟩ := se_facts h
  refine ⟨?_, h3, h4⟩
  unfold txOk at h1 ⊢
  simp only [Bool.and_eq_true, decide_eq_true_eq] at h1 ⊢
  exact ⟨h1.1, ⟨h3, by omega⟩, by rw [h5]; rfl⟩
theorem tt_fo {D : Dc} {j : Nat} {y : Int} {k : Ky} (hk : KeyOne k) (hj : j < k.fl.length) (ht : txOk D y = true) : foV D y (k.fl[j]?.getD ⟨#[]⟩) = fvF D y.toNat (kyQ k j) := by
  have h := hk.2.2.2.2.2 j hj
  cases hf : fld (k.fl[j]?.getD ⟨#[]⟩).data.toList with
  | none => rw [hf] at h; cases h
  | some q =>
    rw [fo_some hf ht]
    have e : kyQ k j = q := by unfold kyQ; rw [hf]; rfl
    rw [e]
    rfl
section
variable {D : Dc} {kd : Int} {Qs : Nat → List (List UInt8) × List UInt8} {nf : Nat} {L : List Int}
theorem tb_pre : ∀ (d i : Nat) (T : List (List ByteArray)), tbI D kd Qs nf L (i + d) = some T → ∃ Ti R, tbI D kd Qs nf L i = some Ti ∧ T = Ti ++ R
  | 0, i, T, h => ⟨T, [], h, by simp⟩
  | d + 1, i, T, h => by
    obtain ⟨T1, R, h1, h2⟩ := tb_pre d (i + 1) T (by rw [show i + 1 + d = i + (d + 1) by omega]; exact h)
    rw [tbI] at h1
    cases h3 : tbI D kd Qs nf L i with
    | none => rw [h3] at h1; cases h1
    | some Ti =>
      rw [h3] at h1
      dsimp only at h1
      cases h4 : rwI D (L[i]?.getD 0).toNat kd Qs nf with
      | none => rw [h4] at h1; cases h1
      | some r =>
        rw [h4] at h1
        dsimp only at h1
        by_cases h5 : r.length = nf
        · rw [if_pos h5] at h1
          cases h1
          exact ⟨Ti, [r] ++ R, rfl, by rw [h2, List.append_assoc]⟩
        · rw [if_neg h5] at h1
          cases h1
          exact ⟨_, R, rfl, h2⟩
theorem tb_rw {i d : Nat} {T : List (List ByteArray)} (h : tbI D kd Qs nf L (i + 1 + d) = some T) : ∃ r, rwI D (L[i]?.getD 0).toNat kd Qs nf = some r := by
  obtain ⟨T1, R, h1, -⟩ := tb_pre d (i + 1) T h
  rw [tbI] at h1
  cases h3 : tbI D kd Qs nf L i with
  | none => rw [h3] at h1; cases h1
  | some Ti =>
    rw [h3] at h1
    dsimp only at h1
    cases h4 : rwI D (L[i]?.getD 0).toNat kd Qs nf with
    | none => rw [h4] at h1; cases h1
    | some r => exact ⟨r, rfl⟩
theorem rw_pre {p j d : Nat} {r : List ByteArray} (h : rwI D p kd Qs (j + d) = some r) : ∃ r1, rwI D p kd Qs j = some r1 := by
  cases h1 : rwI D p kd Qs j with
  | none => rw [rw_stop h1 d] at h; cases h
  | some r1 => exact ⟨r1, rfl⟩
/-- One field more, in a row that is not broken. -/
theorem rw_next {p j d : Nat} {r r0 : List ByteArray} {v : ByteArray} {m : Int} (h : rwI D p kd Qs (j + 1 + d) = some r) (h0 : rwI D p kd Qs j = some r0) (hv : fvF D p (Qs j) = (v, m)) : rwI D p kd Qs (j + 1) = some (if m = 1 then r0 ++ [v] else r0) := by
  by_cases h1 : m = 1
  · rw [if_pos h1]; exact rw_one h0 hv h1
  · rw [if_neg h1]
    refine rw_skip h0 hv (fun hb => ?_) h1
    obtain ⟨r1, h2⟩ := rw_pre h
    rw [rw_bad h0 hv hb] at h2
    cases h2
/-- The next place of a table that is not broken. -/
theorem tb_next {i d R : Nat} {T Ti : List (List ByteArray)} {r : List ByteArray} (h : tbI D kd Qs nf L (i + 1 + d) = some T) (hi : tbI D kd Qs nf L i = some Ti) (hR : Ti.length = R) (hr : rwI D (L[i]?.getD 0).toNat kd Qs nf = some r) :
    (r.length = nf → R < T.length ∧ T[R]?.getD [] = r ∧ tbI D kd Qs nf L (i + 1) = some (Ti ++ [r])) ∧ (r.length ≠ nf → tbI D kd Qs nf L (i + 1) = some Ti) := by
  refine ⟨fun hl => ?_, fun hl => tb_skip hi rfl hr hl⟩
  have h1 := tb_yes hi rfl hr hl
  obtain ⟨T1, R1, h2, h3⟩ := tb_pre d (i + 1) T h
  rw [h1] at h2
  cases h2
  subst hR
  rw [h3]
  refine ⟨by simp, ?_, h1⟩
  rw [List.append_assoc, List.getElem?_append_right (Nat.le_refl _), Nat.sub_self]
  rfl
end
/-- A table, to be read. -/
def TabV (w : World) (a : Option Addr) (T : List (List ByteArray)) (B : Nat) : Prop := T ≠ [] → ∃ b off, a = some ⟨b, off, none⟩ ∧ b < B ∧ ∀ j, j < T.length → ∃ ad cp, w.cell? ⟨b, off + j, none⟩ = some (.slice ad (T[j]?.getD []).length cp) ∧ TxAt w ad (T[j]?.getD []) B
theorem tv_go {w w' : World} {a : Option Addr} {T : List (List ByteArray)} {B : Nat} (h : TabV w a T B) (hb : Below B w w') : TabV w' a T B := fun h0 => by
  obtain ⟨b, off, e, hl, hc⟩ := h h0
  refine ⟨b, off, e, hl, fun j hj => ?_⟩
  obtain ⟨ad, cp, h1, h2⟩ := hc j hj
  exact ⟨ad, cp, (hb.cell (p := ⟨b, off + j, none⟩) hl).trans h1, tx_go h2 hb⟩
theorem tv_up {w : World} {a : Option Addr} {T : List (List ByteArray)} {B B' : Nat} (h : TabV w a T B) (hB : B ≤ B') : TabV w a T B' := fun h0 => by
  obtain ⟨b, off, e, hl, hc⟩ := h h0
  refine ⟨b, off, e, Nat.lt_of_lt_of_le hl hB, fun j hj => ?_⟩
  obtain ⟨ad, cp, h1, h2⟩ := hc j hj
  exact ⟨ad, cp, h1, tx_up h2 hB⟩
theorem tv_own {w : World} {B k c : Nat} {ad : Option Addr} {cs : List Value} {T : List (List ByteArray)} (h : w.ownsRow B 25 1 (.slice ad k c) k cs) (hr : RrS B w cs T) (hk : T.length = k) : TabV w ad T w.heap.size := fun h0 => by
  have hl := h.1
  rcases h.2 with ⟨-, hz⟩ | ⟨g, cap, cur, hv, hB, hh, -, -, -, hx⟩
  · exact absurd (List.length_eq_zero_iff.1 (by omega)) h0
  · simp only [Value.slice.injEq] at hv
    obtain ⟨rfl, -, rfl⟩ := hv
    refine ⟨g, 0, rfl, (Array.getElem?_eq_some_iff.1 hh).1, fun j hj => ?_⟩
    obtain ⟨a, c2, h1, h2⟩ := hr.2.1 j hj
    refine ⟨a, c2, ?_, tx_own h2⟩
    have := h.cellAt j (by omega)
    rw [Nat.zero_add, this, h1]
/-- What a call of TableOf leaves, to be read. -/
theorem tv_ans {o : Option (List (List ByteArray))} {w w' : World} {e : Ending} {TT : List (List ByteArray)} {N : Nat} {ok : Bool} (h : TabAns o w e w') (hT : o.getD [] = TT) (hN : TT.length = N) (hok : o.isSome = ok) : Below w.heap.size w w' ∧ ∃ ta tc, e = .returned (.tuple #[.slice ta N tc, .bool ok]) ∧ TabV w' ta TT w'.heap.size := by
  obtain ⟨hb, ⟨ta, tc, T, k, cs, ho, hk, rfl, h1, h2⟩ | ⟨ho, rfl⟩⟩ := h
  · subst ho
    have e1 : T = TT := hT
    subst e1
    subst hok
    have e2 : k = N := by omega
    subst e2
    exact ⟨hb, ta, tc, rfl, tv_own h1 h2 hk⟩
  · subst ho
    have e1 : [] = TT := hT
    subst e1
    subst hok
    have e2 : 0 = N := hN
    subst e2
    exact ⟨hb, none, 0, rfl, fun h0 => absurd rfl h0⟩
theorem tt_drewN (w : World) (q : Nat) : Below w.heap.size w (w.drewN q) := ⟨rfl, rfl, rfl, Nat.le_refl _, fun _ _ => rfl⟩
set_option maxHeartbeats 1000000 in
theorem l_sameTx (a1 a2 : Option Addr) (n c1 c2 : Nat) (L : List ByteArray) (w : World) (hL : L.length = n) (hn : n ≤ 1048576) (h1 : TxAt w a1 L w.heap.size) (h2 : TxAt w a2 L w.heap.size) :
    Calls Tryz.prog 11 #[.slice a1 n c1, .slice a2 n c2] w fun e w' => e = .returned (.bool true) ∧ Below w.heap.size w w' := by
  have HL := hide hL
  have H1 := hide h1
  have H2 := hide h2
  clear hL h1 h2
  go_enter Tryz.func11, Tryz.ntmps11
  go_wp2
  go_loopw [5] (fun i wr => ∃ k : Nat, k ≤ n ∧ i = .int .i64 k ∧ Below w.heap.size w wr) (fun i _ => n - (intOf i).toNat)
  case atStart => exact ⟨0, Nat.zero_le _, rfl, Below.refl _ _⟩
  case round =>
    obtain ⟨k, hk, rfl, hb⟩ := hrel
    by_cases hlt : k < n
    · have hlt2 : k < L.length := by rw [HL.out]; exact hlt
      have hne : L ≠ [] := fun h => by rw [h] at hlt2; exact absurd hlt2 (Nat.not_lt_zero _)
      obtain ⟨b, off, rfl, hbs, hc⟩ := H1.out hne
      obtain ⟨b', off', rfl, hbs', hc'⟩ := H2.out hne
      have k1 := (hb.cell (p := ⟨b, off + k, none⟩) hbs).trans (hc k hlt2)
      have k2 := (hb.cell (p := ⟨b', off' + k, none⟩) hbs').trans (hc' k hlt2)
      have hi : (k : Int) < (n : Int) := by omega
      have hi0 : (0 : Int) ≤ (k : Int) := by omega
      have HB := hide hb
      obtain ⟨T, hT⟩ : ∃ T, L[k]?.getD ⟨#[]⟩ = T := ⟨_, rfl⟩
      rw [hT] at k1 k2
      clear hc hc' hb hT hne
      go_wp2
      go_quiet (fail)
      go_wp2
      go_roundw
      case rel => exact ⟨k + 1, by omega, by go_num, HB.out.trans ((tt_drewN _ _).mono HB.out.size)⟩
      case measure => simp [intOf]; omega
    · go_wp2
      go_ret
      exact ⟨rfl, hb⟩
end Go.Proofs.YtdepgkpfibmbgaaGreatDoor

/-
  The walk of FnTables: the two answers are one; a table has a row for each element that is selected and has all fields, with what they say.
-/
namespace Go.Proofs.YtdepgkpfibmbgaaGreatDoor
open Go.RowKit Go.Joins
set_option linter.unusedVariables false
set_option linter.unusedSimpArgs false
theorem kd_goT {w w' : World} {G B : Nat} {cs : Array Value} (h : KdAt w G cs) (hG : G < B) (hb : Below B w w') : KdAt w' G cs := by
  obtain ⟨T, hT⟩ := h
  exact ⟨T, (hb.block G hG).trans hT⟩
theorem tt_len {x : Option (List (List ByteArray))} {T : List (List ByteArray)} (h : x = some T) : x.getD [] = T := by rw [h]; rfl
set_option maxRecDepth 100000 in
set_option maxHeartbeats 16000000 in
theorem tt_walk (a : Option Addr) (n cap : Nat) (zs : List Int) (w : World) (hl : zs.length = n) (hz : ∀ x ∈ zs, 0 ≤ x ∧ x ≤ 255) (hn : n ≤ 1048576) (hs : SrcAt w a zs w.heap.size) (hT : Tabs w) (hM : MaxL w) :
    Calls Tryz.prog 3 #[.slice a n cap] w fun e w' => e = .returned (.bool true) ∧ Below w.heap.size w w' := by
  obtain ⟨i0, hi0, hz0, hz1, hz2⟩ := info_parts infoStrT
  have hn' : ¬ (1048576 : Int) < (n : Int) := by omega
  have HT := hide hT
  have HM := hide hM
  have CD := hide (d_tab a n cap zs w hl hz hn hs)
  clear hs hl hz hT hM
  go_enter Tryz.func3, Tryz.ntmps3
  go_wp2_with (go_at_call 5; go_in)
  refine CD.out.mono ?_
  rintro e w1 ⟨ad, m, c, D, x, kad, cp, ⟨nm, kd, on, pa, fl, re⟩, rfl, hD, ⟨hm1, hm2⟩, htot, hdc, hok, hf2, hcp, hf8, htx, hb1⟩
  dsimp only at hok hf2 hcp hf8 htx ⊢
  have z5 : ∀ i, i < fl.length → (fl[i]?.getD ⟨#[]⟩).size ≤ 1048576 := fun i hi => by
    rw [List.getElem?_eq_getElem hi]
    have := hf8 _ (List.getElem_mem hi)
    show (fl[i]).size ≤ _
    omega
  obtain ⟨z0, z1, z2, z3, z4, z6⟩ := hok
  have B1 := hide hb1
  have CI : Hid (∀ W, Below w1.heap.size w1 W → Calls Tryz.prog 7 #[.slice ad m c, .int .i64 x, .agg #[.string nm, .int .i64 kd, .string on, .string pa, .slice kad fl.length cp, .string re]] W (TabAns (tbO D x ⟨nm, kd, on, pa, fl, re⟩) W)) := hide (fun W hb => i_tableOf D m ad c x ⟨nm, kd, on, pa, fl, re⟩ kad cp W hD htot (by show nm.size ≤ _; omega) (by show on.size ≤ _; omega) (by show pa.size ≤ _; omega) (by show fl.length ≤ _; omega) z5 (dcAt_up (dcAt_go hdc hb) hb.size) (tx_up (tx_go htx hb) hb.size) (tabs_below HT.out (hb1.trans (hb.mono hb1.size))) (maxL_go HM.out (hb1.trans (hb.mono hb1.size)) (Nat.le_refl _)))
  have CS : Hid (∀ W, Below w1.heap.size w1 W → Calls Tryz.prog 8 #[.slice ad m c, .int .i64 x, .agg #[.string nm, .int .i64 kd, .string on, .string pa, .slice kad fl.length cp, .string re]] W (TabAns (tbO D x ⟨nm, kd, on, pa, fl, re⟩) W)) := hide (fun W hb => s_tableOf D m ad c x ⟨nm, kd, on, pa, fl, re⟩ kad cp W hD htot (by show nm.size ≤ _; omega) (by show on.size ≤ _; omega) (by show pa.size ≤ _; omega) (by show fl.length ≤ _; omega) z5 hcp (dcAt_up (dcAt_go hdc hb) hb.size) (tx_up (tx_go htx hb) hb.size))
  have CL : Hid (∀ W, Below w1.heap.size w1 W → Calls Tryz.prog 9 #[.slice ad m c, .int .i64 x, .string pa] W (SelAns D x pa W)) := hide (fun W hb => i_select D m ad c x pa W hD htot (by omega) (dcAt_up (dcAt_go hdc hb) hb.size) (tabs_below HT.out (hb1.trans (hb.mono hb1.size))) (maxL_go HM.out (hb1.trans (hb.mono hb1.size)) (Nat.le_refl _)))
  have CF : Hid (∀ (y : Int) (j : Nat) (W : World), j < fl.length → Below w1.heap.size w1 W → Calls Tryz.prog 10 #[.slice ad m c, .int .i64 y, .string (fl[j]?.getD ⟨#[]⟩)] W (FoAns D y (fl[j]?.getD ⟨#[]⟩) W)) := hide (fun y j W hj hb => i_fieldOf D m ad c y _ W hD htot (z5 j hj) (dcAt_up (dcAt_go hdc hb) hb.size) (tabs_below HT.out (hb1.trans (hb.mono hb1.size))) (maxL_go HM.out (hb1.trans (hb.mono hb1.size)) (Nat.le_refl _)))
  have HTX := hide htx
  have HD := hide hD
  obtain ⟨O, hO⟩ : ∃ O, tbO D x ⟨nm, kd, on, pa, fl, re⟩ = O := ⟨_, rfl⟩
  have HO := hide hO
  rw [hO] at CI CS
  obtain ⟨TT, hTT⟩ : ∃ TT, O.getD [] = TT := ⟨_, rfl⟩
  obtain ⟨N, hN⟩ : ∃ N, TT.length = N := ⟨_, rfl⟩
  obtain ⟨ok, hokk⟩ : ∃ ok, O.isSome = ok := ⟨_, rfl⟩
  have HNN := hide hN
  have HTT := hide hTT
  have HOK := hide hokk
  have HF2 := hide hf2
  have hf2i : (fl.length : Int) ≤ 2 := by omega
  have HKC := hide (kd_new w1 #[.string nm, .int .i64 kd, .string on, .string pa, .slice kad fl.length cp, .string re] 27)
  have HSX := hide ((Below.refl w1.heap.size w1).alloc (Nat.le_refl _) (.cells #[.string nm, .int .i64 kd, .string on, .string pa, .slice kad fl.length cp, .string re] 27))
  clear hD htot hdc hf8 hcp htx hb1 z5 z0 z1 z2 z3 z4 z6 hO hTT hN hokk CD hf2
  go_wp2_with fail
  refine (CI.out _ HSX.out).mono ?_
  rintro e w2 h2
  obtain ⟨hb2, ta, tc, rfl, hv2⟩ := tv_ans h2 HTT.out HNN.out HOK.out
  have B2 := hide (HSX.out.trans (hb2.mono HSX.out.size))
  have HKC2 := hide (kd_go HKC.out hb2)
  have HV2 := hide hv2
  clear h2 hb2 hv2
  obtain ⟨k0, k1, k2, k3, k4, k5⟩ := (show w2.cell? ⟨w1.heap.size, 0, none⟩ = some (.string nm) ∧ w2.cell? ⟨w1.heap.size, 1, none⟩ = some (.int .i64 kd) ∧ w2.cell? ⟨w1.heap.size, 2, none⟩ = some (.string on) ∧ w2.cell? ⟨w1.heap.size, 3, none⟩ = some (.string pa) ∧ w2.cell? ⟨w1.heap.size, 4, none⟩ = some (.slice kad fl.length cp) ∧ w2.cell? ⟨w1.heap.size, 5, none⟩ = some (.string re) from ⟨kd_cell HKC2.out 0, kd_cell HKC2.out 1, kd_cell HKC2.out 2, kd_cell HKC2.out 3, kd_cell HKC2.out 4, kd_cell HKC2.out 5⟩)
  go_wp2_with fail
  refine (CS.out _ B2.out).mono ?_
  rintro e w3 h3
  obtain ⟨hb3, tb, td, rfl, -⟩ := tv_ans h3 HTT.out HNN.out HOK.out
  have B3 := hide (B2.out.trans (hb3.mono B2.out.size))
  have HKC3 := hide (kd_go HKC2.out hb3)
  have HV3 := hide (tv_up (tv_go HV2.out hb3) hb3.size)
  clear h3 hb3 k0 k1 k2 k3 k4 k5
  cases ok
  · go_wp2
    go_ret
    exact ⟨rfl, B1.out.trans (B3.out.mono B1.out.size)⟩
  have hok1 : O = some TT := by
    have h1 := HOK.out
    have h2 := HTT.out
    cases hO2 : O with
    | none => rw [hO2] at h1; cases h1
    | some T => rw [hO2] at h2; exact congrArg some h2
  have hyes : KeyOne ⟨nm, kd, on, pa, fl, re⟩ ∧ txOk D x = true := by
    by_cases h : KeyOne ⟨nm, kd, on, pa, fl, re⟩ ∧ txOk D x = true
    · exact h
    · have h9 := HO.out
      rw [tbO_no h, hok1] at h9
      cases h9
  have HTB : Hid (tbI D kd (kyQ ⟨nm, kd, on, pa, fl, re⟩) fl.length (kyP D x.toNat ⟨nm, kd, on, pa, fl, re⟩) (kyP D x.toNat ⟨nm, kd, on, pa, fl, re⟩).length = some TT) := hide (by
    have h9 := HO.out
    rw [tbO_yes hyes.1 hyes.2, hok1] at h9
    exact h9)
  have HSV := hide (selV_ky hyes.1 hyes.2)
  have HEL := hide (fun (j : Int) (hj : j ∈ kyP D x.toNat ⟨nm, kd, on, pa, fl, re⟩) => tt_el (D := D) (x := x) (s := pa) (by rw [show selV D x pa = kyP D x.toNat ⟨nm, kd, on, pa, fl, re⟩ from selV_ky hyes.1 hyes.2]; exact hj))
  have HFO := hide (fun (j : Nat) (y : Int) (hj : j < fl.length) (hy : txOk D y = true) => tt_fo (D := D) (j := j) (y := y) (k := ⟨nm, kd, on, pa, fl, re⟩) hyes.1 hj hy)
  clear hok1 hyes
  obtain ⟨k0, k1, k2, k3, k4, k5⟩ := (show w3.cell? ⟨w1.heap.size, 0, none⟩ = some (.string nm) ∧ w3.cell? ⟨w1.heap.size, 1, none⟩ = some (.int .i64 kd) ∧ w3.cell? ⟨w1.heap.size, 2, none⟩ = some (.string on) ∧ w3.cell? ⟨w1.heap.size, 3, none⟩ = some (.string pa) ∧ w3.cell? ⟨w1.heap.size, 4, none⟩ = some (.slice kad fl.length cp) ∧ w3.cell? ⟨w1.heap.size, 5, none⟩ = some (.string re) from ⟨kd_cell HKC3.out 0, kd_cell HKC3.out 1, kd_cell HKC3.out 2, kd_cell HKC3.out 3, kd_cell HKC3.out 4, kd_cell HKC3.out 5⟩)
  go_wp2_with fail
  refine (CL.out _ B3.out).mono ?_
  rintro e w4 ⟨sa, sc, rfl, hint, hb4⟩
  have hkl := selV_len (D := D) (x := x) (s := pa)
  have hsv : selV D x pa = kyP D x.toNat ⟨nm, kd, on, pa, fl, re⟩ := HSV.out
  rw [hsv] at hint hkl ⊢
  obtain ⟨L, hL⟩ : ∃ L, kyP D x.toNat ⟨nm, kd, on, pa, fl, re⟩ = L := ⟨_, rfl⟩
  rw [hL] at hint HTB HEL hkl ⊢
  obtain ⟨Q, hQ⟩ : ∃ Q, kyQ ⟨nm, kd, on, pa, fl, re⟩ = Q := ⟨_, rfl⟩
  rw [hQ] at HTB HFO
  have B4 := hide (B3.out.trans (hb4.mono B3.out.size))
  have HKC4 := hide (kd_go HKC3.out hb4)
  have HV4 := hide (tv_up (tv_go HV3.out hb4) hb4.size)
  have HIN := hide hint
  have hw14 : w1.heap.size < w4.heap.size := kd_lt HKC4.out
  clear hint hb4 hL hQ hsv HSV k0 k1 k2 k3 k4 k5 HKC HKC2 HKC3 HV2 HV3 CI CS CL
  go_wp2
  go_loopw [11, 12] (fun rv iv wr => ∃ i R : Nat, i ≤ L.length ∧ R ≤ i ∧ iv = .int .i64 i ∧ rv = .int .i64 R ∧ Hid (∃ Ti, tbI D kd Q fl.length L i = some Ti ∧ Ti.length = R) ∧ Hid (Below w4.heap.size w4 wr)) (fun _ iv _ => L.length - (intOf iv).toNat)
  case atStart => exact ⟨0, 0, Nat.zero_le _, Nat.le_refl _, rfl, rfl, hide ⟨[], rfl, rfl⟩, hide (Below.refl _ _)⟩
  case round =>
    obtain ⟨i, R, hi, hRi9, rfl, rfl, HTI, HBR⟩ := hrel
    obtain ⟨WR, hWR⟩ : ∃ W, W = wr := ⟨_, rfl⟩
    subst hWR
    by_cases hlt : i < L.length
    · have hii : (i : Int) < (L.length : Int) := by omega
      have hii0 : (0 : Int) ≤ (i : Int) := by omega
      obtain ⟨g, rfl, hg1, hg2⟩ := ti_at HIN.out i hlt
      obtain ⟨y, hy⟩ : ∃ y, L[i]?.getD 0 = y := ⟨_, rfl⟩
      have hyL : y ∈ L := by rw [← hy, List.getElem?_eq_getElem hlt]; exact List.getElem_mem hlt
      have hel := HEL.out y hyL
      have hrow : ∃ r, rwI D y.toNat kd Q fl.length = some r := by
        have h9 := tb_rw (i := i) (d := L.length - (i + 1)) (by rw [show i + 1 + (L.length - (i + 1)) = L.length by omega]; exact HTB.out)
        rw [hy] at h9
        exact h9
      obtain ⟨rr, hrr⟩ := hrow
      have HRR := hide hrr
      have HY := hide hy
      have HTXY := hide hel.1
      rw [hy] at hg2
      have HG2 := hide hg2
      clear hrr hy hyL hel hg2
      go_wp2
      go_loopw [13, 14] (fun rowv jv wi => ∃ (j rn : Nat) (ra : Option Addr) (rc : Nat) (r : List ByteArray), j ≤ fl.length ∧ jv = .int .i64 j ∧ rowv = .slice ra rn rc ∧ rn ≤ j ∧ Hid (r.length = rn ∧ rwI D y.toNat kd Q j = some r) ∧ Hid (wi.ownsRow WR.heap.size 9 1 (.slice ra rn rc) rn (r.map Value.string)) ∧ Hid (Below WR.heap.size WR wi)) (fun _ jv _ => fl.length - (intOf jv).toNat)
      case atStart => exact ⟨0, 0, _, 0, [], Nat.zero_le _, rfl, rfl, Nat.le_refl _, hide ⟨rfl, rfl⟩, hide (World.ownsRow_made (base := WR.heap.size) (e := 9) (size := 1) WR #[] 0 (Nat.le_refl _) (Nat.zero_le _) rfl), hide ((Below.refl _ _).alloc (Nat.le_refl _) _)⟩
      case round =>
        obtain ⟨j, rn, ra, rc, r, hj, rfl, rfl, hrj, HR, HOW, HBI⟩ := hrel
        have HB4I := hide (HBR.out.trans (HBI.out.mono HBR.out.size))
        have HB1I := hide (B4.out.trans (HB4I.out.mono B4.out.size))
        have k4 := kd_cell (kd_goT HKC4.out hw14 HB4I.out) 4
        simp at k4
        by_cases hjl : j < fl.length
        · have hji : (j : Int) < (fl.length : Int) := by omega
          have hji0 : (0 : Int) ≤ (j : Int) := by omega
          have hgi := (HB4I.out.cell (p := ⟨g, i, none⟩) hg1).trans HG2.out
          obtain ⟨fb, foff, rfl, hfb, hfc⟩ := tx_cell HTX.out j hjl
          have hfci := (HB1I.out.cell (p := ⟨fb, foff + j, none⟩) hfb).trans (hfc j hjl)
          have hB1d : Below w1.heap.size w1 wr.drew := HB1I.out.trans ⟨rfl, rfl, rfl, Nat.le_refl _, fun _ _ => rfl⟩
          have CF2 := hide (CF.out y j wr.drew hjl hB1d)
          have hfv := HFO.out j y hjl HTXY.out
          unfold FoAns at CF2
          rw [hfv] at CF2
          obtain ⟨V, hV⟩ : ∃ V, fvF D y.toNat (Q j) = V := ⟨_, rfl⟩
          rw [hV] at CF2
          obtain ⟨v, many⟩ := V
          dsimp only at CF2
          have HRN := hide (rw_next (d := fl.length - (j + 1)) (by rw [show j + 1 + (fl.length - (j + 1)) = fl.length by omega]; exact HRR.out) HR.out.2 hV)
          obtain ⟨F, hF⟩ : ∃ F, fl[j]?.getD ⟨#[]⟩ = F := ⟨_, rfl⟩
          rw [hF] at hfci CF2
          clear hfc hfv hV hF hB1d
          go_upto_region 17 with fail
          go_cut [15, 16] (fun vv mv wx => vv = .string v ∧ mv = .int .i64 many ∧ Hid (Below wr.heap.size wr wx))
          case first =>
            go_region_with (go_at_call 10; refine CF2.out.mono ?_; rintro e w5 ⟨rfl, hb5⟩; have HH5 : Hid (Below wr.heap.size wr w5) := hide ⟨hb5.os, hb5.tape, hb5.output, hb5.size, hb5.block⟩; clear hb5)
            all_goals
              go_wp2
              go_meet
              exact ⟨rfl, rfl, HH5⟩
          case rest =>
            obtain ⟨rfl, rfl, HH5⟩ := hcut
            have HOW5 := hide (gOwn_after HOW.out HH5.out)
            have HBI5 := hide (HBI.out.trans (HH5.out.mono HBI.out.size))
            have hwr := HBI5.out.size
            clear hgi hfci k4
            by_cases h1 : many = 1
            · have h1b : (many == 1) = true := by rw [h1]; rfl
              have HRN2 : Hid (rwI D y.toNat kd Q (j + 1) = some (r ++ [v])) := hide (by have h9 := HRN.out; rw [if_pos h1] at h9; exact h9)
              clear h1 HRN
              go_wp2_with (at_builtin; refine wpList_append_own _ rfl (.tmp 98) (.tmp 100) 25 rfl WR.heap.size 9 i0 (.string ByteArray.empty) 1 16 Tryz.underlying25 hi0 hz0 hz1 hz2 rfl (by decide) _ _ _ rfl (HOW5.out.alloc _) ⟨wc.heap.size, 0, none⟩ 1 1 [.string v] rfl rfl (fun j u hj => gOne_new wc _ _ j u hj) (gStr_list _) (by unfold maxLen; omega) (by omega) (by simp; omega) ?_; intro v2 w7 hown2 hgrow2 _; obtain ⟨ad2, c2', hv2⟩ := gOwn_shape hown2; rw [hv2] at hown2 ⊢; clear hv2; have HB7 := hide (gBelow_one HBI5.out HOW5.out hgrow2); have HO7 := hide hown2; clear hown2 hgrow2)
              go_roundw
              case rel => exact ⟨j + 1, rn + 1, ad2, c2', r ++ [v], by omega, by go_num, rfl, by omega, hide ⟨by rw [List.length_append, HR.out.1]; rfl, HRN2.out⟩, hide (by rw [List.map_append]; exact HO7.out), HB7⟩
              case measure => simp [intOf]; omega
            · have h1b : (many == 1) = false := by rw [beq_eq_false_iff_ne]; exact h1
              have HRN2 : Hid (rwI D y.toNat kd Q (j + 1) = some r) := hide (by have h9 := HRN.out; rw [if_neg h1] at h9; exact h9)
              clear h1 HRN
              go_wp2
              go_roundw
              case rel => exact ⟨j + 1, rn, ra, rc, r, by omega, by go_num, rfl, by omega, hide ⟨HR.out.1, HRN2.out⟩, HOW5, HBI5⟩
              case measure => simp [intOf]; omega
        · have hje : j = fl.length := by omega
          have hrr2 : rr = r := by
            have h9 := HR.out.2
            rw [hje, HRR.out] at h9
            cases h9
            rfl
          have hrl : r.length ≤ fl.length := by
            have h9 := HR.out.2
            rw [hje] at h9
            exact rw_len _ _ h9
          have hrn : rn ≤ fl.length := by have := HR.out.1; omega
          obtain ⟨Ti, hTi, hTR⟩ := HTI.out
          have HNX := hide (tb_next (d := L.length - (i + 1)) (r := r) (by rw [show i + 1 + (L.length - (i + 1)) = L.length by omega]; exact HTB.out) hTi hTR (by rw [HY.out, ← hrr2]; exact HRR.out))
          have HRL := hide HR.out.1
          have hji : ¬ (j : Int) < (fl.length : Int) := by omega
          have HTR := hide hTR
          clear hje hrr2 hrl hTi hTR
          by_cases hsh : rn < fl.length
          · have hshi : (rn : Int) < (fl.length : Int) := by omega
            have HN2 := hide (HNX.out.2 (by rw [HRL.out]; omega))
            go_wp2
            go_roundw
            case rel => exact ⟨i + 1, R, by omega, by omega, by go_num, rfl, hide ⟨Ti, HN2.out, HTR.out⟩, HB4I⟩
            case measure => simp [intOf]; omega
          · have hshi : ¬ (rn : Int) < (fl.length : Int) := by omega
            obtain ⟨n1, n2, n3⟩ := HNX.out.1 (by rw [HRL.out]; omega)
            have HN3 := hide n3
            have hRN : R < N := by rw [← HNN.out]; exact n1
            obtain ⟨tbk, tof, rfl, htb, htc⟩ := HV4.out (fun e => by rw [e] at n1; simp at n1)
            obtain ⟨ad9, cp9, hc9, ht9⟩ := htc R n1
            rw [n2] at hc9 ht9
            have hc9i := (HB4I.out.cell (p := ⟨tbk, tof + R, none⟩) htb).trans hc9
            rw [HRL.out] at hc9i
            have HSM := hide (l_sameTx ad9 ra rn cp9 rc r wr HRL.out (by omega) (tx_up (tx_go ht9 HB4I.out) HB4I.out.size) (tx_own HOW.out))
            have hRi : (R : Int) < (N : Int) := by omega
            have hRi2 : ¬ (N : Int) ≤ (R : Int) := by omega
            have hR0 : (0 : Int) ≤ (R : Int) := by omega
            clear htc n1 n2 n3 hc9 ht9
            go_wp2_with (go_at_call 11; refine HSM.out.mono ?_; rintro e w8 ⟨rfl, hb8⟩; have HB8 := hide (HB4I.out.trans (hb8.mono HB4I.out.size)); clear hb8)
            go_roundw
            case rel => exact ⟨i + 1, R + 1, by omega, by omega, by go_num, by go_num, hide ⟨Ti ++ [r], HN3.out, by rw [List.length_append, HTR.out]; rfl⟩, HB8⟩
            case measure => simp [intOf]; omega
    · have hie : i = L.length := by omega
      have hRN : R = N := by
        obtain ⟨Ti, hTi, hTR⟩ := HTI.out
        rw [hie, HTB.out] at hTi
        cases hTi
        rw [← hTR, HNN.out]
      have hRb : ((R : Int) == (N : Int)) = true := by rw [hRN, beq_iff_eq]
      have hii : ¬ (i : Int) < (L.length : Int) := by omega
      clear hie hRN
      go_wp2
      go_ret
      exact ⟨rfl, B1.out.trans ((B4.out.trans (HBR.out.mono B4.out.size)).mono B1.out.size)⟩
end Go.Proofs.YtdepgkpfibmbgaaGreatDoor
