/-
  Texts put together: PaE, PaF.
-/
import Derived.Test.YthcggdjkfebemaaGreatDoorB24
import Derived.Deep.RegionWith
/-
  Contracts of the program's reader of documents: the end of an element, a text.
-/
namespace Go.Proofs.YthcggdjkfebemaaGreatDoor
open Go.RowKit Go.Joins
set_option linter.unusedVariables false
set_option linter.unusedSimpArgs false
theorem emp_app (v : ByteArray) : (⟨#[]⟩ : ByteArray) ++ v = v := by
  refine ByteArray.ext ?_
  rw [ByteArray.data_append]
  simp
theorem ba_self (s : ByteArray) : (⟨s.data.toList.toArray⟩ : ByteArray) = s := by cases s; simp
theorem ib_one (c : UInt8) (r : List UInt8) : ∀ a : List UInt8, (∀ b ∈ a, b ≠ c) → Lib.indexByte (a ++ c :: r) c = a.length
  | [], _ => by rw [List.nil_append, Lib.indexByte]; simp
  | b :: a, h => by
    have h1 := ib_one c r a (fun x hx => h x (List.mem_cons_of_mem _ hx))
    have h2 : b ≠ c := h b (List.mem_cons_self ..)
    rw [List.cons_append, Lib.indexByte, if_neg (by simpa using h2), h1, if_neg (by simp <;> omega)]
    simp
theorem esc_nil {l : List UInt8} (h : l ≠ []) : 0 < (escL false l).length := by
  cases l with
  | nil => exact absurd rfl h
  | cons c l =>
    rw [escL_cons, List.length_append]
    have : 0 < (escB false c).length := by
      unfold escB
      repeat' split
      all_goals simp
    omega
section
variable {R : Nat} {w : World} {D : Dc} {i : Nat} {l r : List UInt8}
set_option maxRecDepth 100000 in
set_option maxHeartbeats 8000000 in
theorem i_rdEnd (pend : Bool) (p : Nat) (hn : i ≤ 200) (hp : p < i) (h : PS R w D i (p : Int) pend ((D.NM p).data.toList ++ 62 :: r)) :
    Calls Tryz.prog 86 #[.pointer (some ⟨R, 0, none⟩)] w fun e w' => e = .returned (.tuple #[]) ∧ PS R w' D i (D.U p) false r ∧ Fr R w w' := by
  have CE := hide (i_endText pend hn h)
  clear h
  go_enter Tryz.func86, Tryz.ntmps86
  go_wp2_with fail
  refine CE.out.mono ?_
  rintro e w1 ⟨rfl, ⟨ad, c, k, tx, hk, hB, hI, hf, -⟩, hF1⟩
  have hki : k = i := by simpa using hk
  have htx := hf rfl
  subst htx
  subst hki
  obtain ⟨g, rfl, hgB, hgl, hrow⟩ := ito_row hI (by omega)
  obtain ⟨aa, cp, ⟨e0, e1, e2, e3⟩, -, -⟩ := hrow p hp
  obtain ⟨c0, c1, c2, c3⟩ := rb_cells hB
  have HB := hide hB
  have HI := hide hI
  have HF1 := hide hF1
  have hpk : (p : Int) < (k : Int) := by omega
  have hp0 : (0 : Int) ≤ (p : Int) := by omega
  have CM : Hid (Calls Tryz.prog 56 #[.pointer (some ⟨R, 0, none⟩), .string (D.NM p)] w1.drew fun e w' => e = .returned (.tuple #[]) ∧ RdP R w1.drew (62 :: r) (.slice (some ⟨g, 0, none⟩) k c) (.int .i64 (p : Int)) (.string ⟨#[]⟩) w') := hide (by
    have h9 := i_mustY (w := w1.drew) (R := R) (p := (D.NM p).data.toList) (r := 62 :: r) HB.out
    rw [ba_self] at h9
    exact h9)
  have d1 : w1.drew.cell? ⟨R, 1, none⟩ = some (.slice (some ⟨g, 0, none⟩) k c) := c1
  have d2 : w1.drew.cell? ⟨R, 2, none⟩ = some (.int .i64 (p : Int)) := c2
  have d4 : w1.drew.cell? ⟨g, p * 4 + 1, none⟩ = some (.string (D.NM p)) := e1
  obtain ⟨nm, hnm⟩ : ∃ nm, D.NM p = nm := ⟨_, rfl⟩
  rw [hnm] at CM d4 e1
  obtain ⟨up, hup⟩ : ∃ up, D.U p = up := ⟨_, rfl⟩
  have HUP := hide hup
  have HE0 := hide e0
  clear hk hB hI hf hF1 hrow e0 e2 e3 hnm hup CE c0 c3
  go_upto_region 1 with fail
  go_region_with (go_at_call 56; refine CM.out.mono ?_; rintro e w2 ⟨rfl, h2⟩; have H2 : Hid (RdP R w1 (62 :: r) (.slice (some ⟨g, 0, none⟩) k c) (.int .i64 (p : Int)) (.string ⟨#[]⟩) w2) := hide ⟨h2.1, h2.2.os, h2.2.tape, h2.2.output, h2.2.size, h2.2.block⟩; clear h2)
  all_goals
    go_wp2_with fail
    refine (i_blanks H2.out.1).mono ?_
    rintro e w3 ⟨rfl, h3⟩
    rw [tb_none ⟨by decide, by decide, by decide⟩] at h3 ⊢
    have H3 := hide (show RdP R w1 _ _ _ _ w3 from ⟨h3.1, rg_trans H2.out.2 h3.2⟩)
    clear h3
    go_wp2_with fail
    refine (i_mustY (p := [62]) H3.out.1).mono ?_
    rintro e w4 ⟨rfl, h4⟩
    have H4 := hide (show RdP R w1 _ _ _ _ w4 from ⟨h4.1, rg_trans H3.out.2 h4.2⟩)
    clear h4
    obtain ⟨k0, k1, k2, k3⟩ := rb_cells H4.out.1
    have kf := rb_frozen H4.out.1 2
    have k4 : w4.cell? ⟨g, p * 4, none⟩ = some (.int .i64 up) := by
      rw [← HUP.out, ← HE0.out]
      exact World.cell?_of_block (H4.out.2.block g hgl (fun e => by cases e; omega))
    have m1 : w4.drew.cell? ⟨R, 1, none⟩ = some (.slice (some ⟨g, 0, none⟩) k c) := k1
    have m2 : w4.drew.cell? ⟨R, 2, none⟩ = some (.int .i64 (p : Int)) := k2
    have m4 : w4.drew.cell? ⟨g, p * 4, none⟩ = some (.int .i64 up) := k4
    have mf : w4.drew.frozen? ⟨R, 2, none⟩ = false := kf
    go_upto_region 4 with fail
    go_region
    go_end0
    have hI4 := ito_rg HB.out HI.out H4.out.2
    have hr5 := rb_set2 H4.out.1 (.int .i64 up)
    have hi5 := ito_rg H4.out.1 hI4 (rg_set R 2 w4 (.int .i64 up))
    have hf5 := fr_rg H4.out.1 (rg_set R 2 w4 (.int .i64 up))
    refine ⟨rfl, ⟨some ⟨g, 0, none⟩, c, k, ⟨#[]⟩, by simp, ?_, ?_, fun _ => rfl, fun h => by cases h⟩, ?_⟩
    · rw [HUP.out]; exact hr5
    · exact hi5
    · exact fr_trans HF1.out (fr_trans (fr_rg HB.out H4.out.2) ⟨⟨hf5.1.os, hf5.1.tape, hf5.1.output, hf5.1.size, hf5.1.block⟩, hf5.2⟩)
set_option maxRecDepth 100000 in
set_option maxHeartbeats 8000000 in
theorem i_rdText (o : Int) (hE : EnvR R w) (hdk : docokB D = true) (hi : i < D.n) (ht : isE (D.NM i) = true) (hu : D.U i = o) (hr : r.length ≤ 1000000) (h : PS R w D i o false (txP D i ++ 60 :: r)) :
    Calls Tryz.prog 87 #[.pointer (some ⟨R, 0, none⟩)] w fun e w' => e = .returned (.tuple #[]) ∧ PS R w' D (i + 1) o true (60 :: r) ∧ Fr R w w' := by
  obtain ⟨hx1, hx2, hx3⟩ := text_part hdk hi ht
  have hsz := doc_escT hdk hi ht
  have hnm := isE_nil ht
  obtain ⟨ad, c, k, tx, hk, hB, hI, hf, -⟩ := h
  have hki : k = i := by simpa using hk
  have htx := hf rfl
  subst htx
  subst hki
  unfold escOk at hsz
  rw [Bool.and_eq_true, decide_eq_true_eq] at hsz
  have hvl : (D.TX k).data.toList.length = (D.TX k).size := by simp
  unfold txP at hB
  obtain ⟨v, hv⟩ : ∃ v, D.TX k = v := ⟨_, rfl⟩
  rw [hv] at hB hsz hvl hx1
  obtain ⟨T, hT⟩ : ∃ T, escL false v.data.toList = T := ⟨_, rfl⟩
  have hTl : T.length ≤ 15000 := by rw [← hT]; have := esc_lenP false v.data.toList; omega
  have hT0 : 0 < T.length := by
    rw [← hT]
    refine esc_nil (fun e => hx1 ?_)
    have h9 := ba_self v
    rw [e] at h9
    exact h9.symm
  have HP : Hid (plainB ⟨T.toArray⟩ = true) := hide (by rw [← hT]; exact plain_esc false hsz.2 (by rw [hT]; omega))
  have HU : Hid (unesc (⟨T.toArray⟩ : ByteArray).data.toList = some v.data.toList) := hide (by show unesc T = _; rw [← hT]; exact un_esc false _)
  have HFR : Hid (∀ b ∈ T, b ≠ 60 ∧ b ≠ 62) := hide (fun b hb => by
    rw [← hT] at hb
    exact ⟨(esc_free false _ b hb).1, (esc_free false _ b hb).2.1⟩)
  rw [hT] at hB
  obtain ⟨n, hn⟩ : ∃ n, T.length = n := ⟨_, rfl⟩
  have HN := hide hn
  rw [hn] at hT0 hTl
  have hlt := rb_lt hB
  obtain ⟨c0, c1, c2, c3⟩ := rb_cells hB
  obtain ⟨u, hu2⟩ : ∃ u : ByteArray, (⟨(T ++ 60 :: r).toArray⟩ : ByteArray) = u := ⟨_, rfl⟩
  have HUU := hide hu2
  have hus : u.size = n + 1 + r.length := by rw [← hu2, ← hn]; show (T ++ 60 :: r).toArray.size = _; simp; omega
  have HX : Hid (u.extract 0 n = ⟨T.toArray⟩ ∧ u.extract n (n + 1 + r.length) = ⟨(60 :: r).toArray⟩) := hide (by
    rw [← hus]
    subst hu2
    constructor
    · refine ba_ofP ?_
      rw [ri_exl2, List.drop_zero]
      show (T ++ 60 :: r).take n = T
      rw [← hn, List.take_left]
    · refine ba_ofP ?_
      rw [ri_exl2]
      show ((T ++ 60 :: r).take (T ++ 60 :: r).toArray.size).drop n = 60 :: r
      rw [List.size_toArray, List.take_length, ← hn, List.drop_left])
  have CI : Hid (∀ w9, Calls Tryz.prog 107 #[.string u, .string ⟨#[60]⟩] w9 fun e w' => e = .returned (.int .i64 n) ∧ w' = w9) := hide (fun w9 => by
    have h9 := Tryz.strings_Index_one u 60 w9
    have e : Lib.indexByte u.data.toList 60 = (n : Int) := by
      rw [← hu2, ← hn]
      exact ib_one 60 r T (fun b hb => (HFR.out b hb).1)
    rw [e] at h9
    exact h9)
  have CK : Hid (∀ w9, MaxP w9 → Calls Tryz.prog 100 #[.string ⟨T.toArray⟩, .string ⟨#[93, 93, 62]⟩] w9 fun e w' => e = .returned (.bool false) ∧ w' = w9) := hide (fun w9 ⟨m, hm⟩ => by
    have h9 := Tryz.strings_Contains ⟨T.toArray⟩ ⟨#[93, 93, 62]⟩ m w9 (by rw [show (⟨T.toArray⟩ : ByteArray).size = T.length from List.size_toArray, HN.out]; omega) hm
    rw [show Lib.contains (⟨T.toArray⟩ : ByteArray).data.toList (⟨#[93, 93, 62]⟩ : ByteArray).data.toList = false from has_absent (x := 62) (by show (62 : UInt8) ∈ [93, 93, 62]; simp) (fun b hb => (HFR.out b hb).2)] at h9
    exact h9)
  have HE := hide hE
  have hED : EnvR R w.drew := env_go hE (⟨rfl, rfl, rfl, Nat.le_refl _, fun _ _ => rfl⟩ : Below R w w.drew)
  have HEM := hide (env_max hED)
  have CU : Hid (∀ w9, EnvR R w9 → Calls Tryz.prog 106 #[.pointer (some ⟨R, 0, none⟩), .string ⟨T.toArray⟩] w9 fun e w' => e = .returned (.string v) ∧ Below w9.heap.size w9 w') := hide (fun w9 h9 => i_unesc _ rfl ⟨T.toArray⟩ v h9 HP.out HU.out (by rw [show (⟨T.toArray⟩ : ByteArray).size = T.length from List.size_toArray, HN.out]; omega))
  have HED := hide hED
  rw [hu2] at c0
  have hn0 : (0 : Int) < (n : Int) := by omega
  have hd0 : decide ((0 : Int) < (n : Int)) = true := decide_eq_true hn0
  have hnu : (n : Int) ≤ (u.size : Int) := by omega
  have hnu2 : (n : Int) ≤ (n : Int) + 1 + (r.length : Int) := by omega
  have hadd0 : ¬ 9223372036854775807 < v.size := by have := hsz.1; omega
  have hadd1 : ¬ 9223372036854775807 < 0 + v.size := by have := hsz.1; omega
  have HB := hide hB
  have HI := hide hI
  have HV := hide hv
  have HNM := hide hnm
  have HUI := hide hu
  have HX1 := hide hx1
  have HX2 := hide hx2
  have f0 := rb_frozen hB 0
  have f3 := rb_frozen hB 3
  clear hB hI hf hk hE hED hu2 hv hnm hu hx1 hx2 hx3 hsz hvl hT
  go_enter Tryz.func87, Tryz.ntmps87
  go_wp2_with fail
  refine (CI.out _).mono ?_
  rintro e w1 ⟨rfl, h1⟩
  rw [h1]
  clear h1 w1
  go_wp2_with fail
  refine (i_wantY _ _).mono ?_
  rintro e w2 ⟨rfl, h2⟩
  rw [h2]
  clear h2 w2
  go_wp2
  rw [HX.out.1]
  go_upto_region 3 with fail
  go_region_with (first
    | (go_at_call 100; refine (CK.out _ HEM.out).mono ?_; rintro e w3 ⟨rfl, hw3⟩; rw [hw3]; clear hw3 w3)
    | (go_at_call 59; refine (i_wantY _ _).mono ?_; rintro e w4 ⟨rfl, hw4⟩; rw [hw4]; clear hw4 w4))
  all_goals
    obtain ⟨W3, hW3⟩ : ∃ W3, w.drew = W3 := ⟨_, rfl⟩
    have HB3 : Hid (RB W3 R (T ++ 60 :: r) (.slice ad k c) (.int .i64 o) (.string ⟨#[]⟩)) := hide (by rw [← hW3]; exact HB.out)
    have HG3 : Hid (RG R w W3) := hide (by rw [← hW3]; exact ⟨rfl, rfl, rfl, Nat.le_refl _, fun _ _ _ => rfl⟩)
    have HE3 : Hid (EnvR R W3.drew) := hide (by rw [← hW3]; exact env_go HED.out ⟨rfl, rfl, rfl, Nat.le_refl _, fun _ _ => rfl⟩)
    rw [hW3]
    clear hW3
    have d3 : W3.drew.cell? ⟨R, 3, none⟩ = some (.string ⟨#[]⟩) := (rb_cells HB3.out).2.2.2
    have d0 : W3.drew.cell? ⟨R, 0, none⟩ = some (.string u) := by rw [← HUU.out]; exact (rb_cells HB3.out).1
    go_upto_region 4 with fail
    go_region_law (first
      | (go_simp; go_at_call 106; refine (CU.out _ HE3.out).mono ?_; rintro e w5 ⟨rfl, hb5⟩; have HB5 := hide (rb_below (show RB W3.drew R _ _ _ _ from HB3.out) hb5); have HG5 : Hid (RG R w w5) := hide (rg_trans HG3.out ⟨hb5.os, hb5.tape, hb5.output, hb5.size, fun j hj _ => hb5.block j hj⟩); have g3 := (rb_cells HB5.out).2.2.2; have g0 : w5.cell? ⟨R, 0, none⟩ = some (.string u) := (by rw [← HUU.out]; exact (rb_cells HB5.out).1); have gf3 := rb_frozen HB5.out 3; clear hb5)
      | (fail))
    all_goals
      rw [emp_app]
      have hr6 := rb_set3 HB5.out (.string v)
      have k0 : (w5.setCell ⟨R, 3, none⟩ (.string v)).cell? ⟨R, 0, none⟩ = some (.string u) := by rw [← HUU.out]; exact (rb_cells hr6).1
      have kf := rb_frozen hr6 0
      have HR6 := hide hr6
      clear hr6 g0 g3 gf3
      go_wp2
      go_end0
      rw [HX.out.2]
      have hG6 := rg_trans HG5.out (rg_set R 3 w5 (.string v))
      have hG7 := rg_trans hG6 (rg_set R 0 _ (.string ⟨(60 :: r).toArray⟩))
      exact ⟨rfl, ⟨ad, c, k, v, rfl, rb_set0 HR6.out (60 :: r), ito_rg HB.out HI.out hG7, fun h => (by cases h), fun _ => ⟨HV.out.symm, HX1.out, HNM.out, HUI.out, HX2.out⟩⟩, fr_rg HB.out hG7⟩
end
end Go.Proofs.YthcggdjkfebemaaGreatDoor

/-
  Plain facts for the reader of an element: its attributes' text read from the front; the item while it gets its attributes.
-/
namespace Go.Proofs.YthcggdjkfebemaaGreatDoor
open Go.RowKit Go.Joins
set_option linter.unusedVariables false
set_option linter.unusedSimpArgs false
/-- The text of f attributes from the j-th on. -/
def atsS (N V : Nat → ByteArray) : Nat → Nat → List UInt8
  | 0, _ => []
  | f + 1, j => atP N V j ++ atsS N V f (j + 1)
theorem ats_suf (N V : Nat → ByteArray) : ∀ f j, atsP N V (j + f) = atsP N V j ++ atsS N V f j
  | 0, j => by rw [atsS, List.append_nil]; rfl
  | f + 1, j => by
    rw [show j + (f + 1) = (j + 1) + f by omega, ats_suf N V f (j + 1), atsP, atsS, List.append_assoc]
theorem ats_all (N V : Nat → ByteArray) (n : Nat) : atsP N V n = atsS N V n 0 := by
  have h := ats_suf N V n 0
  rw [Nat.zero_add, atsP, List.nil_append] at h
  exact h
/-- How a tag ends: with kids, or at once. -/
def tlE (b : Bool) : List UInt8 := if b then [62] else [47, 62]
theorem pc_elem {D : Dc} {i : Nat} (ht : isE (D.NM i) = false) : pcP D i = 60 :: ((D.NM i).data.toList ++ (atsP (D.AN i) (D.AV i) (D.AC i) ++ tlE (decide (i + 1 < D.n ∧ D.U (i + 1) = i)))) := by
  unfold pcP tlE hdP
  rw [if_neg (by rw [ht]; decide)]
  by_cases h : i + 1 < D.n ∧ D.U (i + 1) = i
  · rw [if_pos h, decide_eq_true h, if_pos rfl]; simp
  · rw [if_neg h, decide_eq_false h, if_neg (by decide)]; simp
theorem op_elem {D : Dc} {i : Nat} (ht : isE (D.NM i) = false) : opE D (i + 1) = if decide (i + 1 < D.n ∧ D.U (i + 1) = i) = true then (i : Int) else D.U i := by
  rw [opE_succ]
  by_cases h : i + 1 < D.n ∧ D.U (i + 1) = i
  · rw [if_pos ⟨ht, h⟩, if_pos (decide_eq_true h)]
  · rw [if_neg (fun h2 => h h2.2), if_neg (by rw [decide_eq_false h]; decide)]
theorem qC_ne {x : UInt8} (h : qC x = true) : x ≠ 32 ∧ x ≠ 9 ∧ x ≠ 10 ∧ x ≠ 47 ∧ x ≠ 62 := by
  refine ⟨?_, ?_, ?_, ?_, ?_⟩ <;> (rintro rfl; exact absurd h (by decide))
theorem tb_skip {c : UInt8} {r : List UInt8} (h : c ≠ 32 ∧ c ≠ 9 ∧ c ≠ 10) : tbL (32 :: c :: r) = c :: r := by
  have e : tbL (32 :: c :: r) = tbL (c :: r) := by
    unfold tbL Lib.trimLeftS
    rw [List.dropWhile_cons, if_pos (by decide)]
  rw [e, tb_none h]
theorem at_fact {D : Dc} (h : docokB D = true) {i j : Nat} (hi : i < D.n) (ht : isE (D.NM i) = false) (hj : j < D.AC i) :
    ∃ x nm, (D.AN i j).data.toList = x :: nm ∧ qualB (D.AN i j) = true ∧ (x ≠ 32 ∧ x ≠ 9 ∧ x ≠ 10 ∧ x ≠ 47 ∧ x ≠ 62) ∧ (D.AN i j).data.toList.length ≤ 2500 ∧ escOk (D.AV i j) = true := by
  obtain ⟨-, -, ha⟩ := elem_part h hi ht
  have h2 := doc_sz h hi
  have h3 := at_sz (N := D.AN i) (V := D.AV i) hj
  unfold attrsB at ha
  simp only [Bool.and_eq_true, List.all_eq_true, List.mem_range] at ha
  have h5 := ha.2 j hj
  unfold atB at h5
  simp only [Bool.and_eq_true] at h5
  obtain ⟨h6, h7⟩ := qual_q h5.1
  have hl : (D.AN i j).data.toList.length = (D.AN i j).size := by simp
  obtain ⟨x, nm, e⟩ : ∃ x nm, (D.AN i j).data.toList = x :: nm := by
    cases h9 : (D.AN i j).data.toList with
    | nil => exact absurd h9 h6
    | cons x nm => exact ⟨x, nm, rfl⟩
  exact ⟨x, nm, e, h5.1, qC_ne (h7 x (by rw [e]; exact List.mem_cons_self ..)), by omega, doc_escA h hi ht hj⟩
theorem ac_le {D : Dc} (h : docokB D = true) {i : Nat} (hi : i < D.n) (ht : isE (D.NM i) = false) : D.AC i ≤ 10 := by
  obtain ⟨-, -, ha⟩ := elem_part h hi ht
  unfold attrsB at ha
  simp only [Bool.and_eq_true, decide_eq_true_eq] at ha
  exact ha.1
theorem pairs_snoc {ys : List Value} {k : Nat} {N V : Nat → ByteArray} (h : PairsS ys k N V) (hl : ys.length = k * 2) : PairsS (ys ++ [.string (N k), .string (V k)]) (k + 1) N V := by
  intro j hj
  by_cases e : j = k
  · subst e
    rw [List.getElem?_append_right (by omega), List.getElem?_append_right (by omega), hl, show j * 2 - j * 2 = 0 by omega, show j * 2 + 1 - j * 2 = 1 by omega]
    exact ⟨rfl, rfl⟩
  · rw [List.getElem?_append_left (by omega), List.getElem?_append_left (by omega)]
    exact h j (by omega)
/-- While an item gets its attributes: it lies in block N; wX is the world in which it was made. -/
def ES (R N : Nat) (w0 wX w : World) (ad : Option Addr) (k c : Nat) (D : Dc) (l : List UInt8) (o : Int) (nm : ByteArray) (sa : Option Addr) (j ca : Nat) (AN AV : Nat → ByteArray) : Prop :=
  RB w R l (.slice ad k c) (.int .i64 o) (.string ⟨#[]⟩) ∧ (∃ xs, w.ownsRow (R + 1) IT 4 (.slice ad k c) k xs ∧ ItP wX xs k D) ∧ Below R w0 w ∧ KeepA wX w ∧ w.heap[N]? = some (.cells #[.int .i64 o, .string nm, .string ⟨#[]⟩, .slice sa j ca] IT (0, 0)) ∧
    (∃ ys, w.ownsRow (N + 1) AT 2 (.slice sa j ca) j ys ∧ PairsS ys j AN AV) ∧ (R < N ∧ wX.heap.size ≤ N + 1 ∧ KeepA w0 wX ∧ ∀ q, (Value.slice ad k c).ownBlock = some q → q < N)
section
variable {R N : Nat} {w0 wX w w1 : World} {ad : Option Addr} {k c : Nat} {D : Dc} {l l' : List UInt8} {o : Int} {nm : ByteArray} {sa : Option Addr} {j ca : Nat} {AN AV : Nat → ByteArray}
theorem es_step (h : ES R N w0 wX w ad k c D l o nm sa j ca AN AV) (hr : RB w1 R l' (.slice ad k c) (.int .i64 o) (.string ⟨#[]⟩)) (hg : RG R w w1) : ES R N w0 wX w1 ad k c D l' o nm sa j ca AN AV := by
  obtain ⟨h1, ⟨xs, h2, h2'⟩, h3, h4, h5, ⟨ys, h6, h6'⟩, h8, h9, h10, h11⟩ := h
  have hlt := (Array.getElem?_eq_some_iff.1 h5).1
  refine ⟨hr, ⟨xs, h2.kept hg ?_, h2'⟩, ?_, ?_, ?_, ⟨ys, h6.kept hg ?_, h6'⟩, h8, h9, h10, h11⟩
  · cases hv : (Value.slice ad k c).ownBlock with
    | none => exact .inl rfl
    | some q => exact .inr fun e => by cases e; have := h2.lt R hv; omega
  · exact h3.grown hg (Nat.le_of_lt (rb_lt h1)) (fun q hq => by cases hq; exact Nat.le_refl _)
  · exact keepA_step h4 hg fun q hq => by cases hq; exact .inr ⟨_, _, _, h1, by decide⟩
  · rw [hg.block N hlt (fun e => by cases e; omega)]; exact h5
  · cases hv : (Value.slice sa j ca).ownBlock with
    | none => exact .inl rfl
    | some q => exact .inr fun e => by cases e; have := h6.lt R hv; omega
theorem es_rd (h : ES R N w0 wX w ad k c D l o nm sa j ca AN AV) (hr : RdP R w l' (.slice ad k c) (.int .i64 o) (.string ⟨#[]⟩) w1) : ES R N w0 wX w1 ad k c D l' o nm sa j ca AN AV := es_step h hr.1 hr.2
theorem es_below (h : ES R N w0 wX w ad k c D l o nm sa j ca AN AV) (hb : Below w.heap.size w w1) : ES R N w0 wX w1 ad k c D l o nm sa j ca AN AV := es_step h (rb_below h.1 hb) (rg_below hb)
theorem es_alloc (h : ES R N w0 wX w ad k c D l o nm sa j ca AN AV) (ob : Obj) : ES R N w0 wX (w.alloc ob) ad k c D l o nm sa j ca AN AV := es_below h ((Below.refl _ _).alloc (Nat.le_refl _) ob)
theorem es_drew (h : ES R N w0 wX w ad k c D l o nm sa j ca AN AV) : ES R N w0 wX w.drew ad k c D l o nm sa j ca AN AV := es_below h ⟨rfl, rfl, rfl, Nat.le_refl _, fun _ _ => rfl⟩
theorem es_lt (h : ES R N w0 wX w ad k c D l o nm sa j ca AN AV) : N < w.heap.size := (Array.getElem?_eq_some_iff.1 h.2.2.2.2.1).1
theorem es_cell (h : ES R N w0 wX w ad k c D l o nm sa j ca AN AV) (i : Nat) : w.cell? ⟨N, i, none⟩ = #[Value.int .i64 o, .string nm, .string ⟨#[]⟩, .slice sa j ca][i]? := by rw [cell_of_row w N i _ IT (0, 0) h.2.2.2.2.1]
theorem es_frozen (h : ES R N w0 wX w ad k c D l o nm sa j ca AN AV) (i : Nat) : w.frozen? ⟨N, i, none⟩ = false := by simp [World.frozen?, h.2.2.2.2.1]
theorem es_env (h : ES R N w0 wX w ad k c D l o nm sa j ca AN AV) (hE : EnvR R w0) : EnvR R w := env_go hE h.2.2.1
/-- A longer list of attributes, and its store. -/
theorem es_put {v : Value} {p : Nat} {ys zs' : List Value} {sa' : Option Addr} {j' ca' : Nat} (h : ES R N w0 wX w ad k c D l o nm sa j ca AN AV) (hv : w.ownsRow (N + 1) AT 2 v p ys) (hg : w.grownBy w1 v.ownBlock) (hy : w1.ownsRow (N + 1) AT 2 (.slice sa' j' ca') j' zs') (hp : PairsS zs' j' AN AV) :
    ES R N w0 wX (w1.setCell ⟨N, 3, none⟩ (.slice sa' j' ca')) ad k c D l o nm sa' j' ca' AN AV := by
  obtain ⟨h1, ⟨xs, h2, h2'⟩, h3, h4, h5, -, h8, h9, h10, h11⟩ := h
  have hrow : ∀ q, v.ownBlock = some q → N + 1 ≤ q := fun q hq => (hv.lt q hq).1
  have hlt := (Array.getElem?_eq_some_iff.1 h5).1
  have h5' : w1.heap[N]? = some (.cells #[.int .i64 o, .string nm, .string ⟨#[]⟩, .slice sa j ca] IT (0, 0)) := by
    rw [hg.block N hlt (fun e => by have := hrow N e.symm; omega)]; exact h5
  have hr1 : RB w1 R l (.slice ad k c) (.int .i64 o) (.string ⟨#[]⟩) := by
    unfold RB
    rw [hg.block R (rb_lt h1) (fun e => by have := hrow R e.symm; omega)]; exact h1
  have ho1 : w1.ownsRow (R + 1) IT 4 (.slice ad k c) k xs := h2.kept hg (by
    cases hq : (Value.slice ad k c).ownBlock with
    | none => exact .inl rfl
    | some q => exact .inr fun e => by have e1 := hrow q e.symm; have := h11 q hq; omega)
  have hb1 : Below R w0 w1 := h3.grown hg (Nat.le_of_lt (rb_lt h1)) (fun q hq => by have := hrow q hq; omega)
  have hk1 : KeepA wX w1 := keepA_step h4 hg fun q hq => .inl (by have := hrow q hq; omega)
  have hg2 := grown_set w1 ⟨N, 3, none⟩ (.slice sa' j' ca')
  have hrow2 : ∀ q, some N = some q → q = N := fun q hq => by cases hq; rfl
  refine ⟨?_, ⟨xs, ho1.kept hg2 ?_, h2'⟩, ?_, ?_, ?_, ⟨zs', hy.kept hg2 ?_, hp⟩, h8, h9, h10, h11⟩
  · exact rb_far hr1 (by omega)
  · cases hq : (Value.slice ad k c).ownBlock with
    | none => exact .inl rfl
    | some q => exact .inr fun e => by have e1 := hrow2 q e.symm; have := h11 q hq; omega
  · exact hb1.grown hg2 (Nat.le_of_lt (rb_lt hr1)) (fun q hq => by have := hrow2 q hq; omega)
  · exact keepA_step hk1 hg2 fun q hq => by have e := hrow2 q hq; subst e; exact .inr ⟨_, _, _, h5', by decide⟩
  · exact heap_setCell_same w1 N 3 _ _ (.slice sa' j' ca') h5'
  · cases hq : (Value.slice sa' j' ca').ownBlock with
    | none => exact .inl rfl
    | some q => exact .inr fun e => by have e1 := hrow2 q e.symm; have := hy.lt q hq; omega
end
/-- While an item is made: it lies in block N with the cells cs. -/
def EP (R N : Nat) (w0 wX w : World) (ad : Option Addr) (k c : Nat) (D : Dc) (l : List UInt8) (o : Int) (cs : Array Value) : Prop :=
  RB w R l (.slice ad k c) (.int .i64 o) (.string ⟨#[]⟩) ∧ (∃ xs, w.ownsRow (R + 1) IT 4 (.slice ad k c) k xs ∧ ItP wX xs k D) ∧ Below R w0 w ∧ KeepA wX w ∧ w.heap[N]? = some (.cells cs IT (0, 0)) ∧
    (R < N ∧ wX.heap.size ≤ N + 1 ∧ KeepA w0 wX ∧ ∀ q, (Value.slice ad k c).ownBlock = some q → q < N)
section
variable {R N : Nat} {w0 wX w w1 w2 : World} {ad : Option Addr} {k c : Nat} {D : Dc} {l l' : List UInt8} {o : Int} {nm : ByteArray} {AN AV : Nat → ByteArray} {cs : Array Value} {xs : List Value}
theorem ep_es (h : EP R N w0 wX w ad k c D l o #[.int .i64 o, .string nm, .string ⟨#[]⟩, .slice none 0 0]) : ES R N w0 wX w ad k c D l o nm none 0 0 AN AV := by
  obtain ⟨h1, h2, h3, h4, h5, h6⟩ := h
  exact ⟨h1, h2, h3, h4, h5, ⟨[], ⟨rfl, .inl ⟨rfl, rfl⟩⟩, fun j h => by omega⟩, h6⟩
theorem ep_set (h : EP R N w0 wX w ad k c D l o cs) (i : Nat) (v : Value) : EP R N w0 wX (w.setCell ⟨N, i, none⟩ v) ad k c D l o (cs.setIfInBounds i v) := by
  obtain ⟨h1, ⟨xs, h2, h2'⟩, h3, h4, h5, h8, h9, h10, h11⟩ := h
  have hg2 := grown_set w ⟨N, i, none⟩ v
  have hrow2 : ∀ q, some N = some q → q = N := fun q hq => by cases hq; rfl
  refine ⟨rb_far h1 (by omega), ⟨xs, h2.kept hg2 ?_, h2'⟩, ?_, ?_, ?_, h8, h9, h10, h11⟩
  · cases hq : (Value.slice ad k c).ownBlock with
    | none => exact .inl rfl
    | some q => exact .inr fun e => by have e1 := hrow2 q e.symm; have := h11 q hq; omega
  · exact h3.grown hg2 (Nat.le_of_lt (rb_lt h1)) (fun q hq => by have := hrow2 q hq; omega)
  · exact keepA_step h4 hg2 fun q hq => by have e := hrow2 q hq; subst e; exact .inr ⟨_, _, _, h5, by decide⟩
  · exact heap_setCell_same w N i _ _ v h5
/-- The name read, then the item made. -/
theorem ep_after (hR : RB w1 R l (.slice ad k c) (.int .i64 o) (.string ⟨#[]⟩)) (ho : w1.ownsRow (R + 1) IT 4 (.slice ad k c) k xs) (hip : ItP w1 xs k D) (hF : Fr R w0 w1) (h2 : RdP R w1 l' (.slice ad k c) (.int .i64 o) (.string ⟨#[]⟩) w2) :
    EP R w2.heap.size w0 (w2.alloc (.cells cs IT)) (w2.alloc (.cells cs IT)) ad k c D l' o cs := by
  have hb : Below w2.heap.size w2 (w2.alloc (.cells cs IT)) := (Below.refl _ _).alloc (Nat.le_refl _) _
  have hf2 := fr_rg hR h2.2
  have ho2 : w2.ownsRow (R + 1) IT 4 (.slice ad k c) k xs := ho.kept h2.2 (by
    cases hq : (Value.slice ad k c).ownBlock with
    | none => exact .inl rfl
    | some q => exact .inr fun e => by cases e; have := ho.lt R hq; omega)
  have hk := keepA_below hf2.2 hb
  exact ⟨rb_below h2.1 hb, ⟨xs, gOwn_after ho2 hb, itp_keep hip hk⟩, (hF.1.trans hf2.1).trans (hb.mono (Nat.le_of_lt (rb_lt h2.1))), keepA_refl _, heap_alloc_new w2 _, rb_lt h2.1, by simp, keepA_trans hF.2 hk, fun q hq => (ho2.lt q hq).2⟩
/-- The item made, then the name read. -/
theorem ep_ahead (hR : RB w1 R l (.slice ad k c) (.int .i64 o) (.string ⟨#[]⟩)) (ho : w1.ownsRow (R + 1) IT 4 (.slice ad k c) k xs) (hip : ItP w1 xs k D) (hF : Fr R w0 w1) (h2 : RdP R (w1.alloc (.cells cs IT)) l' (.slice ad k c) (.int .i64 o) (.string ⟨#[]⟩) w2) :
    EP R w1.heap.size w0 (w1.alloc (.cells cs IT)) w2 ad k c D l' o cs := by
  have hb : Below w1.heap.size w1 (w1.alloc (.cells cs IT)) := (Below.refl _ _).alloc (Nat.le_refl _) _
  have hR1 := rb_below hR hb
  have hf2 := fr_rg hR1 h2.2
  have ho2 : w2.ownsRow (R + 1) IT 4 (.slice ad k c) k xs := (gOwn_after ho hb).kept h2.2 (by
    cases hq : (Value.slice ad k c).ownBlock with
    | none => exact .inl rfl
    | some q => exact .inr fun e => by cases e; have := ho.lt R hq; omega)
  have hk := keepA_below (keepA_refl w1) hb
  have hlt := rb_lt hR
  exact ⟨h2.1, ⟨xs, ho2, itp_keep hip hk⟩, (hF.1.trans (hb.mono (Nat.le_of_lt hlt))).trans hf2.1, hf2.2, rd_box (heap_alloc_new w1 _) h2.2 (by omega), hlt, by simp, keepA_trans hF.2 hk, fun q hq => (ho.lt q hq).2⟩
end
section
variable {R N : Nat} {w0 wX w w8 : World} {ad : Option Addr} {k c : Nat} {D : Dc} {l : List UInt8} {o : Int} {nm : ByteArray} {sa : Option Addr} {j ca : Nat} {xs : List Value}
theorem es_fr {AN AV : Nat → ByteArray} (h : ES R N w0 wX w ad k c D l o nm sa j ca AN AV) : Fr R w0 w := ⟨h.2.2.1, keepA_trans h.2.2.2.2.2.2.2.2.1 h.2.2.2.1⟩
theorem es_item (h : ES R N w0 wX w ad k c D l o nm sa j ca (D.AN k) (D.AV k)) (hip : ItP wX xs k D) (hl : xs.length = k * 4) (hf : KeepA w w8) (hu : D.U k = o) (hnm : D.NM k = nm) (htx : D.TX k = ⟨#[]⟩) (hac : D.AC k = j) :
    ItP w8 (xs ++ [.int .i64 o, .string nm, .string ⟨#[]⟩, .slice sa j ca]) (k + 1) D := by
  subst hac
  obtain ⟨-, -, -, h4, -, ⟨ys, hoy, hpy⟩, -⟩ := h
  have h1 := itp_put (itp_keep hip (keepA_trans h4 hf)) hl sa ca (atD_keep (atD_own hoy hpy) hf) (own_cap hoy)
  rw [hu, hnm, htx] at h1
  exact h1
end
def jOf (N n : Nat) (w : World) : Nat := match w.cell? ⟨N, 3, none⟩ with
  | some (.slice _ j _) => n - j
  | _ => 0
theorem jOf_of {R N n : Nat} {w0 wX w : World} {ad : Option Addr} {k c : Nat} {D : Dc} {l : List UInt8} {o : Int} {nm : ByteArray} {sa : Option Addr} {j ca : Nat} {AN AV : Nat → ByteArray} (h : ES R N w0 wX w ad k c D l o nm sa j ca AN AV) : jOf N n w = n - j := by
  unfold jOf
  rw [es_cell h 3]
  rfl
end Go.Proofs.YthcggdjkfebemaaGreatDoor
