/-
  Texts put together: BrM, BrV.
-/
import Derived.Test.YtfbahffljhnjbaaGreatDoorD34
import Derived.Test.YtfbahffljhnjbaaGreatDoorD36
/-
  Where keys are broken. No step of the program in this text.
-/
namespace Go.Proofs.YtfbahffljhnjbaaGreatDoor
open Go.RowKit
set_option linter.unusedVariables false
set_option linter.unusedSimpArgs false
/-- A key's table at an element. -/
def tbK (D : Dc) (x : Nat) (k : Ky) : Option (List (List ByteArray)) := tbI D k.kd (kyQ k) k.fl.length (kyP D x k) (kyP D x k).length
section
variable {D : Dc} {kd : Int} {Qs : Nat → List (List UInt8) × List UInt8} {nf : Nat} {L : List Int}
theorem tb_rows : ∀ (i : Nat) (T : List (List ByteArray)), tbI D kd Qs nf L i = some T → T.length ≤ i ∧ ∀ r ∈ T, r.length = nf ∧ ∃ j, j < i ∧ rwI D (L[j]?.getD 0).toNat kd Qs nf = some r
  | 0, T, h => by rw [tbI] at h; cases h; exact ⟨Nat.le_refl _, fun r hr => by cases hr⟩
  | i + 1, T, h => by
    rw [tbI] at h
    split at h
    · cases h
    · rename_i T0 h0
      obtain ⟨l0, r0⟩ := tb_rows i T0 h0
      split at h
      · cases h
      · rename_i r1 h1
        split at h
        · rename_i hl
          cases h
          refine ⟨by rw [List.length_append]; simp; omega, fun r hr => ?_⟩
          rcases List.mem_append.1 hr with hr | hr
          · obtain ⟨a, j, hj, b⟩ := r0 r hr
            exact ⟨a, j, by omega, b⟩
          · rw [List.mem_singleton] at hr
            subst hr
            exact ⟨hl, i, by omega, h1⟩
        · cases h
          refine ⟨by omega, fun r hr => ?_⟩
          obtain ⟨a, j, hj, b⟩ := r0 r hr
          exact ⟨a, j, by omega, b⟩
theorem rw_sizes {p Z : Nat} (hZ : ∀ q, (fvF D p q).1.size ≤ Z) : ∀ (j : Nat) (r : List ByteArray), rwI D p kd Qs j = some r → ∀ v ∈ r, v.size ≤ Z
  | 0, r, h => by rw [rwI] at h; cases h; intro v hv; cases hv
  | j + 1, r, h => by
    rw [rwI] at h
    split at h
    · cases h
    · rename_i r0 h0
      have ih := rw_sizes hZ j r0 h0
      split at h
      · cases h
      · split at h
        · cases h
          intro v hv
          rcases List.mem_append.1 hv with hv | hv
          · exact ih v hv
          · rw [List.mem_singleton] at hv
            subst hv
            exact hZ _
        · cases h
          exact ih
end
theorem jn_size (v : ByteArray) : (whB v 2).size ≤ v.size + 1 := by
  have h1 := join_totW [32] rfl (wdB [] v.data.toList)
  have h2 := tot_wd v.data.toList []
  have h3 : (whB v 2).size = (Lib.join (wdB [] v.data.toList) [32]).length := by
    show (jnB v).size = _
    unfold jnB
    rfl
  have h4 : v.data.toList.length = v.size := by simp
  rw [h3]
  simp only [List.length_nil] at h2
  omega
theorem fv_size {D : Dc} (hdk : docokB D = true) {p : Nat} (hp : p < D.n) (q : List (List UInt8) × List UInt8) : (fvF D p q).1.size ≤ 1048577 := by
  unfold fvF foA
  split
  · rename_i h1
    obtain ⟨v, hv⟩ := List.length_eq_one_iff.1 h1
    rw [hv, lst_one]
    have hst := st_ok (D := D) (x := p) (n := D.n) false rfl hp
    have hsl := sel_ok q.1 _ hst.1 hst.2
    have hm : v ∈ vlL D ⟨q.2.toArray⟩ (srtL (sel D (st D p D.n false) q.1)) := by rw [hv]; exact List.mem_singleton.2 rfl
    unfold vlL at hm
    obtain ⟨y, hy, hvy⟩ := List.mem_flatMap.1 hm
    have hin := hsl.2 y ((srt_mem _ _).1 hy)
    have h9 := val_all hdk (p := y.toNat) (by omega) hvy
    have h8 := jn_size v
    show (whB v 2).size ≤ _
    omega
  · exact Nat.zero_le _
theorem tk_rows {D : Dc} (hdk : docokB D = true) {x : Nat} (hx : x < D.n) {k : Ky} {T : List (List ByteArray)} (h : tbK D x k = some T) : T.length ≤ 200 ∧ ∀ r ∈ T, r.length = k.fl.length ∧ ∀ v ∈ r, v.size ≤ 1048577 := by
  unfold tbK at h
  have hst := st_ok (D := D) (x := x) (n := D.n) (deepL k.pa.data.toList) rfl hx
  have hsl := sel_ok (sg [] (restL k.pa.data.toList)) _ hst.1 hst.2
  have hlen : (kyP D x k).length ≤ 200 := by
    unfold kyP
    rw [srt_len hsl.1]
    have := nodup_len hsl.1 hsl.2
    have := (docok_facts hdk).1.2
    omega
  obtain ⟨h1, h2⟩ := tb_rows _ T h
  refine ⟨by omega, fun r hr => ?_⟩
  obtain ⟨a, j, hj, b⟩ := h2 r hr
  refine ⟨a, rw_sizes (fun q => fv_size hdk ?_ q) _ r b⟩
  rw [List.getElem?_eq_getElem hj]
  have hin := hsl.2 ((kyP D x k)[j]) ((srt_mem _ _).1 (List.getElem_mem hj))
  show ((kyP D x k)[j]).toNat < D.n
  omega
/-- Two rows of a table are alike. -/
def dupT (T : List (List ByteArray)) : Prop := ∃ a b, b < a ∧ a < T.length ∧ T[a]?.getD [] = T[b]?.getD []
/-- Key i is broken at element x. -/
def brk (D : Dc) (L : List Ky) (x i : Nat) : Prop := ∀ T, tbK D x (kyA L i) = some T → ((kyA L i).kd ≠ 3 ∧ dupT T) ∨ ((kyA L i).kd = 3 ∧ ∃ j, j < i ∧ (kyA L j).nm = (kyA L i).re ∧ ∃ r ∈ T, ∀ U, tbK D x (kyA L j) = some U → r ∉ U)
def badK (D : Dc) (L : List Ky) (i : Nat) : Prop := ∃ x, x < D.n ∧ D.NM x = (kyA L i).on ∧ brk D L x i
open Classical in
/-- The broken ones among the first k keys. -/
noncomputable def brL (D : Dc) (L : List Ky) : Nat → List Int
  | 0 => []
  | i + 1 => if badK D L i then brL D L i ++ [(i : Int)] else brL D L i
theorem br_yes {D : Dc} {L : List Ky} {i : Nat} (h : badK D L i) : brL D L (i + 1) = brL D L i ++ [(i : Int)] := by rw [brL, if_pos h]
theorem br_no {D : Dc} {L : List Ky} {i : Nat} (h : ¬ badK D L i) : brL D L (i + 1) = brL D L i := by rw [brL, if_neg h]
theorem br_len (D : Dc) (L : List Ky) : ∀ i, (brL D L i).length ≤ i
  | 0 => Nat.le_refl _
  | i + 1 => by
    have := br_len D L i
    by_cases h : badK D L i
    · rw [br_yes h, List.length_append]; simp; omega
    · rw [br_no h]; omega
open Classical in
noncomputable def brV (D : Dc) (L : List Ky) : List Int := if docokB D = true ∧ KeysP L then brL D L L.length else []
theorem brV_no {D : Dc} {L : List Ky} (h : ¬ (docokB D = true ∧ KeysP L)) : brV D L = [] := by unfold brV; rw [if_neg h]
theorem brV_yes {D : Dc} {L : List Ky} (h1 : docokB D = true) (h2 : KeysP L) : brV D L = brL D L L.length := by unfold brV; rw [if_pos ⟨h1, h2⟩]
theorem brV_len (D : Dc) (L : List Ky) : (brV D L).length ≤ 10 := by
  by_cases h : docokB D = true ∧ KeysP L
  · rw [brV_yes h.1 h.2]
    have := br_len D L L.length
    have := h.2.1
    omega
  · rw [brV_no h]; exact Nat.zero_le _
/-- The key that a key refers to. -/
theorem ref_at {L : List Ky} {i j : Nat} (hK : KeysP L) (hi : i < L.length) (h3 : (kyA L i).kd = 3) (hj : j < i) (hn : (kyA L j).nm = (kyA L i).re) : (kyA L j).fl.length = (kyA L i).fl.length := by
  obtain ⟨q, hq, a, b, c, d⟩ := (hK.2 i hi).2.2.1 h3
  have e : j = q := by
    rcases Nat.lt_trichotomy j q with h | h | h
    · exact absurd (hn.trans a.symm) ((hK.2 q (by omega)).2.1 j h)
    · exact h
    · exact absurd (a.trans hn.symm) ((hK.2 j (by omega)).2.1 q h)
  rw [e]; exact c
theorem ref_one {L : List Ky} {i j q : Nat} (hK : KeysP L) (hi : i < L.length) (hj : j < i) (hn : (kyA L j).nm = (kyA L i).re) (hq : q < i) (hnq : (kyA L q).nm = (kyA L i).re) : j = q := by
  rcases Nat.lt_trichotomy j q with h | h | h
  · exact absurd (hn.trans hnq.symm) ((hK.2 q (by omega)).2.1 j h)
  · exact h
  · exact absurd (hnq.trans hn.symm) ((hK.2 j (by omega)).2.1 q h)
end Go.Proofs.YtfbahffljhnjbaaGreatDoor

/-
  Contracts of the program: (*plan).row and (*plan).table, at a plan that lies anywhere.
-/
namespace Go.Proofs.YtfbahffljhnjbaaGreatDoor
open Go.RowKit Go.Joins
set_option linter.unusedVariables false
set_option linter.unusedSimpArgs false
/-- A plan's ten cells. -/
def PlC (w : World) (P o : Nat) (pl : Pl) : Prop := P < w.heap.size ∧ ∀ i, i < 10 → w.cell? ⟨P, o + i, none⟩ = (plV pl)[i]?
theorem plC_go {w w' : World} {P o : Nat} {pl : Pl} (h : PlC w P o pl) (hb : Below w.heap.size w w') : PlC w' P o pl := ⟨Nat.lt_of_lt_of_le h.1 hb.size, fun i hi => (hb.cell (p := ⟨P, o + i, none⟩) h.1).trans (h.2 i hi)⟩
set_option maxRecDepth 100000 in
set_option maxHeartbeats 8000000 in
theorem i_rowV (D : Dc) (n b off cap x P o : Nat) (pl : Pl) (F : List Fq) (B0 fm : Nat) (w : World) (hD : D.n = n) (hdk : docokB D = true) (hx : x < n) (hfm : pl.k.fl.length = fm) (hF : F.length = fm) (h4 : fm ≤ 4) (hq6 : ∀ f ∈ F, f.q.1.length ≤ 6)
    (hP : PlC w P o pl) (hO : w.ownsRow B0 71 3 (.slice pl.fa fm pl.fc) fm (F.flatMap fqV)) (hS : FqS B0 w F) (hbs : b < w.heap.size) (hr : DcRow w b off D w.heap.size) :
    Calls Tryz.prog 78 #[.pointer (some ⟨P, o, none⟩), .slice (some ⟨b, off, none⟩) n cap, .int .i64 x] w (RowAns (rwI D x pl.k.kd (fun j => (fqA F j).q) fm) w) := by
  obtain ⟨i0, hi, hz0, hz1, hz2⟩ := info_parts infoStr
  have HD := hide hD
  have HDK := hide hdk
  have HF := hide hF
  have HQ6 := hide hq6
  have HO := hide hO
  have HS := hide hS
  have HR := hide hr
  have HP := hide hP
  have hPl := hP.1
  have p8 : w.cell? ⟨P, o + 8, none⟩ = some (.slice pl.fa fm pl.fc) := by have h9 := hP.2 8 (by decide); rw [h9]; unfold plV; simp; exact hfm
  obtain ⟨kd, hkd⟩ : ∃ kd, pl.k.kd = kd := ⟨_, rfl⟩
  rw [hkd]
  have D1 : Hid (∀ w9, Below w.heap.size w w9 → w9.cell? ⟨P, o + 1, none⟩ = some (.int .i64 kd)) := hide (fun w9 h9 => (h9.cell (p := ⟨P, o + 1, none⟩) hPl).trans (by have h8 := HP.out.2 1 (by decide); rw [h8]; unfold plV; simp; exact hkd))
  clear hD hdk hF hq6 hO hS hr hP hfm hkd
  go_enter Tryz.func78, Tryz.ntmps78
  go_wp2
  go_loopw [8, 18] (fun rv jv wr => ∃ (j L c8 : Nat) (a8 : Option Addr) (r : List ByteArray), j ≤ fm ∧ jv = .int .i64 j ∧ rv = .slice a8 L c8 ∧ L ≤ j ∧ Hid (r.length = L) ∧ Hid (rwI D x kd (fun j => (fqA F j).q) j = some r) ∧ Hid (wr.ownsRow w.heap.size 9 1 (.slice a8 L c8) L (r.map Value.string)) ∧ Hid (Below w.heap.size w wr)) (fun _ jv _ => fm - (intOf jv).toNat)
  case atStart => exact ⟨0, 0, 0, none, [], Nat.zero_le _, rfl, rfl, Nat.le_refl _, hide rfl, hide rfl, hide ⟨rfl, .inl ⟨rfl, rfl⟩⟩, hide (Below.refl _ _)⟩
  case round =>
    obtain ⟨j, L, c8, a8, r, hj, rfl, rfl, hLj, HL, HRW, HRO, HB⟩ := hrel
    have hsz := HB.out.size
    by_cases hlt : j < fm
    · have hji : (j : Int) < (fm : Int) := by omega
      have hjF : j < F.length := by rw [HF.out]; exact hlt
      have hmem : fqA F j ∈ F := by unfold fqA; rw [List.getElem?_eq_getElem hjF]; exact List.getElem_mem _
      obtain ⟨g, hg, hgl, hcells⟩ : ∃ g, pl.fa = some ⟨g, 0, none⟩ ∧ g < w.heap.size ∧ ∀ i, i < 3 → w.cell? ⟨g, j * 3 + i, none⟩ = (fqV (fqA F j))[i]? := by
        have h2 := HO.out
        rcases h2.2 with ⟨e, h0⟩ | ⟨g, cp, cur, e, -, hg, -⟩
        · omega
        · simp only [Value.slice.injEq] at e
          refine ⟨g, e.1, (Array.getElem?_eq_some_iff.1 hg).1, fun i hi => ?_⟩
          rw [e.1] at h2
          rw [h2.cellAt (j * 3 + i) (by omega), fq_flat F j i hi hjF]
      have hown := HS.out _ hmem
      have h6 := HQ6.out _ hmem
      obtain ⟨f, hf⟩ : ∃ f, fqA F j = f := ⟨_, rfl⟩
      rw [hf] at hcells hown h6
      obtain ⟨ka, kc, kq⟩ := f
      have c0 : wr.cell? ⟨g, j * 3, none⟩ = some (.bool false) := (HB.out.cell (p := ⟨g, j * 3, none⟩) hgl).trans (hcells 0 (by omega))
      have c1 : wr.cell? ⟨g, j * 3 + 1, none⟩ = some (.slice ka kq.1.length kc) := (HB.out.cell (p := ⟨g, j * 3 + 1, none⟩) hgl).trans (hcells 1 (by omega))
      have c2 : wr.cell? ⟨g, j * 3 + 2, none⟩ = some (.string ⟨kq.2.toArray⟩) := (HB.out.cell (p := ⟨g, j * 3 + 2, none⟩) hgl).trans (hcells 2 (by omega))
      have HFJ := hide hf
      have CA : Hid (∀ o, Calls Tryz.prog 38 #[.agg #[.bool false, .slice ka kq.1.length kc, .string ⟨kq.2.toArray⟩], .slice (some ⟨b, off, none⟩) n cap, .int .i64 x] (wr.alloc o) fun e w' => e = .returned (.tuple #[.string (fvF D x kq).1, .int .i64 (fvF D x kq).2]) ∧ Below (wr.alloc o).heap.size (wr.alloc o) w') := hide (fun o => by
        have hb9 : Below w.heap.size w (wr.alloc o) := HB.out.alloc HB.out.size o
        have h9 := i_at D n b off cap x ka kq.1.length kc ⟨kq.2.toArray⟩ kq.1 B0 (wr.alloc o) HD.out HDK.out hx rfl (by dsimp only at h6; omega) (gOwn_after hown hb9) (Nat.lt_of_lt_of_le hbs hb9.size) (dcRow_up (dcRow_go HR.out hbs hb9) hb9.size)
        unfold fvF
        rw [HD.out]
        exact h9)
      have HRN : Hid (fvF D x ((fun j => (fqA F j).q) j) = fvF D x kq) := hide (by show fvF D x (fqA F j).q = _; rw [HFJ.out])
      obtain ⟨V, hV⟩ : ∃ V, fvF D x kq = V := ⟨_, rfl⟩
      rw [hV] at CA HRN
      obtain ⟨v, many⟩ := V
      obtain ⟨nq, hnq⟩ : ∃ nq, kq.1.length = nq := ⟨_, rfl⟩
      obtain ⟨tq, htq⟩ : ∃ tq : ByteArray, (⟨kq.2.toArray⟩ : ByteArray) = tq := ⟨_, rfl⟩
      rw [hnq] at c1 CA
      rw [htq] at c2 CA
      rw [hg] at p8 ⊢
      clear hcells hown hmem hf hV hnq htq h6
      go_wp2_with fail
      refine (CA.out _).mono ?_
      rintro e w5 ⟨rfl, hb5⟩
      have hb6 : Below wr.heap.size wr w5 := ((Below.refl _ _).alloc (Nat.le_refl _) _).trans (hb5.mono (by simp))
      have HB5 := hide (HB.out.trans (hb6.mono HB.out.size))
      have HRO5 := hide (gOwn_after HRO.out hb6)
      have e1 := D1.out w5 HB5.out
      have hs5 := HB5.out.size
      clear hb5 hb6
      dsimp only
      by_cases hm1 : 1 < many
      · have HNO := hide (rw_stop (rw_bad HRW.out HRN.out (.inl hm1)) (fm - (j + 1)))
        have hd1 : decide (1 < many) = true := decide_eq_true hm1
        go_wp2
        go_ret2
        exact ⟨HB5.out, .inr ⟨by have h9 := HNO.out; rw [show j + 1 + (fm - (j + 1)) = fm by omega] at h9; exact h9, rfl⟩⟩
      · have hd1 : decide (1 < many) = false := decide_eq_false hm1
        by_cases hm0 : many = 0
        · have hb0 : (many == 0) = true := by rw [beq_iff_eq]; exact hm0
          by_cases hk2 : kd = 2
          · have hkb : (kd == 2) = true := by rw [beq_iff_eq]; exact hk2
            have HNO := hide (rw_stop (rw_bad HRW.out HRN.out (.inr ⟨hm0, hk2⟩)) (fm - (j + 1)))
            clear hm0 hk2
            go_wp2
            go_ret2
            exact ⟨HB5.out, .inr ⟨by have h9 := HNO.out; rw [show j + 1 + (fm - (j + 1)) = fm by omega] at h9; exact h9, rfl⟩⟩
          · have hkb : (kd == 2) = false := by rw [beq_eq_false_iff_ne]; exact hk2
            have HSK := hide (rw_skip HRW.out HRN.out (by omega) (by omega))
            have hb1 : (many == 1) = false := by rw [beq_eq_false_iff_ne]; omega
            clear hm0 hk2
            go_wp2
            go_roundw
            case rel => exact ⟨j + 1, L, c8, a8, r, by omega, by go_num, rfl, by omega, HL, HSK, HRO5, HB5⟩
            case measure => simp [intOf]; omega
        · have hb0 : (many == 0) = false := by rw [beq_eq_false_iff_ne]; exact hm0
          by_cases he : many = 1
          · have hb1 : (many == 1) = true := by rw [beq_iff_eq]; exact he
            have HTK := hide (rw_one HRW.out HRN.out he)
            clear he hm0
            go_wp2_with (at_builtin; refine wpList_append_own _ rfl (.tmp 45) (.tmp 47) 30 rfl w.heap.size 9 i0 (.string ByteArray.empty) 1 16 Tryz.underlying30 hi hz0 hz1 hz2 rfl (by decide) _ _ _ rfl (HRO5.out.alloc _) ⟨w5.heap.size, 0, none⟩ 1 1 [.string v] rfl rfl (fun i u hu => tb_new w5 v _ i u hu) (tb_one v) (by unfold maxLen; omega) (by omega) (by simp; omega) ?_; intro v2 w7 hown2 hgrow2 _; obtain ⟨ad2, c2', hv2⟩ := gOwn_shape hown2; rw [hv2] at hown2 ⊢; clear hv2; have HB7 := hide (HB5.out.trans (gBelow_at hs5 HRO5.out hgrow2)); have HO7 := hide hown2; clear hown2 hgrow2)
            go_roundw
            case rel => exact ⟨j + 1, L + 1, c2', ad2, r ++ [v], by omega, by go_num, rfl, by omega, hide (by rw [List.length_append, HL.out]; rfl), HTK, hide (by rw [List.map_append]; exact HO7.out), HB7⟩
            case measure => simp [intOf]; omega
          · have hb1 : (many == 1) = false := by rw [beq_eq_false_iff_ne]; exact he
            have HSK := hide (rw_skip HRW.out HRN.out (by omega) he)
            clear he hm0
            go_wp2
            go_roundw
            case rel => exact ⟨j + 1, L, c8, a8, r, by omega, by go_num, rfl, by omega, HL, HSK, HRO5, HB5⟩
            case measure => simp [intOf]; omega
    · have hje : j = fm := by omega
      subst hje
      go_wp2
      go_ret2
      exact ⟨HB.out, .inl ⟨a8, c8, r, L, HRW.out, HL.out, rfl, HRO.out⟩⟩
set_option maxRecDepth 100000 in
set_option maxHeartbeats 8000000 in
theorem i_tableV (D : Dc) (n b off cap x P o : Nat) (pl : Pl) (ps : List (List UInt8)) (F : List Fq) (B0 fm : Nat) (w : World) (hD : D.n = n) (hdk : docokB D = true) (hx : x < n) (hfm : pl.k.fl.length = fm) (hF : F.length = fm) (h4 : fm ≤ 4) (hq6 : ∀ f ∈ F, f.q.1.length ≤ 6) (hps : ps.length = pl.n1) (hp6 : pl.n1 ≤ 6)
    (hP : PlC w P o pl) (hR : w.ownsRow B0 9 1 (.slice pl.a1 pl.n1 pl.c1) pl.n1 (strV ps)) (hO : w.ownsRow B0 71 3 (.slice pl.fa fm pl.fc) fm (F.flatMap fqV)) (hS : FqS B0 w F) (hbs : b < w.heap.size) (hr : DcRow w b off D w.heap.size) :
    Calls Tryz.prog 45 #[.pointer (some ⟨P, o, none⟩), .slice (some ⟨b, off, none⟩) n cap, .int .i64 x] w (TabAns (tbI D pl.k.kd (fun j => (fqA F j).q) fm (srtL (sel D (st D x n pl.d) ps)) (srtL (sel D (st D x n pl.d) ps)).length) w) := by
  obtain ⟨i0, hi, hz0, hz1, hz2⟩ := info_parts infoStrs
  have hn : n ≤ 200 := by rw [← hD]; exact (docok_facts hdk).1.2
  have hst := st_ok (D := D) (x := x) (n := n) pl.d hD hx
  have hsl := sel_ok ps _ hst.1 hst.2
  have CF := hide (i_from D n b off cap w x pl.d pl.a1 pl.n1 pl.c1 ps B0 hD hn hx hbs hr (by rw [← hD]; exact docok_good hdk) hps (by omega) hR)
  have HIN : Hid (∀ j ∈ srtL (sel D (st D x n pl.d) ps), 0 ≤ j ∧ j < (n : Int)) := hide (fun j hj => by rw [← hD]; exact hsl.2 j ((srt_mem _ _).1 hj))
  have hPL : (srtL (sel D (st D x n pl.d) ps)).length ≤ 200 := by
    rw [srt_len hsl.1]
    have := nodup_len hsl.1 (by rw [← hD] at hn; exact hsl.2)
    omega
  have hPl := hP.1
  have CR : Hid (∀ (y : Nat) (w9 : World), y < n → Below w.heap.size w w9 → Calls Tryz.prog 78 #[.pointer (some ⟨P, o, none⟩), .slice (some ⟨b, off, none⟩) n cap, .int .i64 y] w9 (RowAns (rwI D y pl.k.kd (fun j => (fqA F j).q) fm) w9)) := hide (fun y w9 hy h9 => i_rowV D n b off cap y P o pl F B0 fm w9 hD hdk hy hfm hF h4 hq6 (plC_go hP h9) (gOwn_after hO h9) (fqs_go hS h9) (Nat.lt_of_lt_of_le hbs h9.size) (dcRow_up (dcRow_go hr hbs h9) h9.size))
  have HP := hide hP
  have p6 : w.cell? ⟨P, o + 6, none⟩ = some (.bool pl.d) := by have h9 := hP.2 6 (by decide); rw [h9]; unfold plV; simp
  have p7 : w.cell? ⟨P, o + 7, none⟩ = some (.slice pl.a1 pl.n1 pl.c1) := by have h9 := hP.2 7 (by decide); rw [h9]; unfold plV; simp
  have P8 : Hid (∀ w9, Below w.heap.size w w9 → w9.cell? ⟨P, o + 8, none⟩ = some (.slice pl.fa fm pl.fc)) := hide (fun w9 h9 => (h9.cell (p := ⟨P, o + 8, none⟩) hPl).trans (by have h8 := hP.2 8 (by decide); rw [h8]; unfold plV; simp; exact hfm))
  obtain ⟨PL, hPLe⟩ : ∃ PL, srtL (sel D (st D x n pl.d) ps) = PL := ⟨_, rfl⟩
  rw [hPLe] at CF HIN hPL ⊢
  obtain ⟨N, hN⟩ : ∃ N, PL.length = N := ⟨_, rfl⟩
  rw [hN] at CF hPL ⊢
  have HN := hide hN
  obtain ⟨kd, hkd⟩ : ∃ kd, pl.k.kd = kd := ⟨_, rfl⟩
  rw [hkd] at CR ⊢
  clear hD hdk hfm hF hq6 hps hP hR hO hS hr hst hsl hPLe hN hkd
  go_enter Tryz.func45, Tryz.ntmps45
  go_wp2_with fail
  refine CF.out.mono ?_
  rintro e w2 ⟨pa, pc, rfl, hir, hb2⟩
  have HB2 := hide hb2
  have HIR := hide hir
  clear hir hb2
  go_wp2
  go_loopw [8, 21] (fun tv iv wr => ∃ (i L c8 : Nat) (a8 : Option Addr) (T : List (List ByteArray)) (cs : List Value), i ≤ N ∧ iv = .int .i64 i ∧ tv = .slice a8 L c8 ∧ L ≤ i ∧ Hid (T.length = L) ∧ Hid (tbI D kd (fun j => (fqA F j).q) fm PL i = some T) ∧ Hid (wr.ownsRow w2.heap.size 30 1 (.slice a8 L c8) L cs) ∧ Hid (RrS w2.heap.size wr cs T) ∧ Hid (Below w2.heap.size w2 wr)) (fun _ iv _ => N - (intOf iv).toNat)
  case atStart => exact ⟨0, 0, 0, none, [], [], Nat.zero_le _, rfl, rfl, Nat.le_refl _, hide rfl, hide rfl, hide ⟨rfl, .inl ⟨rfl, rfl⟩⟩, hide ⟨rfl, fun j hj => absurd hj (Nat.not_lt_zero _), fun i j u v h hu => by simp at hu⟩, hide (Below.refl _ _)⟩
  case round =>
    obtain ⟨i, L, c8, a8, T, cs, hii, rfl, rfl, hLi, HTL, HTB, HTO, HRR, HB⟩ := hrel
    have HBB := hide (HB2.out.trans (HB.out.mono HB2.out.size))
    have hsz := HBB.out.size
    have hsw2 : w2.heap.size ≤ wr.heap.size := HB.out.size
    by_cases hlt : i < N
    · have hci : (i : Int) < (N : Int) := by omega
      obtain ⟨g, hga, hgl, hc⟩ := ti_at HIR.out i (by rw [HN.out]; exact hlt)
      have q0 := (HB.out.cell (p := ⟨g, i, none⟩) hgl).trans hc
      have hin := HIN.out (PL[i]?.getD 0) (by rw [List.getElem?_eq_getElem (by rw [HN.out]; exact hlt)]; exact List.getElem_mem _)
      obtain ⟨p, hp⟩ : ∃ p : Nat, PL[i]?.getD 0 = (p : Int) := ⟨(PL[i]?.getD 0).toNat, by omega⟩
      have HPP : Hid ((PL[i]?.getD 0).toNat = p) := hide (by rw [hp]; rfl)
      rw [hp] at q0 hin
      have hpn : p < n := by omega
      have CR2 := hide (CR.out p wr hpn HBB.out)
      subst hga
      clear hc hp hin
      go_wp2_with fail
      refine CR2.out.mono ?_
      rintro e w5 ⟨hb5, hans⟩
      have HB5 := hide (HB.out.trans (hb5.mono HB.out.size))
      have HBB5 := hide (HBB.out.trans (hb5.mono HBB.out.size))
      have HTO5 := hide (gOwn_after HTO.out hb5)
      have HRR5 := hide (rrs_go HRR.out hb5)
      have HLT := hide (rrs_lt HRR.out)
      have e8 := P8.out w5 HBB5.out
      have hs5 := HBB5.out.size
      have hs52 : w2.heap.size ≤ w5.heap.size := HB5.out.size
      have hsw : wr.heap.size ≤ w5.heap.size := hb5.size
      clear hb5
      rcases hans with ⟨ra, rc, r, k, hor, hrk, rfl, hro⟩ | ⟨hor, rfl⟩
      · have HRO := hide hro
        have HRK := hide hrk
        by_cases hkf : k = fm
        · have hkb : ((k : Int) == (fm : Int)) = true := by rw [hkf, beq_iff_eq]
          have HTB2 := hide (tb_yes HTB.out HPP.out hor (by rw [hrk]; exact hkf))
          clear hor hro hrk hkf
          go_wp2_with (at_builtin; refine wpList_append_own _ rfl (.tmp 42) (.tmp 44) 34 rfl w2.heap.size 30 i0 (.slice none 0 0) 1 24 Tryz.underlying34 hi hz0 hz1 hz2 rfl (by decide) _ _ _ rfl (HTO5.out.alloc _) ⟨w5.heap.size, 0, none⟩ 1 1 [.slice ra k rc] rfl rfl (fun i u hu => ts_new w5 _ _ _ _ i u hu) (ts_one _ _ _) (by unfold maxLen; omega) (by omega) (by simp; omega) ?_; intro v2 w7 hown2 hgrow2 _; obtain ⟨ad2, c2', hv2⟩ := gOwn_shape hown2; rw [hv2] at hown2 ⊢; clear hv2; have HB7 := hide (rt_below HB5.out HTO5.out HB5.out.size hgrow2); have HRR7 := hide (rrs_grown (rrs_put (B2 := wr.heap.size) HRR5.out HRK.out (gOwn_lower HRO.out hsw2) (fun q hq => (HRO.out.lt q hq).1) HLT.out) HTO5.out (by decide) hgrow2); have HO7 := hide hown2; clear hown2 hgrow2)
          go_roundw
          case rel => exact ⟨i + 1, L + 1, c2', ad2, T ++ [r], cs ++ [.slice ra k rc], by omega, by go_num, rfl, by omega, hide (by rw [List.length_append, HTL.out]; rfl), HTB2, HO7, HRR7, HB7⟩
          case measure => simp [intOf]; omega
        · have hkb : ((k : Int) == (fm : Int)) = false := by rw [beq_eq_false_iff_ne]; omega
          have HTB2 := hide (tb_skip HTB.out HPP.out hor (by rw [hrk]; exact hkf))
          clear hor hro hrk hkf
          go_wp2
          go_roundw
          case rel => exact ⟨i + 1, L, c8, a8, T, cs, by omega, by go_num, rfl, by omega, HTL, HTB2, HTO5, HRR5, HB5⟩
          case measure => simp [intOf]; omega
      · have HNO := hide (tb_stop (tb_bad HTB.out HPP.out hor) (N - (i + 1)))
        clear hor
        go_wp2
        go_ret2
        exact ⟨HBB5.out, .inr ⟨by have h9 := HNO.out; rw [show i + 1 + (N - (i + 1)) = N by omega] at h9; exact h9, rfl⟩⟩
    · have hie : i = N := by omega
      subst hie
      go_wp2
      go_ret2
      exact ⟨HBB.out, .inl ⟨a8, c8, T, L, cs, HTB.out, HTL.out, rfl, gOwn_lower HTO.out HB2.out.size, rrs_low HRR.out HB2.out.size⟩⟩
/-- The table of a plan. -/
theorem i_tabP (D : Dc) (n b off cap x P o : Nat) (pl : Pl) (B0 : Nat) (w : World) (hD : D.n = n) (hdk : docokB D = true) (hx : x < n) (hP : PlC w P o pl) (hW : PlW B0 w pl) (hbs : b < w.heap.size) (hr : DcRow w b off D w.heap.size) :
    Calls Tryz.prog 45 #[.pointer (some ⟨P, o, none⟩), .slice (some ⟨b, off, none⟩) n cap, .int .i64 x] w (TabAns (tbK D x pl.k) w) := by
  obtain ⟨h1, h2, h3, F, h4, h5, h6, h7, h8⟩ := hW
  have h9 := i_tableV D n b off cap x P o pl (sg [] (restL pl.k.pa.data.toList)) F B0 pl.k.fl.length w hD hdk hx rfl h5 h1.2.2.2.2.1.2 (fun f hf => by
    obtain ⟨i, hi, e⟩ := List.mem_iff_getElem.1 hf
    have h8 := h6 i (by rw [← h5]; exact hi)
    have e2 : fqA F i = f := by unfold fqA; rw [List.getElem?_eq_getElem hi]; exact e
    rw [e2] at h8
    exact fld_few h8) (by rw [h3]; rfl) (by rw [h3]; exact route_few h1.2.2.2.1) hP h4 h7 h8 hbs hr
  have hc := tb_congr (D := D) (kd := pl.k.kd) (Q1 := fun j => (fqA F j).q) (Q2 := kyQ pl.k) (nf := pl.k.fl.length) (L := srtL (sel D (st D x n pl.d) (sg [] (restL pl.k.pa.data.toList)))) (fun j hj => by
    have h8 := h6 j hj
    unfold kyQ
    show (fqA F j).q = (fld (pl.k.fl[j]?.getD ⟨#[]⟩).data.toList).getD ([], [])
    rw [h8]
    rfl)
  rw [hc] at h9
  unfold tbK kyP
  rw [hD, ← h2]
  exact h9
end Go.Proofs.YtfbahffljhnjbaaGreatDoor
