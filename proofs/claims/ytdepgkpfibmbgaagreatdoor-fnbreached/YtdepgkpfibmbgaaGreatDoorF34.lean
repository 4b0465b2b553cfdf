/-
  Texts put together: FoJ, TbM, TbR.
-/
import Derived.Test.YtdepgkpfibmbgaaGreatDoorF30
import Derived.Test.YtdepgkpfibmbgaaGreatDoorF33
import Derived.Test.YtdepgkpfibmbgaaGreatDoorF26
import Derived.Test.YtdepgkpfibmbgaaGreatDoorF20
/-
  Contract of the program: what FieldOf answers.
-/
namespace Go.Proofs.YtdepgkpfibmbgaaGreatDoor
open Go.RowKit Go.Joins
set_option linter.unusedVariables false
set_option linter.unusedSimpArgs false
theorem mt_mem {D : Dc} {p : Nat} {A v : ByteArray} : ∀ k, v ∈ mtA D p A k → ∃ j, j < k ∧ v = D.AV p j
  | 0, h => by simp [mtA] at h
  | k + 1, h => by
    rw [mtA, List.mem_append] at h
    rcases h with h | h
    · obtain ⟨j, h1, h2⟩ := mt_mem k h
      exact ⟨j, by omega, h2⟩
    · split at h
      · simp at h
        exact ⟨k, by omega, h⟩
      · simp at h
theorem val_all {D : Dc} (hdk : docokB D = true) {A v : ByteArray} {p : Nat} (hp : p < D.n) (h : v ∈ vlA D A p) : v.size ≤ 1048576 := by
  unfold vlA at h
  split at h
  · simp at h
    rw [h]
    have := txF_size D p D.n
    have := (docok_facts hdk).2.2
    omega
  · obtain ⟨j, hj, rfl⟩ := mt_mem _ h
    exact av_small hdk hp hj
theorem str_cellF {w : World} {B : Nat} {va : Option Addr} {c : Nat} {l : List ByteArray} (h : w.ownsRow B 9 1 (.slice va l.length c) l.length (l.map Value.string)) (h1 : l.length = 1) : ∃ g, va = some ⟨g, 0, none⟩ ∧ g < w.heap.size ∧ w.cell? ⟨g, 0, none⟩ = some (.string (l[0]?.getD ⟨#[]⟩)) := by
  have h2 := h
  rcases h.2 with ⟨e, h0⟩ | ⟨g, cap, cur, e, -, hg, -⟩
  · omega
  · simp only [Value.slice.injEq] at e
    obtain ⟨rfl, -⟩ := e
    refine ⟨g, rfl, (Array.getElem?_eq_some_iff.1 hg).1, ?_⟩
    rw [h2.cellAt 0 (by omega), List.getElem?_map, List.getElem?_eq_getElem (by omega)]
    rfl
set_option maxRecDepth 100000 in
set_option maxHeartbeats 8000000 in
theorem i_at (D : Dc) (n b off cap x : Nat) (ad : Option Addr) (m c : Nat) (A : ByteArray) (ns : List (List UInt8)) (B0 : Nat) (w : World) (hD : D.n = n) (hdk : docokB D = true) (hx : x < n) (hm : ns.length = m) (hm2 : m ≤ 1000) (hN : w.ownsRow B0 9 1 (.slice ad m c) m (strV ns)) (hbs : b < w.heap.size) (hr : DcRow w b off D w.heap.size) :
    Calls Tryz.prog 32 #[.agg #[.bool false, .slice ad m c, .string A], .slice (some ⟨b, off, none⟩) n cap, .int .i64 x] w fun e w' => e = .returned (.tuple #[.string (foA (vlL D A (srtL (sel D (st D x n false) ns)))).1, .int .i64 (foA (vlL D A (srtL (sel D (st D x n false) ns)))).2]) ∧ Below w.heap.size w w' := by
  obtain ⟨i0, hi, hz0, hz1, hz2⟩ := info_parts infoStr
  have HD := hide hD
  have HDK := hide hdk
  have HRW := hide hr
  have hn : n ≤ 200 := by rw [← hD]; exact (docok_facts hdk).1.2
  have hpl := pl_facts hD hn hx ns
  have HL2 := hide hpl.1
  have HL3 := hide hpl.2
  have st9 := fun o : Obj => (Below.refl w.heap.size w).alloc (Nat.le_refl _) o
  have CF : Hid (∀ w2, Below w.heap.size w w2 → Calls Tryz.prog 30 #[.agg #[.bool false, .slice ad m c], .slice (some ⟨b, off, none⟩) n cap, .int .i64 x] w2 fun e w' => ∃ ad2 c2, e = .returned (.slice ad2 (srtL (sel D (st D x n false) ns)).length c2) ∧ IntR w2.heap.size w' ad2 c2 (srtL (sel D (st D x n false) ns)) ∧ Below w2.heap.size w2 w') := hide (fun w2 h2 => i_from D n b off cap w2 x false ad m c ns B0 hD hn hx (Nat.lt_of_lt_of_le hbs h2.size) (dcRow_up (dcRow_go hr hbs h2) h2.size) (by rw [← hD]; exact docok_good hdk) hm hm2 (gOwn_after hN h2))
  obtain ⟨L, hL⟩ : ∃ L, srtL (sel D (st D x n false) ns) = L := ⟨_, rfl⟩
  rw [hL] at HL2 HL3 CF ⊢
  have HVL : Hid (∀ k, (vlL D A (L.take k)).length ≤ 2000) := hide (fun k => by
    have h9 := vl_len (D := D) (A := A) (fun p hp => (att_facts HDK.out hp).1) (L.take k) (fun j hj => HL3.out j (List.mem_of_mem_take hj))
    have h8 := HL2.out
    rw [List.length_take] at h9
    omega)
  obtain ⟨l, hl⟩ : ∃ l, L.length = l := ⟨_, rfl⟩
  rw [hl] at CF
  have HLL := hide hl
  have hl200 : l ≤ 200 := by rw [← hl]; exact HL2.out
  have HFB := hide (cellsAt_new w #[.bool false, .slice ad m c, .string A])
  clear hr hdk hpl hL hD hl hN hm
  go_enter Tryz.func32, Tryz.ntmps32
  go_wp2_with (go_at_call 30; refine (CF.out _ (st9 _)).mono ?_; rintro e w3 ⟨ad3, c3, rfl, hi3, hb3⟩; have HI := hide hi3; have HB3 := hide ((st9 _).trans (hb3.mono (st9 _).size)); have HK3 := hide (cellsAt_go (HFB.out _) hb3 (by simp)); clear hi3 hb3)
  have hw3 : w.heap.size < w3.heap.size := cellsAt_lt HK3.out
  go_loopw [8, 19] (fun vv iv wr => ∃ (k M vc : Nat) (va : Option Addr), k ≤ l ∧ iv = .int .i64 k ∧ vv = .slice va M vc ∧ M ≤ 2000 ∧ Hid (M = (vlL D A (L.take k)).length) ∧ Hid (wr.ownsRow w3.heap.size 9 1 (.slice va M vc) M ((vlL D A (L.take k)).map Value.string)) ∧ Hid (Below w3.heap.size w3 wr)) (fun _ iv _ => l - (intOf iv).toNat)
  case atStart => exact ⟨0, 0, 0, none, Nat.zero_le _, rfl, rfl, by omega, rfl, hide ⟨rfl, .inl ⟨rfl, rfl⟩⟩, Below.refl _ _⟩
  case round =>
    obtain ⟨k, M, vc, va, hk, rfl, rfl, hM, HM, HO, HB⟩ := hrel
    by_cases hlt : k < l
    · have hki : (k : Int) < l := by omega
      have hkL : k < L.length := by rw [HLL.out]; exact hlt
      obtain ⟨g, hg, hgl, hc⟩ := intR_at HI.out k hkL
      have c0 := (HB.out.cell (p := ⟨g, k, none⟩) hgl).trans hc
      obtain ⟨hp0, hp1⟩ := HL3.out _ (List.getElem_mem hkL)
      have HTK := hide (vl_take (D := D) (A := A) hkL)
      have hpe : L[k]?.getD 0 = L[k] := by rw [List.getElem?_eq_getElem hkL]; rfl
      rw [← hpe] at hp0 hp1
      obtain ⟨p, hp⟩ : ∃ p, L[k]?.getD 0 = p := ⟨_, rfl⟩
      rw [hp] at c0 hp0 hp1 HTK
      subst hg
      have HBw := hide (HB3.out.trans (HB.out.mono HB3.out.size))
      have hpi : p < (n : Int) := by rw [← HD.out]; exact hp1
      have hKr := cellsAt_go HK3.out HB.out hw3
      have k0 := cellsAt_cell hKr 0
      have k1 := cellsAt_cell hKr 1
      have k2 := cellsAt_cell hKr 2
      simp at k0 k1 k2
      have CV := hide (i_valueOf D n b off cap p ad m c A wr HD.out HDK.out ⟨hp0, hpi⟩ (Nat.lt_of_lt_of_le hbs HBw.out.size) (dcRow_up (dcRow_go HRW.out hbs HBw.out) HBw.out.size))
      have hs3 : w3.heap.size ≤ wr.heap.size := HB.out.size
      clear hc hp hpe hp1 hkL hKr
      go_wp2_with fail
      refine CV.out.mono ?_
      rintro e w5 ⟨⟨v, Bv, rfl, hv⟩, hb5⟩
      have HB5 := hide (HB.out.trans (hb5.mono HB.out.size))
      have HO5 := hide (gOwn_after HO.out hb5)
      have hs5 : w3.heap.size ≤ w5.heap.size := HB5.out.size
      clear hb5
      cases Bv
      · have HTK2 : Hid (vlL D A (L.take (k + 1)) = vlL D A (L.take k)) := hide (by rw [HTK.out, hv]; simp)
        go_wp2
        go_roundw
        case rel => exact ⟨k + 1, M, vc, va, by omega, by go_num, rfl, hM, hide (by rw [HTK2.out]; exact HM.out), hide (by rw [HTK2.out]; exact HO5.out), HB5⟩
        case measure => simp [intOf]; omega
      · have HTK2 : Hid (vlL D A (L.take (k + 1)) = vlL D A (L.take k) ++ [v]) := hide (by rw [HTK.out, hv]; rfl)
        have HM2 : Hid (M + 1 = (vlL D A (L.take (k + 1))).length) := hide (by rw [HTK2.out, List.length_append, ← HM.out]; rfl)
        have hM2 : M + 1 ≤ 2000 := by have h9 := HM2.out; have h8 := HVL.out (k + 1); omega
        go_wp2_with (first | (at_builtin; refine wpList_append_own _ rfl (.tmp 31) (.tmp 33) 25 rfl w3.heap.size 9 i0 (.string ByteArray.empty) 1 16 Tryz.underlying25 hi hz0 hz1 hz2 rfl (by decide) _ _ _ rfl (HO5.out.alloc _) ⟨w5.heap.size, 0, none⟩ 1 1 [.string v] rfl rfl (fun j u hj => gOne_new w5 _ _ j u hj) (gStr_list _) (by unfold maxLen; omega) (by omega) (by simp; omega) ?_; intro v2 w7 hown2 hgrow2 _; obtain ⟨ad2, c2', hv2⟩ := gOwn_shape hown2; rw [hv2] at hown2 ⊢; clear hv2; have HB7 := hide (gBelow_one HB5.out HO5.out hgrow2); have HO7 := hide hown2; clear hown2 hgrow2))
        go_roundw
        case rel => exact ⟨k + 1, M + 1, c2', ad2, by omega, by go_num, rfl, hM2, HM2, hide (by rw [HTK2.out, List.map_append]; exact HO7.out), HB7⟩
        case measure => simp [intOf]; omega
    · have hkl : k = l := by omega
      have HTA : Hid (vlL D A (L.take k) = vlL D A L) := hide (by rw [hkl, ← HLL.out, List.take_length])
      rw [HTA.out] at HM HO
      have HBF := hide (HB3.out.trans (HB.out.mono HB3.out.size))
      clear hkl
      by_cases hm1 : M = 1
      · have hmb : ((M : Int) != 1) = false := by rw [hm1]; rfl
        have hM1 : (vlL D A L).length = 1 := by rw [← HM.out]; exact hm1
        have ho := HO.out
        rw [HM.out] at ho
        obtain ⟨g, hg, hgl, hc0⟩ := str_cellF ho hM1
        obtain ⟨v, hv⟩ : ∃ v, vlL D A L = [v] := List.length_eq_one_iff.1 hM1
        rw [hv] at hc0
        have hc1 : wr.cell? ⟨g, 0, none⟩ = some (.string v) := hc0
        have HF : Hid (foA (vlL D A L) = (whB v 2, 1)) := hide (by rw [hv]; rfl)
        have hvs : v.size ≤ 1048576 := by
          have hmem : v ∈ vlL D A L := by rw [hv]; simp
          unfold vlL at hmem
          obtain ⟨p, hp, hpv⟩ := List.mem_flatMap.1 hmem
          have hp2 := HL3.out p hp
          refine val_all HDK.out (p := p.toNat) (by omega) hpv
        have CW := hide (fun w9 => i_white v 2 w9 hvs)
        subst hg
        have hMi : (0 : Int) < M := by omega
        clear ho hc0 hv hM1 hm1
        go_wp2_with (go_at_call 64; refine (CW.out _).mono ?_; rintro e w6 ⟨rfl, hb6⟩; have HB6 := hide (HBF.out.trans (hb6.mono HBF.out.size)); clear hb6)
        go_ret2
        exact ⟨by rw [HF.out]; rfl, HB6.out⟩
      · have hmb : ((M : Int) != 1) = true := by rw [bne_iff_ne]; omega
        have HF : Hid (foA (vlL D A L) = (⟨#[]⟩, (M : Int))) := hide (by unfold foA; rw [← HM.out, if_neg hm1])
        clear hm1
        go_wp2
        go_ret2
        exact ⟨by rw [HF.out]; rfl, HBF.out⟩
end Go.Proofs.YtdepgkpfibmbgaaGreatDoor

/-
  What a table holds. No step of the program in this text.
-/
namespace Go.Proofs.YtdepgkpfibmbgaaGreatDoor
open Go.RowKit
set_option linter.unusedVariables false
set_option linter.unusedSimpArgs false
/-- What a field says at a place: a value, and how many there are. -/
def fvF (D : Dc) (p : Nat) (q : List (List UInt8) × List UInt8) : ByteArray × Int := foA (vlL D ⟨q.2.toArray⟩ (srtL (sel D (st D p D.n false) q.1)))
/-- A row: none where it is broken; else the values of the fields that are there. -/
def rwI (D : Dc) (p : Nat) (kd : Int) (Qs : Nat → List (List UInt8) × List UInt8) : Nat → Option (List ByteArray)
  | 0 => some []
  | j + 1 => match rwI D p kd Qs j with
    | none => none
    | some r => if 1 < (fvF D p (Qs j)).2 ∨ ((fvF D p (Qs j)).2 = 0 ∧ kd = 2) then none else if (fvF D p (Qs j)).2 = 1 then some (r ++ [(fvF D p (Qs j)).1]) else some r
section
variable {D : Dc} {p : Nat} {kd : Int} {Qs : Nat → List (List UInt8) × List UInt8} {j : Nat} {r : List ByteArray} {v : ByteArray} {m : Int}
theorem rw_bad (h : rwI D p kd Qs j = some r) (hv : fvF D p (Qs j) = (v, m)) (hb : 1 < m ∨ (m = 0 ∧ kd = 2)) : rwI D p kd Qs (j + 1) = none := by
  rw [rwI, h, hv]
  exact if_pos hb
theorem rw_one (h : rwI D p kd Qs j = some r) (hv : fvF D p (Qs j) = (v, m)) (hm : m = 1) : rwI D p kd Qs (j + 1) = some (r ++ [v]) := by
  rw [rwI, h, hv]
  dsimp only
  rw [if_neg (by omega), if_pos hm]
theorem rw_skip (h : rwI D p kd Qs j = some r) (hv : fvF D p (Qs j) = (v, m)) (hb : ¬ (1 < m ∨ (m = 0 ∧ kd = 2))) (hm : m ≠ 1) : rwI D p kd Qs (j + 1) = some r := by
  rw [rwI, h, hv]
  dsimp only
  rw [if_neg hb, if_neg hm]
theorem rw_stop (h : rwI D p kd Qs j = none) : ∀ k, rwI D p kd Qs (j + k) = none
  | 0 => h
  | k + 1 => by rw [show j + (k + 1) = (j + k) + 1 by omega, rwI, rw_stop h k]
end
theorem fq_flat : ∀ (F : List Fq) (j i : Nat), i < 3 → j < F.length → (F.flatMap fqV)[j * 3 + i]? = (fqV (fqA F j))[i]?
  | [], j, i, hi, hj => by simp at hj
  | f :: F, 0, i, hi, hj => by
    rw [List.flatMap_cons, List.getElem?_append_left (by show 0 * 3 + i < 3; omega), Nat.zero_mul, Nat.zero_add]
    rfl
  | f :: F, j + 1, i, hi, hj => by
    have hl : (fqV f).length = 3 := rfl
    rw [List.flatMap_cons, List.getElem?_append_right (by omega), hl, show (j + 1) * 3 + i - 3 = j * 3 + i by omega, fq_flat F j i hi (by simpa using hj)]
    rfl
/-- What a row is told as. -/
def RowAns (o : Option (List ByteArray)) (w : World) (e : Ending) (w' : World) : Prop := Below w.heap.size w w' ∧
  ((∃ ra rc r k, o = some r ∧ r.length = k ∧ e = .returned (.tuple #[.slice ra k rc, .bool true]) ∧ w'.ownsRow w.heap.size 9 1 (.slice ra k rc) k (r.map Value.string)) ∨
   (o = none ∧ e = .returned (.tuple #[.slice none 0 0, .bool false])))
end Go.Proofs.YtdepgkpfibmbgaaGreatDoor

/-
  Contract of the program: (*plan).row.
-/
namespace Go.Proofs.YtdepgkpfibmbgaaGreatDoor
open Go.RowKit Go.Joins
set_option linter.unusedVariables false
set_option linter.unusedSimpArgs false
theorem tb_one (s : ByteArray) : ∀ u ∈ [Value.string s], u.oneCell' = true := by intro u hu; simp at hu; subst hu; rfl
theorem tb_new (w : World) (s : ByteArray) (T : TypeId) (j : Nat) (u : Value) (hj : [Value.string s][j]? = some u) : (w.alloc (.cells #[.string s] T)).cell? ((⟨w.heap.size, 0, none⟩ : Addr).add j) = some u := by
  match j, hj with
  | 0, hj => simp at hj; subst hj; simp [Addr.add]
set_option maxRecDepth 100000 in
set_option maxHeartbeats 8000000 in
theorem i_row (D : Dc) (n b off cap x P : Nat) (pl : Pl) (F : List Fq) (B0 fm : Nat) (w : World) (hD : D.n = n) (hdk : docokB D = true) (hx : x < n) (hfm : pl.k.fl.length = fm) (hF : F.length = fm) (h4 : fm ≤ 4) (hq6 : ∀ f ∈ F, f.q.1.length ≤ 6)
    (hP : CellsAt w P (plV pl).toArray) (hO : w.ownsRow B0 69 3 (.slice pl.fa fm pl.fc) fm (F.flatMap fqV)) (hS : FqS B0 w F) (hbs : b < w.heap.size) (hr : DcRow w b off D w.heap.size) :
    Calls Tryz.prog 52 #[.pointer (some ⟨P, 0, none⟩), .slice (some ⟨b, off, none⟩) n cap, .int .i64 x] w (RowAns (rwI D x pl.k.kd (fun j => (fqA F j).q) fm) w) := by
  obtain ⟨i0, hi, hz0, hz1, hz2⟩ := info_parts infoStr
  have HD := hide hD
  have HDK := hide hdk
  have HF := hide hF
  have HQ6 := hide hq6
  have HO := hide hO
  have HS := hide hS
  have HR := hide hr
  have HP := hide hP
  have hPl := cellsAt_lt hP
  have p8 : w.cell? ⟨P, 8, none⟩ = some (.slice pl.fa fm pl.fc) := by have h9 := cellsAt_cell hP 8; rw [h9]; unfold plV; simp; exact hfm
  obtain ⟨kd, hkd⟩ : ∃ kd, pl.k.kd = kd := ⟨_, rfl⟩
  rw [hkd]
  have D1 : Hid (∀ w9, Below w.heap.size w w9 → w9.cell? ⟨P, 1, none⟩ = some (.int .i64 kd)) := hide (fun w9 h9 => (h9.cell (p := ⟨P, 1, none⟩) hPl).trans (by have h8 := cellsAt_cell HP.out 1; rw [h8]; unfold plV; simp; exact hkd))
  clear hD hdk hF hq6 hO hS hr hP hfm hkd
  go_enter Tryz.func52, Tryz.ntmps52
  go_wp2
  go_loopw [8, 18] (fun rv jv wr => ∃ (j L c8 : Nat) (a8 : Option Addr) (r : List ByteArray), j ≤ fm ∧ jv = .int .i64 j ∧ rv = .slice a8 L c8 ∧ L ≤ j ∧ Hid (r.length = L) ∧ Hid (rwI D x kd (fun j => (fqA F j).q) j = some r) ∧ Hid (wr.ownsRow w.heap.size 9 1 (.slice a8 L c8) L (r.map Value.string)) ∧ Hid (Below w.heap.size w wr)) (fun _ jv _ => fm - (intOf jv).toNat)
  case atStart => exact ⟨0, 0, 0, none, [], Nat.zero_le _, rfl, rfl, Nat.le_refl _, hide rfl, hide rfl, hide ⟨rfl, .inl ⟨rfl, rfl⟩⟩, hide (Below.refl _ _)⟩
  case round =>
    obtain ⟨j, L, c8, a8, r, hj, rfl, rfl, hLj, HL, HRW, HRO, HB⟩ := hrel
    have hsz := HB.out.size
    by_cases hlt : j < fm
    · have hji : (j : Int) < (fm : Int) := by omega
      have hjF : j < F.length := by rw [HF.out]; exact hlt
      have hmem : fqA F j ∈ F := by unfold fqA; rw [List.getElem?_eq_getElem hjF]; exact List.getElem_mem _
      obtain ⟨g, hg, hgl, hcells⟩ : ∃ g, pl.fa = some ⟨g, 0, none⟩ ∧ g < w.heap.size ∧ ∀ i, i < 3 → w.cell? ⟨g, j * 3 + i, none⟩ = (fqV (fqA F j))[i]? := by
        have h2 := HO.out
        rcases h2.2 with ⟨e, h0⟩ | ⟨g, cp, cur, e, -, hg, -⟩
        · omega
        · simp only [Value.slice.injEq] at e
          refine ⟨g, e.1, (Array.getElem?_eq_some_iff.1 hg).1, fun i hi => ?_⟩
          rw [e.1] at h2
          rw [h2.cellAt (j * 3 + i) (by omega), fq_flat F j i hi hjF]
      have hown := HS.out _ hmem
      have h6 := HQ6.out _ hmem
      obtain ⟨f, hf⟩ : ∃ f, fqA F j = f := ⟨_, rfl⟩
      rw [hf] at hcells hown h6
      obtain ⟨ka, kc, kq⟩ := f
      have c0 : wr.cell? ⟨g, j * 3, none⟩ = some (.bool false) := (HB.out.cell (p := ⟨g, j * 3, none⟩) hgl).trans (hcells 0 (by omega))
      have c1 : wr.cell? ⟨g, j * 3 + 1, none⟩ = some (.slice ka kq.1.length kc) := (HB.out.cell (p := ⟨g, j * 3 + 1, none⟩) hgl).trans (hcells 1 (by omega))
      have c2 : wr.cell? ⟨g, j * 3 + 2, none⟩ = some (.string ⟨kq.2.toArray⟩) := (HB.out.cell (p := ⟨g, j * 3 + 2, none⟩) hgl).trans (hcells 2 (by omega))
      have HFJ := hide hf
      have CA : Hid (∀ o, Calls Tryz.prog 32 #[.agg #[.bool false, .slice ka kq.1.length kc, .string ⟨kq.2.toArray⟩], .slice (some ⟨b, off, none⟩) n cap, .int .i64 x] (wr.alloc o) fun e w' => e = .returned (.tuple #[.string (fvF D x kq).1, .int .i64 (fvF D x kq).2]) ∧ Below (wr.alloc o).heap.size (wr.alloc o) w') := hide (fun o => by
        have hb9 : Below w.heap.size w (wr.alloc o) := HB.out.alloc HB.out.size o
        have h9 := i_at D n b off cap x ka kq.1.length kc ⟨kq.2.toArray⟩ kq.1 B0 (wr.alloc o) HD.out HDK.out hx rfl (by dsimp only at h6; omega) (gOwn_after hown hb9) (Nat.lt_of_lt_of_le hbs hb9.size) (dcRow_up (dcRow_go HR.out hbs hb9) hb9.size)
        unfold fvF
        rw [HD.out]
        exact h9)
      have HRN : Hid (fvF D x ((fun j => (fqA F j).q) j) = fvF D x kq) := hide (by show fvF D x (fqA F j).q = _; rw [HFJ.out])
      obtain ⟨V, hV⟩ : ∃ V, fvF D x kq = V := ⟨_, rfl⟩
      rw [hV] at CA HRN
      obtain ⟨v, many⟩ := V
      obtain ⟨nq, hnq⟩ : ∃ nq, kq.1.length = nq := ⟨_, rfl⟩
      obtain ⟨tq, htq⟩ : ∃ tq : ByteArray, (⟨kq.2.toArray⟩ : ByteArray) = tq := ⟨_, rfl⟩
      rw [hnq] at c1 CA
      rw [htq] at c2 CA
      rw [hg] at p8 ⊢
      clear hcells hown hmem hf hV hnq htq h6
      go_wp2_with fail
      refine (CA.out _).mono ?_
      rintro e w5 ⟨rfl, hb5⟩
      have hb6 : Below wr.heap.size wr w5 := ((Below.refl _ _).alloc (Nat.le_refl _) _).trans (hb5.mono (by simp))
      have HB5 := hide (HB.out.trans (hb6.mono HB.out.size))
      have HRO5 := hide (gOwn_after HRO.out hb6)
      have e1 := D1.out w5 HB5.out
      have hs5 := HB5.out.size
      clear hb5 hb6
      dsimp only
      by_cases hm1 : 1 < many
      · have HNO := hide (rw_stop (rw_bad HRW.out HRN.out (.inl hm1)) (fm - (j + 1)))
        have hd1 : decide (1 < many) = true := decide_eq_true hm1
        go_wp2
        go_ret2
        exact ⟨HB5.out, .inr ⟨by have h9 := HNO.out; rw [show j + 1 + (fm - (j + 1)) = fm by omega] at h9; exact h9, rfl⟩⟩
      · have hd1 : decide (1 < many) = false := decide_eq_false hm1
        by_cases hm0 : many = 0
        · have hb0 : (many == 0) = true := by rw [beq_iff_eq]; exact hm0
          by_cases hk2 : kd = 2
          · have hkb : (kd == 2) = true := by rw [beq_iff_eq]; exact hk2
            have HNO := hide (rw_stop (rw_bad HRW.out HRN.out (.inr ⟨hm0, hk2⟩)) (fm - (j + 1)))
            clear hm0 hk2
            go_wp2
            go_ret2
            exact ⟨HB5.out, .inr ⟨by have h9 := HNO.out; rw [show j + 1 + (fm - (j + 1)) = fm by omega] at h9; exact h9, rfl⟩⟩
          · have hkb : (kd == 2) = false := by rw [beq_eq_false_iff_ne]; exact hk2
            have HSK := hide (rw_skip HRW.out HRN.out (by omega) (by omega))
            have hb1 : (many == 1) = false := by rw [beq_eq_false_iff_ne]; omega
            clear hm0 hk2
            go_wp2
            go_roundw
            case rel => exact ⟨j + 1, L, c8, a8, r, by omega, by go_num, rfl, by omega, HL, HSK, HRO5, HB5⟩
            case measure => simp [intOf]; omega
        · have hb0 : (many == 0) = false := by rw [beq_eq_false_iff_ne]; exact hm0
          by_cases he : many = 1
          · have hb1 : (many == 1) = true := by rw [beq_iff_eq]; exact he
            have HTK := hide (rw_one HRW.out HRN.out he)
            clear he hm0
            go_wp2_with (at_builtin; refine wpList_append_own _ rfl (.tmp 45) (.tmp 47) 25 rfl w.heap.size 9 i0 (.string ByteArray.empty) 1 16 Tryz.underlying25 hi hz0 hz1 hz2 rfl (by decide) _ _ _ rfl (HRO5.out.alloc _) ⟨w5.heap.size, 0, none⟩ 1 1 [.string v] rfl rfl (fun i u hu => tb_new w5 v _ i u hu) (tb_one v) (by unfold maxLen; omega) (by omega) (by simp; omega) ?_; intro v2 w7 hown2 hgrow2 _; obtain ⟨ad2, c2', hv2⟩ := gOwn_shape hown2; rw [hv2] at hown2 ⊢; clear hv2; have HB7 := hide (HB5.out.trans (gBelow_at hs5 HRO5.out hgrow2)); have HO7 := hide hown2; clear hown2 hgrow2)
            go_roundw
            case rel => exact ⟨j + 1, L + 1, c2', ad2, r ++ [v], by omega, by go_num, rfl, by omega, hide (by rw [List.length_append, HL.out]; rfl), HTK, hide (by rw [List.map_append]; exact HO7.out), HB7⟩
            case measure => simp [intOf]; omega
          · have hb1 : (many == 1) = false := by rw [beq_eq_false_iff_ne]; exact he
            have HSK := hide (rw_skip HRW.out HRN.out (by omega) he)
            clear he hm0
            go_wp2
            go_roundw
            case rel => exact ⟨j + 1, L, c8, a8, r, by omega, by go_num, rfl, by omega, HL, HSK, HRO5, HB5⟩
            case measure => simp [intOf]; omega
    · have hje : j = fm := by omega
      subst hje
      go_wp2
      go_ret2
      exact ⟨HB.out, .inl ⟨a8, c8, r, L, HRW.out, HL.out, rfl, HRO.out⟩⟩
end Go.Proofs.YtdepgkpfibmbgaaGreatDoor
