/-
  Texts put together: TbM, TbR, TbT.
-/
import Derived.Test.YtdepgkpfibmbgaaGreatDoorE38
import Derived.Test.YtdepgkpfibmbgaaGreatDoorE37
import Derived.Test.YtdepgkpfibmbgaaGreatDoorE26
/-
  What a table holds. No step of the program in this text.
-/
namespace Go.Proofs.YtdepgkpfibmbgaaGreatDoor
open Go.RowKit
set_option linter.unusedVariables false
set_option linter.unusedSimpArgs false
/-- What a field says at a place: a value, and how many there are. -/
def fvF (D : Dc) (p : Nat) (q : List (List UInt8) × List UInt8) : ByteArray × Int := foA (vlL D ⟨q.2.toArray⟩ (srtL (sel D (st D p D.n false) q.1)))
/-- A row: none where it is broken; else the values of the fields that are there. -/
def rwI (D : Dc) (p : Nat) (kd : Int) (Qs : Nat → List (List UInt8) × List UInt8) : Nat → Option (List ByteArray)
  | 0 => some []
  | j + 1 => match rwI D p kd Qs j with
    | none => none
    | some r => if 1 < (fvF D p (Qs j)).2 ∨ ((fvF D p (Qs j)).2 = 0 ∧ kd = 2) then none else if (fvF D p (Qs j)).2 = 1 then some (r ++ [(fvF D p (Qs j)).1]) else some r
section
variable {D : Dc} {p : Nat} {kd : Int} {Qs : Nat → List (List UInt8) × List UInt8} {j : Nat} {r : List ByteArray} {v : ByteArray} {m : Int}
theorem rw_bad (h : rwI D p kd Qs j = some r) (hv : fvF D p (Qs j) = (v, m)) (hb : 1 < m ∨ (m = 0 ∧ kd = 2)) : rwI D p kd Qs (j + 1) = none := by
  rw [rwI, h, hv]
  exact if_pos hb
theorem rw_one (h : rwI D p kd Qs j = some r) (hv : fvF D p (Qs j) = (v, m)) (hm : m = 1) : rwI D p kd Qs (j + 1) = some (r ++ [v]) := by
  rw [rwI, h, hv]
  dsimp only
  rw [if_neg (by omega), if_pos hm]
theorem rw_skip (h : rwI D p kd Qs j = some r) (hv : fvF D p (Qs j) = (v, m)) (hb : ¬ (1 < m ∨ (m = 0 ∧ kd = 2))) (hm : m ≠ 1) : rwI D p kd Qs (j + 1) = some r := by
  rw [rwI, h, hv]
  dsimp only
  rw [if_neg hb, if_neg hm]
theorem rw_stop (h : rwI D p kd Qs j = none) : ∀ k, rwI D p kd Qs (j + k) = none
  | 0 => h
  | k + 1 => by rw [show j + (k + 1) = (j + k) + 1 by omega, rwI, rw_stop h k]
end
theorem fq_flat : ∀ (F : List Fq) (j i : Nat), i < 3 → j < F.length → (F.flatMap fqV)[j * 3 + i]? = (fqV (fqA F j))[i]?
  | [], j, i, hi, hj => by simp at hj
  | f :: F, 0, i, hi, hj => by
    rw [List.flatMap_cons, List.getElem?_append_left (by show 0 * 3 + i < 3; omega), Nat.zero_mul, Nat.zero_add]
    rfl
  | f :: F, j + 1, i, hi, hj => by
    have hl : (fqV f).length = 3 := rfl
    rw [List.flatMap_cons, List.getElem?_append_right (by omega), hl, show (j + 1) * 3 + i - 3 = j * 3 + i by omega, fq_flat F j i hi (by simpa using hj)]
    rfl
/-- What a row is told as. -/
def RowAns (o : Option (List ByteArray)) (w : World) (e : Ending) (w' : World) : Prop := Below w.heap.size w w' ∧
  ((∃ ra rc r k, o = some r ∧ r.length = k ∧ e = .returned (.tuple #[.slice ra k rc, .bool true]) ∧ w'.ownsRow w.heap.size 9 1 (.slice ra k rc) k (r.map Value.string)) ∨
   (o = none ∧ e = .returned (.tuple #[.slice none 0 0, .bool false])))
end Go.Proofs.YtdepgkpfibmbgaaGreatDoor

/-
  Contract of the program: (*plan).row.
-/
namespace Go.Proofs.YtdepgkpfibmbgaaGreatDoor
open Go.RowKit Go.Joins
set_option linter.unusedVariables false
set_option linter.unusedSimpArgs false
theorem tb_one (s : ByteArray) : ∀ u ∈ [Value.string s], u.oneCell' = true := by intro u hu; simp at hu; subst hu; rfl
theorem tb_new (w : World) (s : ByteArray) (T : TypeId) (j : Nat) (u : Value) (hj : [Value.string s][j]? = some u) : (w.alloc (.cells #[.string s] T)).cell? ((⟨w.heap.size, 0, none⟩ : Addr).add j) = some u := by
  match j, hj with
  | 0, hj => simp at hj; subst hj; simp [Addr.add]
set_option maxRecDepth 100000 in
set_option maxHeartbeats 8000000 in
theorem i_row (D : Dc) (n b off cap x P : Nat) (pl : Pl) (F : List Fq) (B0 fm : Nat) (w : World) (hD : D.n = n) (hdk : docokB D = true) (hx : x < n) (hfm : pl.k.fl.length = fm) (hF : F.length = fm) (h4 : fm ≤ 4) (hq6 : ∀ f ∈ F, f.q.1.length ≤ 6)
    (hP : CellsAt w P (plV pl).toArray) (hO : w.ownsRow B0 69 3 (.slice pl.fa fm pl.fc) fm (F.flatMap fqV)) (hS : FqS B0 w F) (hbs : b < w.heap.size) (hr : DcRow w b off D w.heap.size) :
    Calls Tryz.prog 52 #[.pointer (some ⟨P, 0, none⟩), .slice (some ⟨b, off, none⟩) n cap, .int .i64 x] w (RowAns (rwI D x pl.k.kd (fun j => (fqA F j).q) fm) w) := by
  obtain ⟨i0, hi, hz0, hz1, hz2⟩ := info_parts infoStr
  have HD := hide hD
  have HDK := hide hdk
  have HF := hide hF
  have HQ6 := hide hq6
  have HO := hide hO
  have HS := hide hS
  have HR := hide hr
  have HP := hide hP
  have hPl := cellsAt_lt hP
  have p8 : w.cell? ⟨P, 8, none⟩ = some (.slice pl.fa fm pl.fc) := by have h9 := cellsAt_cell hP 8; rw [h9]; unfold plV; simp; exact hfm
  obtain ⟨kd, hkd⟩ : ∃ kd, pl.k.kd = kd := ⟨_, rfl⟩
  rw [hkd]
  have D1 : Hid (∀ w9, Below w.heap.size w w9 → w9.cell? ⟨P, 1, none⟩ = some (.int .i64 kd)) := hide (fun w9 h9 => (h9.cell (p := ⟨P, 1, none⟩) hPl).trans (by have h8 := cellsAt_cell HP.out 1; rw [h8]; unfold plV; simp; exact hkd))
  clear hD hdk hF hq6 hO hS hr hP hfm hkd
  go_enter Tryz.func52, Tryz.ntmps52
  go_wp2
  go_loopw [8, 18] (fun rv jv wr => ∃ (j L c8 : Nat) (a8 : Option Addr) (r : List ByteArray), j ≤ fm ∧ jv = .int .i64 j ∧ rv = .slice a8 L c8 ∧ L ≤ j ∧ Hid (r.length = L) ∧ Hid (rwI D x kd (fun j => (fqA F j).q) j = some r) ∧ Hid (wr.ownsRow w.heap.size 9 1 (.slice a8 L c8) L (r.map Value.string)) ∧ Hid (Below w.heap.size w wr)) (fun _ jv _ => fm - (intOf jv).toNat)
  case atStart => exact ⟨0, 0, 0, none, [], Nat.zero_le _, rfl, rfl, Nat.le_refl _, hide rfl, hide rfl, hide ⟨rfl, .inl ⟨rfl, rfl⟩⟩, hide (Below.refl _ _)⟩
  case round =>
    obtain ⟨j, L, c8, a8, r, hj, rfl, rfl, hLj, HL, HRW, HRO, HB⟩ := hrel
    have hsz := HB.out.size
    by_cases hlt : j < fm
    · have hji : (j : Int) < (fm : Int) := by omega
      have hjF : j < F.length := by rw [HF.out]; exact hlt
      have hmem : fqA F j ∈ F := by unfold fqA; rw [List.getElem?_eq_getElem hjF]; exact List.getElem_mem _
      obtain ⟨g, hg, hgl, hcells⟩ : ∃ g, pl.fa = some ⟨g, 0, none⟩ ∧ g < w.heap.size ∧ ∀ i, i < 3 → w.cell? ⟨g, j * 3 + i, none⟩ = (fqV (fqA F j))[i]? := by
        have h2 := HO.out
        rcases h2.2 with ⟨e, h0⟩ | ⟨g, cp, cur, e, -, hg, -⟩
        · omega
        · simp only [Value.slice.injEq] at e
          refine ⟨g, e.1, (Array.getElem?_eq_some_iff.1 hg).1, fun i hi => ?_⟩
          rw [e.1] at h2
          rw [h2.cellAt (j * 3 + i) (by omega), fq_flat F j i hi hjF]
      have hown := HS.out _ hmem
      have h6 := HQ6.out _ hmem
      obtain ⟨f, hf⟩ : ∃ f, fqA F j = f := ⟨_, rfl⟩
      rw [hf] at hcells hown h6
      obtain ⟨ka, kc, kq⟩ := f
      have c0 : wr.cell? ⟨g, j * 3, none⟩ = some (.bool false) := (HB.out.cell (p := ⟨g, j * 3, none⟩) hgl).trans (hcells 0 (by omega))
      have c1 : wr.cell? ⟨g, j * 3 + 1, none⟩ = some (.slice ka kq.1.length kc) := (HB.out.cell (p := ⟨g, j * 3 + 1, none⟩) hgl).trans (hcells 1 (by omega))
      have c2 : wr.cell? ⟨g, j * 3 + 2, none⟩ = some (.string ⟨kq.2.toArray⟩) := (HB.out.cell (p := ⟨g, j * 3 + 2, none⟩) hgl).trans (hcells 2 (by omega))
      have HFJ := hide hf
      have CA : Hid (∀ o, Calls Tryz.prog 32 #[.agg #[.bool false, .slice ka kq.1.length kc, .string ⟨kq.2.toArray⟩], .slice (some ⟨b, off, none⟩) n cap, .int .i64 x] (wr.alloc o) fun e w' => e = .returned (.tuple #[.string (fvF D x kq).1, .int .i64 (fvF D x kq).2]) ∧ Below (wr.alloc o).heap.size (wr.alloc o) w') := hide (fun o => by
        have hb9 : Below w.heap.size w (wr.alloc o) := HB.out.alloc HB.out.size o
        have h9 := i_at D n b off cap x ka kq.1.length kc ⟨kq.2.toArray⟩ kq.1 B0 (wr.alloc o) HD.out HDK.out hx rfl (by dsimp only at h6; omega) (gOwn_after hown hb9) (Nat.lt_of_lt_of_le hbs hb9.size) (dcRow_up (dcRow_go HR.out hbs hb9) hb9.size)
        unfold fvF
        rw [HD.out]
        exact h9)
      have HRN : Hid (fvF D x ((fun j => (fqA F j).q) j) = fvF D x kq) := hide (by show fvF D x (fqA F j).q = _; rw [HFJ.out])
      obtain ⟨V, hV⟩ : ∃ V, fvF D x kq = V := ⟨_, rfl⟩
      rw [hV] at CA HRN
      obtain ⟨v, many⟩ := V
      obtain ⟨nq, hnq⟩ : ∃ nq, kq.1.length = nq := ⟨_, rfl⟩
      obtain ⟨tq, htq⟩ : ∃ tq : ByteArray, (⟨kq.2.toArray⟩ : ByteArray) = tq := ⟨_, rfl⟩
      rw [hnq] at c1 CA
      rw [htq] at c2 CA
      rw [hg] at p8 ⊢
      clear hcells hown hmem hf hV hnq htq h6
      go_wp2_with fail
      refine (CA.out _).mono ?_
      rintro e w5 ⟨rfl, hb5⟩
      have hb6 : Below wr.heap.size wr w5 := ((Below.refl _ _).alloc (Nat.le_refl _) _).trans (hb5.mono (by simp))
      have HB5 := hide (HB.out.trans (hb6.mono HB.out.size))
      have HRO5 := hide (gOwn_after HRO.out hb6)
      have e1 := D1.out w5 HB5.out
      have hs5 := HB5.out.size
      clear hb5 hb6
      dsimp only
      by_cases hm1 : 1 < many
      · have HNO := hide (rw_stop (rw_bad HRW.out HRN.out (.inl hm1)) (fm - (j + 1)))
        have hd1 : decide (1 < many) = true := decide_eq_true hm1
        go_wp2
        go_ret2
        exact ⟨HB5.out, .inr ⟨by have h9 := HNO.out; rw [show j + 1 + (fm - (j + 1)) = fm by omega] at h9; exact h9, rfl⟩⟩
      · have hd1 : decide (1 < many) = false := decide_eq_false hm1
        by_cases hm0 : many = 0
        · have hb0 : (many == 0) = true := by rw [beq_iff_eq]; exact hm0
          by_cases hk2 : kd = 2
          · have hkb : (kd == 2) = true := by rw [beq_iff_eq]; exact hk2
            have HNO := hide (rw_stop (rw_bad HRW.out HRN.out (.inr ⟨hm0, hk2⟩)) (fm - (j + 1)))
            clear hm0 hk2
            go_wp2
            go_ret2
            exact ⟨HB5.out, .inr ⟨by have h9 := HNO.out; rw [show j + 1 + (fm - (j + 1)) = fm by omega] at h9; exact h9, rfl⟩⟩
          · have hkb : (kd == 2) = false := by rw [beq_eq_false_iff_ne]; exact hk2
            have HSK := hide (rw_skip HRW.out HRN.out (by omega) (by omega))
            have hb1 : (many == 1) = false := by rw [beq_eq_false_iff_ne]; omega
            clear hm0 hk2
            go_wp2
            go_roundw
            case rel => exact ⟨j + 1, L, c8, a8, r, by omega, by go_num, rfl, by omega, HL, HSK, HRO5, HB5⟩
            case measure => simp [intOf]; omega
        · have hb0 : (many == 0) = false := by rw [beq_eq_false_iff_ne]; exact hm0
          by_cases he : many = 1
          · have hb1 : (many == 1) = true := by rw [beq_iff_eq]; exact he
            have HTK := hide (rw_one HRW.out HRN.out he)
            clear he hm0
            go_wp2_with (at_builtin; refine wpList_append_own _ rfl (.tmp 45) (.tmp 47) 25 rfl w.heap.size 9 i0 (.string ByteArray.empty) 1 16 Tryz.underlying25 hi hz0 hz1 hz2 rfl (by decide) _ _ _ rfl (HRO5.out.alloc _) ⟨w5.heap.size, 0, none⟩ 1 1 [.string v] rfl rfl (fun i u hu => tb_new w5 v _ i u hu) (tb_one v) (by unfold maxLen; omega) (by omega) (by simp; omega) ?_; intro v2 w7 hown2 hgrow2 _; obtain ⟨ad2, c2', hv2⟩ := gOwn_shape hown2; rw [hv2] at hown2 ⊢; clear hv2; have HB7 := hide (HB5.out.trans (gBelow_at hs5 HRO5.out hgrow2)); have HO7 := hide hown2; clear hown2 hgrow2)
            go_roundw
            case rel => exact ⟨j + 1, L + 1, c2', ad2, r ++ [v], by omega, by go_num, rfl, by omega, hide (by rw [List.length_append, HL.out]; rfl), HTK, hide (by rw [List.map_append]; exact HO7.out), HB7⟩
            case measure => simp [intOf]; omega
          · have hb1 : (many == 1) = false := by rw [beq_eq_false_iff_ne]; exact he
            have HSK := hide (rw_skip HRW.out HRN.out (by omega) he)
            clear he hm0
            go_wp2
            go_roundw
            case rel => exact ⟨j + 1, L, c8, a8, r, by omega, by go_num, rfl, by omega, HL, HSK, HRO5, HB5⟩
            case measure => simp [intOf]; omega
    · have hje : j = fm := by omega
      subst hje
      go_wp2
      go_ret2
      exact ⟨HB.out, .inl ⟨a8, c8, r, L, HRW.out, HL.out, rfl, HRO.out⟩⟩
end Go.Proofs.YtdepgkpfibmbgaaGreatDoor

/-
  Contract of the program: (*plan).table.
-/
namespace Go.Proofs.YtdepgkpfibmbgaaGreatDoor
open Go.RowKit Go.Joins
set_option linter.unusedVariables false
set_option linter.unusedSimpArgs false
/-- A table: none where a row is broken; else the rows that have all fields. -/
def tbI (D : Dc) (kd : Int) (Qs : Nat → List (List UInt8) × List UInt8) (nf : Nat) (L : List Int) : Nat → Option (List (List ByteArray))
  | 0 => some []
  | i + 1 => match tbI D kd Qs nf L i with
    | none => none
    | some T => match rwI D (L[i]?.getD 0).toNat kd Qs nf with
      | none => none
      | some r => if r.length = nf then some (T ++ [r]) else some T
section
variable {D : Dc} {kd : Int} {Qs : Nat → List (List UInt8) × List UInt8} {nf : Nat} {L : List Int} {i : Nat} {T : List (List ByteArray)} {r : List ByteArray} {p : Nat}
theorem tb_bad (h : tbI D kd Qs nf L i = some T) (hp : (L[i]?.getD 0).toNat = p) (hr : rwI D p kd Qs nf = none) : tbI D kd Qs nf L (i + 1) = none := by rw [tbI, h, hp, hr]
theorem tb_yes (h : tbI D kd Qs nf L i = some T) (hp : (L[i]?.getD 0).toNat = p) (hr : rwI D p kd Qs nf = some r) (hl : r.length = nf) : tbI D kd Qs nf L (i + 1) = some (T ++ [r]) := by
  rw [tbI, h, hp, hr]
  exact if_pos hl
theorem tb_skip (h : tbI D kd Qs nf L i = some T) (hp : (L[i]?.getD 0).toNat = p) (hr : rwI D p kd Qs nf = some r) (hl : r.length ≠ nf) : tbI D kd Qs nf L (i + 1) = some T := by
  rw [tbI, h, hp, hr]
  exact if_neg hl
theorem tb_stop (h : tbI D kd Qs nf L i = none) : ∀ k, tbI D kd Qs nf L (i + k) = none
  | 0 => h
  | k + 1 => by rw [show i + (k + 1) = (i + k) + 1 by omega, tbI, tb_stop h k]
end
/-- A row of rows of texts: each row its own, no two in one block. -/
def RrS (B : Nat) (w : World) (cs : List Value) (T : List (List ByteArray)) : Prop := cs.length = T.length ∧
  (∀ j, j < T.length → ∃ a c, cs[j]? = some (.slice a (T[j]?.getD []).length c) ∧ w.ownsRow B 9 1 (.slice a (T[j]?.getD []).length c) (T[j]?.getD []).length ((T[j]?.getD []).map Value.string)) ∧
  (∀ (i j : Nat) (u v : Value), i < j → cs[i]? = some u → cs[j]? = some v → ∀ k, u.ownBlock = some k → v.ownBlock ≠ some k)
section
variable {B : Nat} {w w' : World} {cs : List Value} {T : List (List ByteArray)}
theorem rrs_go (h : RrS B w cs T) (hb : Below w.heap.size w w') : RrS B w' cs T := ⟨h.1, fun j hj => by
  obtain ⟨a, c, h1, h2⟩ := h.2.1 j hj
  exact ⟨a, c, h1, gOwn_after h2 hb⟩, h.2.2⟩
theorem rrs_grown {e : TypeId} {z : Nat} {v : Value} {m B2 : Nat} {xs : List Value} {o : Obj} (h : RrS B w cs T) (ho : w.ownsRow B2 e z v m xs) (hne : 9 ≠ e) (hg : (w.alloc o).grownBy w' v.ownBlock) : RrS B w' cs T := ⟨h.1, fun j hj => by
  obtain ⟨a, c, h1, h2⟩ := h.2.1 j hj
  exact ⟨a, c, h1, own_keptB (h2.alloc o) hg (own_apart h2 ho hne)⟩, h.2.2⟩
theorem rrs_put {r : List ByteArray} {a : Option Addr} {c k B2 : Nat} (h : RrS B w cs T) (hk : r.length = k) (hr : w.ownsRow B 9 1 (.slice a k c) k (r.map Value.string)) (h2 : ∀ q, (Value.slice a k c).ownBlock = some q → B2 ≤ q) (h3 : ∀ (j : Nat) (u : Value), cs[j]? = some u → ∀ q, u.ownBlock = some q → q < B2) : RrS B w (cs ++ [.slice a k c]) (T ++ [r]) := by
  subst hk
  refine ⟨by rw [List.length_append, List.length_append, h.1]; rfl, fun j hj => ?_, fun i j u v hij hu hv q hq => ?_⟩
  · by_cases e : j = T.length
    · subst e
      refine ⟨a, c, ?_, ?_⟩
      · rw [List.getElem?_append_right (by rw [h.1]; exact Nat.le_refl _), h.1, Nat.sub_self, List.getElem?_append_right (Nat.le_refl _), Nat.sub_self]
        rfl
      · rw [List.getElem?_append_right (Nat.le_refl _), Nat.sub_self]
        exact hr
    · rw [List.length_append] at hj
      have hj' : j < T.length := by simp at hj; omega
      obtain ⟨a', c', h4, h5⟩ := h.2.1 j hj'
      refine ⟨a', c', ?_, ?_⟩
      · rw [List.getElem?_append_left (by rw [h.1]; exact hj'), List.getElem?_append_left hj']
        exact h4
      · rw [List.getElem?_append_left hj']
        exact h5
  · by_cases e : j < cs.length
    · rw [List.getElem?_append_left e] at hv
      rw [List.getElem?_append_left (by omega)] at hu
      exact h.2.2 i j u v hij hu hv q hq
    · have hj : j = cs.length := by
        have := (List.getElem?_eq_some_iff.1 hv).1
        simp at this
        omega
      subst hj
      rw [List.getElem?_append_left hij] at hu
      rw [List.getElem?_append_right (Nat.le_refl _), Nat.sub_self] at hv
      simp at hv
      subst hv
      intro e9
      have h6 := h3 i u hu q hq
      have h7 := h2 q e9
      omega
theorem rrs_lt (h : RrS B w cs T) : ∀ (j : Nat) (u : Value), cs[j]? = some u → ∀ q, u.ownBlock = some q → q < w.heap.size := fun j u hu q hq => by
  have hj : j < T.length := by rw [← h.1]; exact (List.getElem?_eq_some_iff.1 hu).1
  obtain ⟨a, c, h1, h2⟩ := h.2.1 j hj
  rw [hu] at h1
  simp only [Option.some.injEq] at h1
  subst h1
  exact (h2.lt q hq).2
end
theorem rrs_low {B B' : Nat} {w : World} {cs : List Value} {T : List (List ByteArray)} (h : RrS B w cs T) (hB : B' ≤ B) : RrS B' w cs T := ⟨h.1, fun j hj => by
  obtain ⟨a, c, h1, h2⟩ := h.2.1 j hj
  exact ⟨a, c, h1, gOwn_lower h2 hB⟩, h.2.2⟩
theorem rt_below {B : Nat} {w w1 w2 : World} {e : TypeId} {z : Nat} {v : Value} {n : Nat} {xs : List Value} {o : Obj} (h : Below B w w1) (hown : w1.ownsRow B e z v n xs) (hB : B ≤ w1.heap.size) (hg : (w1.alloc o).grownBy w2 v.ownBlock) : Below B w w2 := (h.alloc hB o).grown hg (by simp; omega) (fun k hk => (hown.lt k hk).1)
/-- What a table is told as. -/
def TabAns (o : Option (List (List ByteArray))) (w : World) (e : Ending) (w' : World) : Prop := Below w.heap.size w w' ∧
  ((∃ ta tc T k cs, o = some T ∧ T.length = k ∧ e = .returned (.tuple #[.slice ta k tc, .bool true]) ∧ w'.ownsRow w.heap.size 25 1 (.slice ta k tc) k cs ∧ RrS w.heap.size w' cs T) ∨
   (o = none ∧ e = .returned (.tuple #[.slice none 0 0, .bool false])))
theorem infoStrs : (Tryz.prog.info? 25).map (fun i => (i.zero, i.size, i.bytes)) = some (some (.slice none 0 0), 1, 24) := by kernel_rfl
theorem ts_one (a : Option Addr) (n c : Nat) : ∀ u ∈ [Value.slice a n c], u.oneCell' = true := by intro u hu; simp at hu; subst hu; rfl
theorem ts_new (w : World) (a : Option Addr) (n c : Nat) (T : TypeId) (j : Nat) (u : Value) (hj : [Value.slice a n c][j]? = some u) : (w.alloc (.cells #[.slice a n c] T)).cell? ((⟨w.heap.size, 0, none⟩ : Addr).add j) = some u := by
  match j, hj with
  | 0, hj => simp at hj; subst hj; simp [Addr.add]
theorem ti_at {B : Nat} {w : World} {ad : Option Addr} {c : Nat} {L : List Int} (h : IntR B w ad c L) (j : Nat) (hj : j < L.length) : ∃ g, ad = some ⟨g, 0, none⟩ ∧ g < w.heap.size ∧ w.cell? ⟨g, j, none⟩ = some (.int .i64 (L[j]?.getD 0)) := by
  have h2 := h
  rcases h.2 with ⟨e, h0⟩ | ⟨g, cap, cur, e, -, hg, -⟩
  · omega
  · simp only [Value.slice.injEq] at e
    obtain ⟨rfl, -⟩ := e
    refine ⟨g, rfl, (Array.getElem?_eq_some_iff.1 hg).1, ?_⟩
    rw [h2.cellAt j (by omega), List.getElem?_map, List.getElem?_eq_getElem hj]
    rfl
set_option maxRecDepth 100000 in
set_option maxHeartbeats 8000000 in
theorem i_table (D : Dc) (n b off cap x P : Nat) (pl : Pl) (ps : List (List UInt8)) (F : List Fq) (B0 fm : Nat) (w : World) (hD : D.n = n) (hdk : docokB D = true) (hx : x < n) (hfm : pl.k.fl.length = fm) (hF : F.length = fm) (h4 : fm ≤ 4) (hq6 : ∀ f ∈ F, f.q.1.length ≤ 6) (hps : ps.length = pl.n1) (hp6 : pl.n1 ≤ 6)
    (hP : CellsAt w P (plV pl).toArray) (hR : w.ownsRow B0 9 1 (.slice pl.a1 pl.n1 pl.c1) pl.n1 (strV ps)) (hO : w.ownsRow B0 69 3 (.slice pl.fa fm pl.fc) fm (F.flatMap fqV)) (hS : FqS B0 w F) (hbs : b < w.heap.size) (hr : DcRow w b off D w.heap.size) :
    Calls Tryz.prog 26 #[.pointer (some ⟨P, 0, none⟩), .slice (some ⟨b, off, none⟩) n cap, .int .i64 x] w (TabAns (tbI D pl.k.kd (fun j => (fqA F j).q) fm (srtL (sel D (st D x n pl.d) ps)) (srtL (sel D (st D x n pl.d) ps)).length) w) := by
  obtain ⟨i0, hi, hz0, hz1, hz2⟩ := info_parts infoStrs
  have hn : n ≤ 200 := by rw [← hD]; exact (docok_facts hdk).1.2
  have hst := st_ok (D := D) (x := x) (n := n) pl.d hD hx
  have hsl := sel_ok ps _ hst.1 hst.2
  have CF := hide (i_from D n b off cap w x pl.d pl.a1 pl.n1 pl.c1 ps B0 hD hn hx hbs hr (by rw [← hD]; exact docok_good hdk) hps (by omega) hR)
  have HIN : Hid (∀ j ∈ srtL (sel D (st D x n pl.d) ps), 0 ≤ j ∧ j < (n : Int)) := hide (fun j hj => by rw [← hD]; exact hsl.2 j ((srt_mem _ _).1 hj))
  have hPL : (srtL (sel D (st D x n pl.d) ps)).length ≤ 200 := by
    rw [srt_len hsl.1]
    have := nodup_len hsl.1 (by rw [← hD] at hn; exact hsl.2)
    omega
  have hPl := cellsAt_lt hP
  have CR : Hid (∀ (y : Nat) (w9 : World), y < n → Below w.heap.size w w9 → Calls Tryz.prog 52 #[.pointer (some ⟨P, 0, none⟩), .slice (some ⟨b, off, none⟩) n cap, .int .i64 y] w9 (RowAns (rwI D y pl.k.kd (fun j => (fqA F j).q) fm) w9)) := hide (fun y w9 hy h9 => i_row D n b off cap y P pl F B0 fm w9 hD hdk hy hfm hF h4 hq6 (cellsAt_go hP h9 hPl) (gOwn_after hO h9) (fqs_go hS h9) (Nat.lt_of_lt_of_le hbs h9.size) (dcRow_up (dcRow_go hr hbs h9) h9.size))
  have HP := hide hP
  have p6 : w.cell? ⟨P, 6, none⟩ = some (.bool pl.d) := by have h9 := cellsAt_cell hP 6; rw [h9]; unfold plV; simp
  have p7 : w.cell? ⟨P, 7, none⟩ = some (.slice pl.a1 pl.n1 pl.c1) := by have h9 := cellsAt_cell hP 7; rw [h9]; unfold plV; simp
  have P8 : Hid (∀ w9, Below w.heap.size w w9 → w9.cell? ⟨P, 8, none⟩ = some (.slice pl.fa fm pl.fc)) := hide (fun w9 h9 => (h9.cell (p := ⟨P, 8, none⟩) hPl).trans (by have h8 := cellsAt_cell hP 8; rw [h8]; unfold plV; simp; exact hfm))
  obtain ⟨PL, hPLe⟩ : ∃ PL, srtL (sel D (st D x n pl.d) ps) = PL := ⟨_, rfl⟩
  rw [hPLe] at CF HIN hPL ⊢
  obtain ⟨N, hN⟩ : ∃ N, PL.length = N := ⟨_, rfl⟩
  rw [hN] at CF hPL ⊢
  have HN := hide hN
  obtain ⟨kd, hkd⟩ : ∃ kd, pl.k.kd = kd := ⟨_, rfl⟩
  rw [hkd] at CR ⊢
  clear hD hdk hfm hF hq6 hps hP hR hO hS hr hst hsl hPLe hN hkd
  go_enter Tryz.func26, Tryz.ntmps26
  go_wp2_with fail
  refine CF.out.mono ?_
  rintro e w2 ⟨pa, pc, rfl, hir, hb2⟩
  have HB2 := hide hb2
  have HIR := hide hir
  clear hir hb2
  go_wp2
  go_loopw [8, 21] (fun tv iv wr => ∃ (i L c8 : Nat) (a8 : Option Addr) (T : List (List ByteArray)) (cs : List Value), i ≤ N ∧ iv = .int .i64 i ∧ tv = .slice a8 L c8 ∧ L ≤ i ∧ Hid (T.length = L) ∧ Hid (tbI D kd (fun j => (fqA F j).q) fm PL i = some T) ∧ Hid (wr.ownsRow w2.heap.size 25 1 (.slice a8 L c8) L cs) ∧ Hid (RrS w2.heap.size wr cs T) ∧ Hid (Below w2.heap.size w2 wr)) (fun _ iv _ => N - (intOf iv).toNat)
  case atStart => exact ⟨0, 0, 0, none, [], [], Nat.zero_le _, rfl, rfl, Nat.le_refl _, hide rfl, hide rfl, hide ⟨rfl, .inl ⟨rfl, rfl⟩⟩, hide ⟨rfl, fun j hj => absurd hj (Nat.not_lt_zero _), fun i j u v h hu => by simp at hu⟩, hide (Below.refl _ _)⟩
  case round =>
    obtain ⟨i, L, c8, a8, T, cs, hii, rfl, rfl, hLi, HTL, HTB, HTO, HRR, HB⟩ := hrel
    have HBB := hide (HB2.out.trans (HB.out.mono HB2.out.size))
    have hsz := HBB.out.size
    have hsw2 : w2.heap.size ≤ wr.heap.size := HB.out.size
    by_cases hlt : i < N
    · have hci : (i : Int) < (N : Int) := by omega
      obtain ⟨g, hga, hgl, hc⟩ := ti_at HIR.out i (by rw [HN.out]; exact hlt)
      have q0 := (HB.out.cell (p := ⟨g, i, none⟩) hgl).trans hc
      have hin := HIN.out (PL[i]?.getD 0) (by rw [List.getElem?_eq_getElem (by rw [HN.out]; exact hlt)]; exact List.getElem_mem _)
      obtain ⟨p, hp⟩ : ∃ p : Nat, PL[i]?.getD 0 = (p : Int) := ⟨(PL[i]?.getD 0).toNat, by omega⟩
      have HPP : Hid ((PL[i]?.getD 0).toNat = p) := hide (by rw [hp]; rfl)
      rw [hp] at q0 hin
      have hpn : p < n := by omega
      have CR2 := hide (CR.out p wr hpn HBB.out)
      subst hga
      clear hc hp hin
      go_wp2_with fail
      refine CR2.out.mono ?_
      rintro e w5 ⟨hb5, hans⟩
      have HB5 := hide (HB.out.trans (hb5.mono HB.out.size))
      have HBB5 := hide (HBB.out.trans (hb5.mono HBB.out.size))
      have HTO5 := hide (gOwn_after HTO.out hb5)
      have HRR5 := hide (rrs_go HRR.out hb5)
      have HLT := hide (rrs_lt HRR.out)
      have e8 := P8.out w5 HBB5.out
      have hs5 := HBB5.out.size
      have hs52 : w2.heap.size ≤ w5.heap.size := HB5.out.size
      have hsw : wr.heap.size ≤ w5.heap.size := hb5.size
      clear hb5
      rcases hans with ⟨ra, rc, r, k, hor, hrk, rfl, hro⟩ | ⟨hor, rfl⟩
      · have HRO := hide hro
        have HRK := hide hrk
        by_cases hkf : k = fm
        · have hkb : ((k : Int) == (fm : Int)) = true := by rw [hkf, beq_iff_eq]
          have HTB2 := hide (tb_yes HTB.out HPP.out hor (by rw [hrk]; exact hkf))
          clear hor hro hrk hkf
          go_wp2_with (at_builtin; refine wpList_append_own _ rfl (.tmp 42) (.tmp 44) 30 rfl w2.heap.size 25 i0 (.slice none 0 0) 1 24 Tryz.underlying30 hi hz0 hz1 hz2 rfl (by decide) _ _ _ rfl (HTO5.out.alloc _) ⟨w5.heap.size, 0, none⟩ 1 1 [.slice ra k rc] rfl rfl (fun i u hu => ts_new w5 _ _ _ _ i u hu) (ts_one _ _ _) (by unfold maxLen; omega) (by omega) (by simp; omega) ?_; intro v2 w7 hown2 hgrow2 _; obtain ⟨ad2, c2', hv2⟩ := gOwn_shape hown2; rw [hv2] at hown2 ⊢; clear hv2; have HB7 := hide (rt_below HB5.out HTO5.out HB5.out.size hgrow2); have HRR7 := hide (rrs_grown (rrs_put (B2 := wr.heap.size) HRR5.out HRK.out (gOwn_lower HRO.out hsw2) (fun q hq => (HRO.out.lt q hq).1) HLT.out) HTO5.out (by decide) hgrow2); have HO7 := hide hown2; clear hown2 hgrow2)
          go_roundw
          case rel => exact ⟨i + 1, L + 1, c2', ad2, T ++ [r], cs ++ [.slice ra k rc], by omega, by go_num, rfl, by omega, hide (by rw [List.length_append, HTL.out]; rfl), HTB2, HO7, HRR7, HB7⟩
          case measure => simp [intOf]; omega
        · have hkb : ((k : Int) == (fm : Int)) = false := by rw [beq_eq_false_iff_ne]; omega
          have HTB2 := hide (tb_skip HTB.out HPP.out hor (by rw [hrk]; exact hkf))
          clear hor hro hrk hkf
          go_wp2
          go_roundw
          case rel => exact ⟨i + 1, L, c8, a8, T, cs, by omega, by go_num, rfl, by omega, HTL, HTB2, HTO5, HRR5, HB5⟩
          case measure => simp [intOf]; omega
      · have HNO := hide (tb_stop (tb_bad HTB.out HPP.out hor) (N - (i + 1)))
        clear hor
        go_wp2
        go_ret2
        exact ⟨HBB5.out, .inr ⟨by have h9 := HNO.out; rw [show i + 1 + (N - (i + 1)) = N by omega] at h9; exact h9, rfl⟩⟩
    · have hie : i = N := by omega
      subst hie
      go_wp2
      go_ret2
      exact ⟨HBB.out, .inl ⟨a8, c8, T, L, cs, HTB.out, HTL.out, rfl, gOwn_lower HTO.out HB2.out.size, rrs_low HRR.out HB2.out.size⟩⟩
end Go.Proofs.YtdepgkpfibmbgaaGreatDoor
