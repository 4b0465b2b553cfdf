/-
  Texts put together: TbT, TbU.
-/
import Derived.Test.YtdepgkpfibmbgaaGreatDoorF34
import Derived.Test.YtdepgkpfibmbgaaGreatDoorF26
import Derived.Test.YtdepgkpfibmbgaaGreatDoorF23
/-
  Contract of the program: (*plan).table.
-/
namespace Go.Proofs.YtdepgkpfibmbgaaGreatDoor
open Go.RowKit Go.Joins
set_option linter.unusedVariables false
set_option linter.unusedSimpArgs false
/-- A table: none where a row is broken; else the rows that have all fields. -/
def tbI (D : Dc) (kd : Int) (Qs : Nat → List (List UInt8) × List UInt8) (nf : Nat) (L : List Int) : Nat → Option (List (List ByteArray))
  | 0 => some []
  | i + 1 => match tbI D kd Qs nf L i with
    | none => none
    | some T => match rwI D (L[i]?.getD 0).toNat kd Qs nf with
      | none => none
      | some r => if r.length = nf then some (T ++ [r]) else some T
section
variable {D : Dc} {kd : Int} {Qs : Nat → List (List UInt8) × List UInt8} {nf : Nat} {L : List Int} {i : Nat} {T : List (List ByteArray)} {r : List ByteArray} {p : Nat}
theorem tb_bad (h : tbI D kd Qs nf L i = some T) (hp : (L[i]?.getD 0).toNat = p) (hr : rwI D p kd Qs nf = none) : tbI D kd Qs nf L (i + 1) = none := by rw [tbI, h, hp, hr]
theorem tb_yes (h : tbI D kd Qs nf L i = some T) (hp : (L[i]?.getD 0).toNat = p) (hr : rwI D p kd Qs nf = some r) (hl : r.length = nf) : tbI D kd Qs nf L (i + 1) = some (T ++ [r]) := by
  rw [tbI, h, hp, hr]
  exact if_pos hl
theorem tb_skip (h : tbI D kd Qs nf L i = some T) (hp : (L[i]?.getD 0).toNat = p) (hr : rwI D p kd Qs nf = some r) (hl : r.length ≠ nf) : tbI D kd Qs nf L (i + 1) = some T := by
  rw [tbI, h, hp, hr]
  exact if_neg hl
theorem tb_stop (h : tbI D kd Qs nf L i = none) : ∀ k, tbI D kd Qs nf L (i + k) = none
  | 0 => h
  | k + 1 => by rw [show i + (k + 1) = (i + k) + 1 by omega, tbI, tb_stop h k]
end
/-- A row of rows of texts: each row its own, no two in one block. -/
def RrS (B : Nat) (w : World) (cs : List Value) (T : List (List ByteArray)) : Prop := cs.length = T.length ∧
  (∀ j, j < T.length → ∃ a c, cs[j]? = some (.slice a (T[j]?.getD []).length c) ∧ w.ownsRow B 9 1 (.slice a (T[j]?.getD []).length c) (T[j]?.getD []).length ((T[j]?.getD []).map Value.string)) ∧
  (∀ (i j : Nat) (u v : Value), i < j → cs[i]? = some u → cs[j]? = some v → ∀ k, u.ownBlock = some k → v.ownBlock ≠ some k)
section
variable {B : Nat} {w w' : World} {cs : List Value} {T : List (List ByteArray)}
theorem rrs_go (h : RrS B w cs T) (hb : Below w.heap.size w w') : RrS B w' cs T := ⟨h.1, fun j hj => by
  obtain ⟨a, c, h1, h2⟩ := h.2.1 j hj
  exact ⟨a, c, h1, gOwn_after h2 hb⟩, h.2.2⟩
theorem rrs_grown {e : TypeId} {z : Nat} {v : Value} {m B2 : Nat} {xs : List Value} {o : Obj} (h : RrS B w cs T) (ho : w.ownsRow B2 e z v m xs) (hne : 9 ≠ e) (hg : (w.alloc o).grownBy w' v.ownBlock) : RrS B w' cs T := ⟨h.1, fun j hj => by
  obtain ⟨a, c, h1, h2⟩ := h.2.1 j hj
  exact ⟨a, c, h1, own_keptB (h2.alloc o) hg (own_apart h2 ho hne)⟩, h.2.2⟩
theorem rrs_put {r : List ByteArray} {a : Option Addr} {c k B2 : Nat} (h : RrS B w cs T) (hk : r.length = k) (hr : w.ownsRow B 9 1 (.slice a k c) k (r.map Value.string)) (h2 : ∀ q, (Value.slice a k c).ownBlock = some q → B2 ≤ q) (h3 : ∀ (j : Nat) (u : Value), cs[j]? = some u → ∀ q, u.ownBlock = some q → q < B2) : RrS B w (cs ++ [.slice a k c]) (T ++ [r]) := by
  subst hk
  refine ⟨by rw [List.length_append, List.length_append, h.1]; rfl, fun j hj => ?_, fun i j u v hij hu hv q hq => ?_⟩
  · by_cases e : j = T.length
    · subst e
      refine ⟨a, c, ?_, ?_⟩
      · rw [List.getElem?_append_right (by rw [h.1]; exact Nat.le_refl _), h.1, Nat.sub_self, List.getElem?_append_right (Nat.le_refl _), Nat.sub_self]
        rfl
      · rw [List.getElem?_append_right (Nat.le_refl _), Nat.sub_self]
        exact hr
    · rw [List.length_append] at hj
      have hj' : j < T.length := by simp at hj; omega
      obtain ⟨a', c', h4, h5⟩ := h.2.1 j hj'
      refine ⟨a', c', ?_, ?_⟩
      · rw [List.getElem?_append_left (by rw [h.1]; exact hj'), List.getElem?_append_left hj']
        exact h4
      · rw [List.getElem?_append_left hj']
        exact h5
  · by_cases e : j < cs.length
    · rw [List.getElem?_append_left e] at hv
      rw [List.getElem?_append_left (by omega)] at hu
      exact h.2.2 i j u v hij hu hv q hq
    · have hj : j = cs.length := by
        have := (List.getElem?_eq_some_iff.1 hv).1
        simp at this
        omega
      subst hj
      rw [List.getElem?_append_left hij] at hu
      rw [List.getElem?_append_right (Nat.le_refl _), Nat.sub_self] at hv
      simp at hv
      subst hv
      intro e9
      have h6 := h3 i u hu q hq
      have h7 := h2 q e9
      omega
theorem rrs_lt (h : RrS B w cs T) : ∀ (j : Nat) (u : Value), cs[j]? = some u → ∀ q, u.ownBlock = some q → q < w.heap.size := fun j u hu q hq => by
  have hj : j < T.length := by rw [← h.1]; exact (List.getElem?_eq_some_iff.1 hu).1
  obtain ⟨a, c, h1, h2⟩ := h.2.1 j hj
  rw [hu] at h1
  simp only [Option.some.injEq] at h1
  subst h1
  exact (h2.lt q hq).2
end
theorem rrs_low {B B' : Nat} {w : World} {cs : List Value} {T : List (List ByteArray)} (h : RrS B w cs T) (hB : B' ≤ B) : RrS B' w cs T := ⟨h.1, fun j hj => by
  obtain ⟨a, c, h1, h2⟩ := h.2.1 j hj
  exact ⟨a, c, h1, gOwn_lower h2 hB⟩, h.2.2⟩
theorem rt_below {B : Nat} {w w1 w2 : World} {e : TypeId} {z : Nat} {v : Value} {n : Nat} {xs : List Value} {o : Obj} (h : Below B w w1) (hown : w1.ownsRow B e z v n xs) (hB : B ≤ w1.heap.size) (hg : (w1.alloc o).grownBy w2 v.ownBlock) : Below B w w2 := (h.alloc hB o).grown hg (by simp; omega) (fun k hk => (hown.lt k hk).1)
/-- What a table is told as. -/
def TabAns (o : Option (List (List ByteArray))) (w : World) (e : Ending) (w' : World) : Prop := Below w.heap.size w w' ∧
  ((∃ ta tc T k cs, o = some T ∧ T.length = k ∧ e = .returned (.tuple #[.slice ta k tc, .bool true]) ∧ w'.ownsRow w.heap.size 25 1 (.slice ta k tc) k cs ∧ RrS w.heap.size w' cs T) ∨
   (o = none ∧ e = .returned (.tuple #[.slice none 0 0, .bool false])))
theorem infoStrs : (Tryz.prog.info? 25).map (fun i => (i.zero, i.size, i.bytes)) = some (some (.slice none 0 0), 1, 24) := by kernel_rfl
theorem ts_one (a : Option Addr) (n c : Nat) : ∀ u ∈ [Value.slice a n c], u.oneCell' = true := by intro u hu; simp at hu; subst hu; rfl
theorem ts_new (w : World) (a : Option Addr) (n c : Nat) (T : TypeId) (j : Nat) (u : Value) (hj : [Value.slice a n c][j]? = some u) : (w.alloc (.cells #[.slice a n c] T)).cell? ((⟨w.heap.size, 0, none⟩ : Addr).add j) = some u := by
  match j, hj with
  | 0, hj => simp at hj; subst hj; simp [Addr.add]
theorem ti_at {B : Nat} {w : World} {ad : Option Addr} {c : Nat} {L : List Int} (h : IntR B w ad c L) (j : Nat) (hj : j < L.length) : ∃ g, ad = some ⟨g, 0, none⟩ ∧ g < w.heap.size ∧ w.cell? ⟨g, j, none⟩ = some (.int .i64 (L[j]?.getD 0)) := by
  have h2 := h
  rcases h.2 with ⟨e, h0⟩ | ⟨g, cap, cur, e, -, hg, -⟩
  · omega
  · simp only [Value.slice.injEq] at e
    obtain ⟨rfl, -⟩ := e
    refine ⟨g, rfl, (Array.getElem?_eq_some_iff.1 hg).1, ?_⟩
    rw [h2.cellAt j (by omega), List.getElem?_map, List.getElem?_eq_getElem hj]
    rfl
set_option maxRecDepth 100000 in
set_option maxHeartbeats 8000000 in
theorem i_table (D : Dc) (n b off cap x P : Nat) (pl : Pl) (ps : List (List UInt8)) (F : List Fq) (B0 fm : Nat) (w : World) (hD : D.n = n) (hdk : docokB D = true) (hx : x < n) (hfm : pl.k.fl.length = fm) (hF : F.length = fm) (h4 : fm ≤ 4) (hq6 : ∀ f ∈ F, f.q.1.length ≤ 6) (hps : ps.length = pl.n1) (hp6 : pl.n1 ≤ 6)
    (hP : CellsAt w P (plV pl).toArray) (hR : w.ownsRow B0 9 1 (.slice pl.a1 pl.n1 pl.c1) pl.n1 (strV ps)) (hO : w.ownsRow B0 69 3 (.slice pl.fa fm pl.fc) fm (F.flatMap fqV)) (hS : FqS B0 w F) (hbs : b < w.heap.size) (hr : DcRow w b off D w.heap.size) :
    Calls Tryz.prog 26 #[.pointer (some ⟨P, 0, none⟩), .slice (some ⟨b, off, none⟩) n cap, .int .i64 x] w (TabAns (tbI D pl.k.kd (fun j => (fqA F j).q) fm (srtL (sel D (st D x n pl.d) ps)) (srtL (sel D (st D x n pl.d) ps)).length) w) := by
  obtain ⟨i0, hi, hz0, hz1, hz2⟩ := info_parts infoStrs
  have hn : n ≤ 200 := by rw [← hD]; exact (docok_facts hdk).1.2
  have hst := st_ok (D := D) (x := x) (n := n) pl.d hD hx
  have hsl := sel_ok ps _ hst.1 hst.2
  have CF := hide (i_from D n b off cap w x pl.d pl.a1 pl.n1 pl.c1 ps B0 hD hn hx hbs hr (by rw [← hD]; exact docok_good hdk) hps (by omega) hR)
  have HIN : Hid (∀ j ∈ srtL (sel D (st D x n pl.d) ps), 0 ≤ j ∧ j < (n : Int)) := hide (fun j hj => by rw [← hD]; exact hsl.2 j ((srt_mem _ _).1 hj))
  have hPL : (srtL (sel D (st D x n pl.d) ps)).length ≤ 200 := by
    rw [srt_len hsl.1]
    have := nodup_len hsl.1 (by rw [← hD] at hn; exact hsl.2)
    omega
  have hPl := cellsAt_lt hP
  have CR : Hid (∀ (y : Nat) (w9 : World), y < n → Below w.heap.size w w9 → Calls Tryz.prog 52 #[.pointer (some ⟨P, 0, none⟩), .slice (some ⟨b, off, none⟩) n cap, .int .i64 y] w9 (RowAns (rwI D y pl.k.kd (fun j => (fqA F j).q) fm) w9)) := hide (fun y w9 hy h9 => i_row D n b off cap y P pl F B0 fm w9 hD hdk hy hfm hF h4 hq6 (cellsAt_go hP h9 hPl) (gOwn_after hO h9) (fqs_go hS h9) (Nat.lt_of_lt_of_le hbs h9.size) (dcRow_up (dcRow_go hr hbs h9) h9.size))
  have HP := hide hP
  have p6 : w.cell? ⟨P, 6, none⟩ = some (.bool pl.d) := by have h9 := cellsAt_cell hP 6; rw [h9]; unfold plV; simp
  have p7 : w.cell? ⟨P, 7, none⟩ = some (.slice pl.a1 pl.n1 pl.c1) := by have h9 := cellsAt_cell hP 7; rw [h9]; unfold plV; simp
  have P8 : Hid (∀ w9, Below w.heap.size w w9 → w9.cell? ⟨P, 8, none⟩ = some (.slice pl.fa fm pl.fc)) := hide (fun w9 h9 => (h9.cell (p := ⟨P, 8, none⟩) hPl).trans (by have h8 := cellsAt_cell hP 8; rw [h8]; unfold plV; simp; exact hfm))
  obtain ⟨PL, hPLe⟩ : ∃ PL, srtL (sel D (st D x n pl.d) ps) = PL := ⟨_, rfl⟩
  rw [hPLe] at CF HIN hPL ⊢
  obtain ⟨N, hN⟩ : ∃ N, PL.length = N := ⟨_, rfl⟩
  rw [hN] at CF hPL ⊢
  have HN := hide hN
  obtain ⟨kd, hkd⟩ : ∃ kd, pl.k.kd = kd := ⟨_, rfl⟩
  rw [hkd] at CR ⊢
  clear hD hdk hfm hF hq6 hps hP hR hO hS hr hst hsl hPLe hN hkd
  go_enter Tryz.func26, Tryz.ntmps26
  go_wp2_with fail
  refine CF.out.mono ?_
  rintro e w2 ⟨pa, pc, rfl, hir, hb2⟩
  have HB2 := hide hb2
  have HIR := hide hir
  clear hir hb2
  go_wp2
  go_loopw [8, 21] (fun tv iv wr => ∃ (i L c8 : Nat) (a8 : Option Addr) (T : List (List ByteArray)) (cs : List Value), i ≤ N ∧ iv = .int .i64 i ∧ tv = .slice a8 L c8 ∧ L ≤ i ∧ Hid (T.length = L) ∧ Hid (tbI D kd (fun j => (fqA F j).q) fm PL i = some T) ∧ Hid (wr.ownsRow w2.heap.size 25 1 (.slice a8 L c8) L cs) ∧ Hid (RrS w2.heap.size wr cs T) ∧ Hid (Below w2.heap.size w2 wr)) (fun _ iv _ => N - (intOf iv).toNat)
  case atStart => exact ⟨0, 0, 0, none, [], [], Nat.zero_le _, rfl, rfl, Nat.le_refl _, hide rfl, hide rfl, hide ⟨rfl, .inl ⟨rfl, rfl⟩⟩, hide ⟨rfl, fun j hj => absurd hj (Nat.not_lt_zero _), fun i j u v h hu => by simp at hu⟩, hide (Below.refl _ _)⟩
  case round =>
    obtain ⟨i, L, c8, a8, T, cs, hii, rfl, rfl, hLi, HTL, HTB, HTO, HRR, HB⟩ := hrel
    have HBB := hide (HB2.out.trans (HB.out.mono HB2.out.size))
    have hsz := HBB.out.size
    have hsw2 : w2.heap.size ≤ wr.heap.size := HB.out.size
    by_cases hlt : i < N
    · have hci : (i : Int) < (N : Int) := by omega
      obtain ⟨g, hga, hgl, hc⟩ := ti_at HIR.out i (by rw [HN.out]; exact hlt)
      have q0 := (HB.out.cell (p := ⟨g, i, none⟩) hgl).trans hc
      have hin := HIN.out (PL[i]?.getD 0) (by rw [List.getElem?_eq_getElem (by rw [HN.out]; exact hlt)]; exact List.getElem_mem _)
      obtain ⟨p, hp⟩ : ∃ p : Nat, PL[i]?.getD 0 = (p : Int) := ⟨(PL[i]?.getD 0).toNat, by omega⟩
      have HPP : Hid ((PL[i]?.getD 0).toNat = p) := hide (by rw [hp]; rfl)
      rw [hp] at q0 hin
      have hpn : p < n := by omega
      have CR2 := hide (CR.out p wr hpn HBB.out)
      subst hga
      clear hc hp hin
      go_wp2_with fail
      refine CR2.out.mono ?_
      rintro e w5 ⟨hb5, hans⟩
      have HB5 := hide (HB.out.trans (hb5.mono HB.out.size))
      have HBB5 := hide (HBB.out.trans (hb5.mono HBB.out.size))
      have HTO5 := hide (gOwn_after HTO.out hb5)
      have HRR5 := hide (rrs_go HRR.out hb5)
      have HLT := hide (rrs_lt HRR.out)
      have e8 := P8.out w5 HBB5.out
      have hs5 := HBB5.out.size
      have hs52 : w2.heap.size ≤ w5.heap.size := HB5.out.size
      have hsw : wr.heap.size ≤ w5.heap.size := hb5.size
      clear hb5
      rcases hans with ⟨ra, rc, r, k, hor, hrk, rfl, hro⟩ | ⟨hor, rfl⟩
      · have HRO := hide hro
        have HRK := hide hrk
        by_cases hkf : k = fm
        · have hkb : ((k : Int) == (fm : Int)) = true := by rw [hkf, beq_iff_eq]
          have HTB2 := hide (tb_yes HTB.out HPP.out hor (by rw [hrk]; exact hkf))
          clear hor hro hrk hkf
          go_wp2_with (at_builtin; refine wpList_append_own _ rfl (.tmp 42) (.tmp 44) 30 rfl w2.heap.size 25 i0 (.slice none 0 0) 1 24 Tryz.underlying30 hi hz0 hz1 hz2 rfl (by decide) _ _ _ rfl (HTO5.out.alloc _) ⟨w5.heap.size, 0, none⟩ 1 1 [.slice ra k rc] rfl rfl (fun i u hu => ts_new w5 _ _ _ _ i u hu) (ts_one _ _ _) (by unfold maxLen; omega) (by omega) (by simp; omega) ?_; intro v2 w7 hown2 hgrow2 _; obtain ⟨ad2, c2', hv2⟩ := gOwn_shape hown2; rw [hv2] at hown2 ⊢; clear hv2; have HB7 := hide (rt_below HB5.out HTO5.out HB5.out.size hgrow2); have HRR7 := hide (rrs_grown (rrs_put (B2 := wr.heap.size) HRR5.out HRK.out (gOwn_lower HRO.out hsw2) (fun q hq => (HRO.out.lt q hq).1) HLT.out) HTO5.out (by decide) hgrow2); have HO7 := hide hown2; clear hown2 hgrow2)
          go_roundw
          case rel => exact ⟨i + 1, L + 1, c2', ad2, T ++ [r], cs ++ [.slice ra k rc], by omega, by go_num, rfl, by omega, hide (by rw [List.length_append, HTL.out]; rfl), HTB2, HO7, HRR7, HB7⟩
          case measure => simp [intOf]; omega
        · have hkb : ((k : Int) == (fm : Int)) = false := by rw [beq_eq_false_iff_ne]; omega
          have HTB2 := hide (tb_skip HTB.out HPP.out hor (by rw [hrk]; exact hkf))
          clear hor hro hrk hkf
          go_wp2
          go_roundw
          case rel => exact ⟨i + 1, L, c8, a8, T, cs, by omega, by go_num, rfl, by omega, HTL, HTB2, HTO5, HRR5, HB5⟩
          case measure => simp [intOf]; omega
      · have HNO := hide (tb_stop (tb_bad HTB.out HPP.out hor) (N - (i + 1)))
        clear hor
        go_wp2
        go_ret2
        exact ⟨HBB5.out, .inr ⟨by have h9 := HNO.out; rw [show i + 1 + (N - (i + 1)) = N by omega] at h9; exact h9, rfl⟩⟩
    · have hie : i = N := by omega
      subst hie
      go_wp2
      go_ret2
      exact ⟨HBB.out, .inl ⟨a8, c8, T, L, cs, HTB.out, HTL.out, rfl, gOwn_lower HTO.out HB2.out.size, rrs_low HRR.out HB2.out.size⟩⟩
end Go.Proofs.YtdepgkpfibmbgaaGreatDoor

/-
  Contract of the program: TableOf.
-/
namespace Go.Proofs.YtdepgkpfibmbgaaGreatDoor
open Go.RowKit Go.Joins
set_option linter.unusedVariables false
set_option linter.unusedSimpArgs false
theorem rw_congr {D : Dc} {p : Nat} {kd : Int} {Q1 Q2 : Nat → List (List UInt8) × List UInt8} : ∀ n, (∀ j, j < n → Q1 j = Q2 j) → rwI D p kd Q1 n = rwI D p kd Q2 n
  | 0, _ => rfl
  | n + 1, h => by rw [rwI, rwI, rw_congr n (fun j hj => h j (by omega)), h n (by omega)]
theorem tb_congr {D : Dc} {kd : Int} {Q1 Q2 : Nat → List (List UInt8) × List UInt8} {nf : Nat} {L : List Int} (h : ∀ j, j < nf → Q1 j = Q2 j) : ∀ i, tbI D kd Q1 nf L i = tbI D kd Q2 nf L i
  | 0 => rfl
  | i + 1 => by rw [tbI, tbI, tb_congr h i, rw_congr nf h]
/-- What the fields of a key say that they are. -/
def kyQ (k : Ky) (j : Nat) : List (List UInt8) × List UInt8 := (fld (k.fl[j]?.getD ⟨#[]⟩).data.toList).getD ([], [])
/-- The places that a key selects. -/
def kyP (D : Dc) (x : Nat) (k : Ky) : List Int := srtL (sel D (st D x D.n (deepL k.pa.data.toList)) (sg [] (restL k.pa.data.toList)))
open Classical in
/-- What TableOf answers. -/
noncomputable def tbO (D : Dc) (x : Int) (k : Ky) : Option (List (List ByteArray)) := if KeyOne k ∧ txOk D x = true then tbI D k.kd (kyQ k) k.fl.length (kyP D x.toNat k) (kyP D x.toNat k).length else none
theorem tbO_no {D : Dc} {x : Int} {k : Ky} (h : ¬ (KeyOne k ∧ txOk D x = true)) : tbO D x k = none := by unfold tbO; rw [if_neg h]
theorem tbO_yes {D : Dc} {x : Int} {k : Ky} (h : KeyOne k) (h2 : txOk D x = true) : tbO D x k = tbI D k.kd (kyQ k) k.fl.length (kyP D x.toNat k) (kyP D x.toNat k).length := by unfold tbO; rw [if_pos ⟨h, h2⟩]
theorem fld_few {l : List UInt8} {q : List (List UInt8) × List UInt8} (h : fld l = some q) : q.1.length ≤ 6 := by
  have hs : ∀ t, pathF t = true → (sg [] t).length ≤ 6 := fun t ht => by
    unfold pathF at ht
    rw [Bool.and_eq_true, decide_eq_true_iff] at ht
    exact ht.2
  unfold fld at h
  split at h
  · cases h; exact Nat.zero_le _
  · split at h
    · split at h
      · split at h
        · cases h; exact Nat.zero_le _
        · split at h
          · split at h
            · rename_i hp
              cases h
              exact hs _ hp
            · cases h
          · cases h
      · cases h
    · split at h
      · rename_i hp
        cases h
        exact hs _ hp
      · cases h
theorem route_few {s : ByteArray} (h : routeB s = true) : cntN (restL s.data.toList) ≤ 6 := by
  unfold routeB at h
  rw [Bool.and_eq_true, Bool.and_eq_true, decide_eq_true_iff, decide_eq_true_iff] at h
  exact h.2.1
set_option maxRecDepth 100000 in
set_option maxHeartbeats 8000000 in
theorem i_tableOf (D : Dc) (n : Nat) (a : Option Addr) (cap : Nat) (x : Int) (k : Ky) (ad : Option Addr) (cp : Nat) (w : World) (hD : D.n = n) (hz : dcTot D ≤ 1048576) (z0 : k.nm.size ≤ 1048576) (z1 : k.on.size ≤ 1048576) (z2 : k.pa.size ≤ 1048576) (z4 : k.fl.length ≤ 1048576) (z5 : ∀ i, i < k.fl.length → (k.fl[i]?.getD ⟨#[]⟩).size ≤ 1048576) (hr : DcAt w a D w.heap.size) (hat : TxAt w ad k.fl w.heap.size) (hT : Tabs w) (hM : MaxL w) :
    Calls Tryz.prog 7 #[.slice a n cap, .int .i64 x, .agg #[.string k.nm, .int .i64 k.kd, .string k.on, .string k.pa, .slice ad k.fl.length cp, .string k.re]] w (TabAns (tbO D x k) w) := by
  have sx := fun o : Obj => (Below.refl w.heap.size w).alloc (Nat.le_refl _) o
  have CP := hide (fun o => i_plan2 k.nm k.kd k.on k.pa ad k.fl k.fl.length cp k.re (w.alloc o) rfl z0 z1 z2 z4 z5 (tx_up (tx_go hat (sx o)) (sx o).size) (maxL_go hM (sx o) (Nat.le_refl _)))
  have CH := hide (fun (W : World) (hb : Below w.heap.size w W) => i_hasElement D n a cap x W hD hz (dcAt_up (dcAt_go hr hb) hb.size) (tabs_below hT hb))
  have HD := hide hD
  have HR := hide hr
  obtain ⟨nm, kd, on, pa, fl, re⟩ := k
  dsimp only at CP ⊢
  clear hD hz z0 z1 z2 z5 hr hat hT hM
  go_enter Tryz.func7, Tryz.ntmps7
  go_wp2_with fail
  refine (CP.out _).mono ?_
  rintro e w2 ⟨hb2, ⟨hk1, a1, c1, fa, fc, F, rfl, hrt, hFl, hFq, hFo, hFs⟩ | ⟨hk1, rfl⟩⟩
  · have HB2 := hide ((sx _).trans (hb2.mono (sx _).size))
    have hs2 := HB2.out.size
    have st2 := fun o : Obj => (Below.refl w2.heap.size w2).alloc (Nat.le_refl _) o
    cases htx : txOk D x
    · have HNO := hide (tbO_no (D := D) (x := x) (k := ⟨nm, kd, on, pa, fl, re⟩) (fun h => by rw [htx] at h; cases h.2))
      have CH2 := hide (fun o => CH.out (w2.alloc o) (HB2.out.alloc HB2.out.size o))
      rw [htx] at CH2
      clear hb2 hrt hFl hFq hFo hFs
      unfold plV
      go_wp2_with (go_at_call 25; refine (CH2.out _).mono ?_; rintro e w3 ⟨rfl, hb3⟩; have HB3 := hide ((HB2.out.alloc HB2.out.size _).trans (hb3.mono (HB2.out.alloc HB2.out.size _).size)); clear hb3)
      go_ret2
      exact ⟨HB3.out, .inr ⟨HNO.out, rfl⟩⟩
    · have hYES := tbO_yes hk1 htx
      have htf : docokB D = true ∧ 0 ≤ x ∧ x < D.n := by
        have h2 := htx
        unfold txOk at h2
        simp only [Bool.and_eq_true, decide_eq_true_eq] at h2
        exact ⟨h2.1, h2.2.1.1, by omega⟩
      obtain ⟨hdk, hx0, hx1⟩ := htf
      obtain ⟨X, hXx⟩ : ∃ X : Nat, x = (X : Int) := ⟨x.toNat, by omega⟩
      subst hXx
      have hXn : X < n := by rw [← HD.out]; omega
      obtain ⟨b, off, hab, hbw, hrow⟩ := HR.out (by omega)
      subst hab
      have HYES := hide hYES
      have CH2 := hide (fun o => CH.out (w2.alloc o) (HB2.out.alloc HB2.out.size o))
      rw [htx] at CH2
      have hB0 : w.heap.size ≤ w2.heap.size := hs2
      have CT : Hid (∀ (T9 : TypeId) (w3 : World), Below (w2.alloc (.cells (plV ⟨⟨nm, kd, on, pa, fl, re⟩, ad, cp, deepL pa.data.toList, a1, cntN (restL pa.data.toList), c1, fa, fc, 0⟩).toArray T9)).heap.size (w2.alloc (.cells (plV ⟨⟨nm, kd, on, pa, fl, re⟩, ad, cp, deepL pa.data.toList, a1, cntN (restL pa.data.toList), c1, fa, fc, 0⟩).toArray T9)) w3 →
          Calls Tryz.prog 26 #[.pointer (some ⟨w2.heap.size, 0, none⟩), .slice (some ⟨b, off, none⟩) n cap, .int .i64 X] w3 (TabAns (tbO D (X : Int) ⟨nm, kd, on, pa, fl, re⟩) w3)) := hide (fun T9 w3 h3 => by
        have hb9 : Below w2.heap.size w2 w3 := (st2 _).trans (h3.mono (st2 _).size)
        have hbA : Below w.heap.size w w3 := HB2.out.trans (hb9.mono hs2)
        have h9 := i_table D n b off cap X w2.heap.size ⟨⟨nm, kd, on, pa, fl, re⟩, ad, cp, deepL pa.data.toList, a1, cntN (restL pa.data.toList), c1, fa, fc, 0⟩ (sg [] (restL pa.data.toList)) F (w.alloc (.cells #[.string nm, .int .i64 kd, .string on, .string pa, .slice ad fl.length cp, .string re] 27)).heap.size fl.length w3 HD.out hdk hXn rfl hFl hk1.2.2.2.2.1.2 (fun f hf => by
            obtain ⟨i, hi, e⟩ := List.mem_iff_getElem.1 hf
            have h8 := hFq i (by rw [← hFl]; exact hi)
            have e2 : fqA F i = f := by unfold fqA; rw [List.getElem?_eq_getElem hi]; exact e
            rw [e2] at h8
            exact fld_few h8) rfl (route_few hk1.2.2.2.1) (cellsAt_go (cellsAt_new w2 _ T9) h3 (by simp)) (gOwn_after hrt hb9) (gOwn_after hFo hb9) (fqs_go hFs hb9) (Nat.lt_of_lt_of_le hbw hbA.size) (dcRow_up (dcRow_go hrow hbw hbA) hbA.size)
        rw [HYES.out]
        unfold kyP
        rw [Int.toNat_natCast, HD.out]
        have hc := tb_congr (D := D) (kd := kd) (Q1 := fun j => (fqA F j).q) (Q2 := kyQ ⟨nm, kd, on, pa, fl, re⟩) (nf := fl.length) (L := srtL (sel D (st D X n (deepL pa.data.toList)) (sg [] (restL pa.data.toList)))) (fun j hj => by
          have h8 := hFq j hj
          unfold kyQ
          show (fqA F j).q = (fld (fl[j]?.getD ⟨#[]⟩).data.toList).getD ([], [])
          rw [h8]
          rfl)
        rw [← hc]
        exact h9)
      clear hb2 hrt hFl hFq hFo hFs hYES hrow htx hk1
      unfold plV at CT ⊢
      go_wp2_with (go_at_call 25; refine (CH2.out _).mono ?_; rintro e w3 ⟨rfl, hb3⟩; have HH3 := hide hb3; have HB3 := hide ((HB2.out.alloc HB2.out.size _).trans (hb3.mono (HB2.out.alloc HB2.out.size _).size)); clear hb3)
      refine (CT.out _ _ HH3.out).mono ?_
      rintro e w4 ⟨hb4, ⟨ta, tc, T, q, cs, ho, hq, rfl, hto, hrr⟩ | ⟨ho, rfl⟩⟩
      · have HB4 := hide (HB3.out.trans (hb4.mono HB3.out.size))
        have HO4 := hide ho
        have HQ4 := hide hq
        have HT4 := hide (gOwn_lower hto HB3.out.size)
        have HR4 := hide (rrs_low hrr HB3.out.size)
        clear hb4 ho hq hto hrr
        go_wp2
        go_ret2
        exact ⟨HB4.out, .inl ⟨ta, tc, T, q, cs, HO4.out, HQ4.out, rfl, HT4.out, HR4.out⟩⟩
      · have HB4 := hide (HB3.out.trans (hb4.mono HB3.out.size))
        have HO4 := hide ho
        clear hb4 ho
        go_wp2
        go_ret2
        exact ⟨HB4.out, .inr ⟨HO4.out, rfl⟩⟩
  · have HNO := hide (tbO_no (D := D) (x := x) (k := ⟨nm, kd, on, pa, fl, re⟩) (fun h => hk1 h.1))
    have HB2 := hide ((sx _).trans (hb2.mono (sx _).size))
    clear hb2 hk1
    unfold plV pl0 ky0
    go_wp2
    go_ret2
    exact ⟨HB2.out.alloc HB2.out.size _, .inr ⟨HNO.out, rfl⟩⟩
end Go.Proofs.YtdepgkpfibmbgaaGreatDoor
