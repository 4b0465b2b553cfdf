/-
  Contract of the program: planOf, with the names of its route and of its fields.
-/
import Derived.Test.YtdepgkpfibmbgaaGreatDoorF8
namespace Go.Proofs.YtdepgkpfibmbgaaGreatDoor
open Go.RowKit Go.Joins
set_option linter.unusedVariables false
set_option linter.unusedSimpArgs false
/-- A field as the program holds it: where its names lie, and what it says. -/
structure Fq where
  a : Option Addr
  c : Nat
  q : List (List UInt8) × List UInt8
def fqV (f : Fq) : List Value := [.bool false, .slice f.a f.q.1.length f.c, .string ⟨f.q.2.toArray⟩]
def fq0 : Fq := ⟨none, 0, [], []⟩
def fqA (F : List Fq) (i : Nat) : Fq := F[i]?.getD fq0
/-- The names' rows of fields. -/
def FqS (B : Nat) (w : World) (F : List Fq) : Prop := ∀ f ∈ F, w.ownsRow B 9 1 (.slice f.a f.q.1.length f.c) f.q.1.length (strV f.q.1)
/-- A route's names, in a block between two marks. -/
def RtS (B P : Nat) (w : World) (a : Option Addr) (n c : Nat) (ps : List (List UInt8)) : Prop := w.ownsRow B 9 1 (.slice a n c) n (strV ps) ∧ ∀ k, (Value.slice a n c).ownBlock = some k → k < P
theorem own_apart {w : World} {B B' : Nat} {e e' : TypeId} {z z' : Nat} {v v' : Value} {n n' : Nat} {xs xs' : List Value} (h : w.ownsRow B e z v n xs) (h' : w.ownsRow B' e' z' v' n' xs') (hne : e ≠ e') : ∀ k, v'.ownBlock = some k → v.ownBlock ≠ some k := fun k hk e9 => by
  rcases h.2 with ⟨hv, -⟩ | ⟨g, cap, cur, hv, -, hg, -⟩
  · rw [hv] at e9; cases e9
  · rw [hv] at e9
    cases e9
    rcases h'.2 with ⟨hv', -⟩ | ⟨g', cap', cur', hv', -, hg', -⟩
    · rw [hv'] at hk; cases hk
    · rw [hv'] at hk
      cases hk
      rw [hg] at hg'
      simp only [Option.some.injEq, Obj.cells.injEq] at hg'
      exact hne hg'.2.1
theorem own_keptB {w w' : World} {B : Nat} {e : TypeId} {z : Nat} {v : Value} {n : Nat} {xs : List Value} {row : Option Nat} (h : w.ownsRow B e z v n xs) (hg : w.grownBy w' row) (hne : ∀ k, row = some k → v.ownBlock ≠ some k) : w'.ownsRow B e z v n xs := by
  refine h.kept hg ?_
  cases hv : v.ownBlock with
  | none => exact .inl rfl
  | some k => exact .inr fun e => hne k e.symm (by rw [hv])
section
variable {B P : Nat} {w w' : World} {F : List Fq} {a : Option Addr} {n c : Nat} {ps : List (List UInt8)}
theorem fqs_go (h : FqS B w F) (hb : Below w.heap.size w w') : FqS B w' F := fun f hf => gOwn_after (h f hf) hb
theorem fqs_set (h : FqS B w F) (p : Addr) (v : Value) (hp : p.block < B) : FqS B (w.setCell p v) F := fun f hf => gOwn_set (h f hf) p v (fun e => by have h9 : B ≤ p.block := ((h f hf).lt _ e).1; omega)
theorem fqs_grown {e : TypeId} {z : Nat} {v : Value} {m : Nat} {xs : List Value} {o : Obj} (h : FqS B w F) (ho : w.ownsRow B e z v m xs) (hne : 9 ≠ e) (hg : (w.alloc o).grownBy w' v.ownBlock) : FqS B w' F := fun f hf =>
  own_keptB ((h f hf).alloc o) hg (own_apart (h f hf) ho hne)
theorem fqs_put (h : FqS B w F) {f : Fq} (hf : w.ownsRow B 9 1 (.slice f.a f.q.1.length f.c) f.q.1.length (strV f.q.1)) : FqS B w (F ++ [f]) := fun g hg => by
  rcases List.mem_append.1 hg with hg | hg
  · exact h g hg
  · rw [List.mem_singleton] at hg; subst hg; exact hf
theorem fqs_low {B' : Nat} (h : FqS B w F) (hB : B' ≤ B) : FqS B' w F := fun f hf => gOwn_lower (h f hf) hB
theorem rts_go (h : RtS B P w a n c ps) (hb : Below w.heap.size w w') : RtS B P w' a n c ps := ⟨gOwn_after h.1 hb, h.2⟩
theorem rts_set (h : RtS B P w a n c ps) (p : Addr) (v : Value) (hp : p.block < B ∨ P ≤ p.block) : RtS B P (w.setCell p v) a n c ps := ⟨gOwn_set h.1 p v (fun e => by have h1 : B ≤ p.block := (h.1.lt _ e).1; have h2 : p.block < P := h.2 _ e; omega), h.2⟩
theorem rts_grown {e : TypeId} {z : Nat} {v : Value} {m : Nat} {xs : List Value} {o : Obj} {B2 : Nat} (h : RtS B P w a n c ps) (ho : w.ownsRow B2 e z v m xs) (hne : 9 ≠ e) (hg : (w.alloc o).grownBy w' v.ownBlock) : RtS B P w' a n c ps := ⟨own_keptB (h.1.alloc o) hg (own_apart h.1 ho hne), h.2⟩
end
theorem fqs_put10 {B R : Nat} {w : World} {F : List Fq} (h : FqS B w F) (hR : R < B) (v0 v1 v2 v3 v4 v5 v6 v7 v8 v9 : Value) : FqS B ((((((((((w.setCell ⟨R, 0, none⟩ v0).setCell ⟨R, 1, none⟩ v1).setCell ⟨R, 2, none⟩ v2).setCell ⟨R, 3, none⟩ v3).setCell ⟨R, 4, none⟩ v4).setCell ⟨R, 5, none⟩ v5).setCell ⟨R, 6, none⟩ v6).setCell ⟨R, 7, none⟩ v7).setCell ⟨R, 8, none⟩ v8).setCell ⟨R, 9, none⟩ v9) F :=
  fqs_set (fqs_set (fqs_set (fqs_set (fqs_set (fqs_set (fqs_set (fqs_set (fqs_set (fqs_set h _ _ hR) _ _ hR) _ _ hR) _ _ hR) _ _ hR) _ _ hR) _ _ hR) _ _ hR) _ _ hR) _ _ hR
theorem rts_put10 {B P R : Nat} {w : World} {a : Option Addr} {n c : Nat} {ps : List (List UInt8)} (h : RtS B P w a n c ps) (hR : R < B) (v0 v1 v2 v3 v4 v5 v6 v7 v8 v9 : Value) : RtS B P ((((((((((w.setCell ⟨R, 0, none⟩ v0).setCell ⟨R, 1, none⟩ v1).setCell ⟨R, 2, none⟩ v2).setCell ⟨R, 3, none⟩ v3).setCell ⟨R, 4, none⟩ v4).setCell ⟨R, 5, none⟩ v5).setCell ⟨R, 6, none⟩ v6).setCell ⟨R, 7, none⟩ v7).setCell ⟨R, 8, none⟩ v8).setCell ⟨R, 9, none⟩ v9) a n c ps :=
  have hR' : R < B ∨ P ≤ R := .inl hR
  rts_set (rts_set (rts_set (rts_set (rts_set (rts_set (rts_set (rts_set (rts_set (rts_set h _ _ hR') _ _ hR') _ _ hR') _ _ hR') _ _ hR') _ _ hR') _ _ hR') _ _ hR') _ _ hR') _ _ hR'
theorem own_put10 {B R : Nat} {w : World} {e : TypeId} {z : Nat} {v : Value} {n : Nat} {xs : List Value} (h : w.ownsRow B e z v n xs) (hR : R < B) (v0 v1 v2 v3 v4 v5 v6 v7 v8 v9 : Value) : ((((((((((w.setCell ⟨R, 0, none⟩ v0).setCell ⟨R, 1, none⟩ v1).setCell ⟨R, 2, none⟩ v2).setCell ⟨R, 3, none⟩ v3).setCell ⟨R, 4, none⟩ v4).setCell ⟨R, 5, none⟩ v5).setCell ⟨R, 6, none⟩ v6).setCell ⟨R, 7, none⟩ v7).setCell ⟨R, 8, none⟩ v8).setCell ⟨R, 9, none⟩ v9).ownsRow B e z v n xs := by
  have hs : ∀ (W : World) (i : Nat) (u : Value), W.ownsRow B e z v n xs → (W.setCell ⟨R, i, none⟩ u).ownsRow B e z v n xs := fun W i u k => gOwn_set k _ _ (fun e9 => by have h9 : B ≤ R := (k.lt _ e9).1; omega)
  exact hs _ _ _ (hs _ _ _ (hs _ _ _ (hs _ _ _ (hs _ _ _ (hs _ _ _ (hs _ _ _ (hs _ _ _ (hs _ _ _ (hs _ _ _ h)))))))))
/-- What a plan is told as, with its rows. -/
def PlanAns2 (x : Ky) (ad : Option Addr) (cp : Nat) (w : World) (e : Ending) (w' : World) : Prop := Below w.heap.size w w' ∧
  ((KeyOne x ∧ ∃ a1 c1 fa fc F, e = .returned (.tuple #[.agg (plV ⟨x, ad, cp, deepL x.pa.data.toList, a1, cntN (restL x.pa.data.toList), c1, fa, fc, 0⟩).toArray, .bool true]) ∧
      w'.ownsRow w.heap.size 9 1 (.slice a1 (cntN (restL x.pa.data.toList)) c1) (cntN (restL x.pa.data.toList)) (strV (sg [] (restL x.pa.data.toList))) ∧
      F.length = x.fl.length ∧ (∀ i, i < x.fl.length → fld (x.fl[i]?.getD ⟨#[]⟩).data.toList = some (fqA F i).q) ∧ w'.ownsRow w.heap.size 69 3 (.slice fa x.fl.length fc) x.fl.length (F.flatMap fqV) ∧ FqS w.heap.size w' F) ∨
   (¬ KeyOne x ∧ e = .returned (.tuple #[.agg (plV pl0).toArray, .bool false])))
theorem plan_no2 {x : Ky} {ad : Option Addr} {cp : Nat} {w w' : World} (hb : Below w.heap.size w w') (h : ¬ KeyOne x) : PlanAns2 x ad cp w (.returned (.tuple #[.agg #[.string ⟨#[]⟩, .int .i64 0, .string ⟨#[]⟩, .string ⟨#[]⟩, .slice none 0 0, .string ⟨#[]⟩, .bool false, .slice none 0 0, .slice none 0 0, .int .i64 0], .bool false])) w' := ⟨hb, .inr ⟨h, rfl⟩⟩
theorem fqA_new {F : List Fq} {f : Fq} {q i : Nat} (hl : F.length = q) : fqA (F ++ [f]) i = if i = q then f else fqA F i := by
  unfold fqA
  by_cases e : i = q
  · rw [if_pos e, List.getElem?_append_right (by omega), e, hl, Nat.sub_self]; rfl
  · rw [if_neg e]
    by_cases h2 : i < q
    · rw [List.getElem?_append_left (by omega)]
    · rw [List.getElem?_eq_none (by simp; omega), List.getElem?_eq_none (by omega)]
set_option maxRecDepth 100000 in
set_option maxHeartbeats 8000000 in
theorem i_plan2 (nm : ByteArray) (kd : Int) (on pa : ByteArray) (ad : Option Addr) (fl : List ByteArray) (fm cp : Nat) (re : ByteArray) (w : World) (hfm : fl.length = fm) (z0 : nm.size ≤ 1048576) (z1 : on.size ≤ 1048576) (z2 : pa.size ≤ 1048576) (z4 : fm ≤ 1048576) (z5 : ∀ i, i < fm → (fl[i]?.getD ⟨#[]⟩).size ≤ 1048576) (hat : TxAt w ad fl w.heap.size) (hM : MaxL w) :
    Calls Tryz.prog 24 #[.agg #[.string nm, .int .i64 kd, .string on, .string pa, .slice ad fm cp, .string re]] w (PlanAns2 ⟨nm, kd, on, pa, fl, re⟩ ad cp w) := by
  have hBA : Below w.heap.size w ((w.alloc (.cells #[.string nm, .int .i64 kd, .string on, .string pa, .slice ad fm cp, .string re] 27)).alloc (.cells #[.string ⟨#[]⟩, .int .i64 0, .string ⟨#[]⟩, .string ⟨#[]⟩, .slice none 0 0, .string ⟨#[]⟩, .bool false, .slice none 0 0, .slice none 0 0, .int .i64 0] 59)) := ((Below.refl _ _).alloc (Nat.le_refl _) _).alloc (by simp) _
  have hM1 : MaxL ((w.alloc (.cells #[.string nm, .int .i64 kd, .string on, .string pa, .slice ad fm cp, .string re] 27)).alloc (.cells #[.string ⟨#[]⟩, .int .i64 0, .string ⟨#[]⟩, .string ⟨#[]⟩, .slice none 0 0, .string ⟨#[]⟩, .bool false, .slice none 0 0, .slice none 0 0, .int .i64 0] 59)) := maxL_go hM hBA (Nat.le_refl _)
  have C := hide (i_route pa _ z2 hM1)
  have HFM := hide hfm
  have HZ5 := hide z5
  have HAT := hide hat
  have HM := hide hM
  have hz0 : nm.size ≤ maxLen := by unfold maxLen; omega
  have hz1 : on.size ≤ maxLen := by unfold maxLen; omega
  clear hM hM1 hBA hfm z5 hat
  go_enter Tryz.func24, Tryz.ntmps24
  go_wp2_with fail
  refine C.out.mono ?_
  rintro e w2 ⟨hb, h⟩
  have hB1 : Below w.heap.size w ((w.alloc (.cells #[.string nm, .int .i64 kd, .string on, .string pa, .slice ad fm cp, .string re] 27)).alloc (.cells #[.string ⟨#[]⟩, .int .i64 0, .string ⟨#[]⟩, .string ⟨#[]⟩, .slice none 0 0, .string ⟨#[]⟩, .bool false, .slice none 0 0, .slice none 0 0, .int .i64 0] 59)) := ((Below.refl _ _).alloc (Nat.le_refl _) _).alloc (by simp) _
  have hK : CellsAt w2 w.heap.size #[.string nm, .int .i64 kd, .string on, .string pa, .slice ad fm cp, .string re] := cellsAt_go (cellsAt_go (cellsAt_new w _ _) ((Below.refl _ _).alloc (Nat.le_refl _) _) (by simp)) hb (by simp; omega)
  have hR : CellsAt w2 (w.heap.size + 1) #[.string ⟨#[]⟩, .int .i64 0, .string ⟨#[]⟩, .string ⟨#[]⟩, .slice none 0 0, .string ⟨#[]⟩, .bool false, .slice none 0 0, .slice none 0 0, .int .i64 0] := by
    have h9 := cellsAt_go (cellsAt_new (w.alloc (.cells #[.string nm, .int .i64 kd, .string on, .string pa, .slice ad fm cp, .string re] 27)) #[.string ⟨#[]⟩, .int .i64 0, .string ⟨#[]⟩, .string ⟨#[]⟩, .slice none 0 0, .string ⟨#[]⟩, .bool false, .slice none 0 0, .slice none 0 0, .int .i64 0] 59) hb (by simp)
    simpa using h9
  have HB := hide (hB1.trans (hb.mono hB1.size))
  have hs2 : w.heap.size + 1 < w2.heap.size := cellsAt_lt hR
  have hs1 : w.heap.size < w2.heap.size := cellsAt_lt hK
  have k0 : w2.cell? ⟨w.heap.size, 0, none⟩ = some (.string nm) := cellsAt_cell hK 0
  have k1 : w2.cell? ⟨w.heap.size, 1, none⟩ = some (.int .i64 kd) := cellsAt_cell hK 1
  have k2 : w2.cell? ⟨w.heap.size, 2, none⟩ = some (.string on) := cellsAt_cell hK 2
  have k3 : w2.cell? ⟨w.heap.size, 3, none⟩ = some (.string pa) := cellsAt_cell hK 3
  have k4 : w2.cell? ⟨w.heap.size, 4, none⟩ = some (.slice ad fm cp) := cellsAt_cell hK 4
  have k5 : w2.cell? ⟨w.heap.size, 5, none⟩ = some (.string re) := cellsAt_cell hK 5
  have r0 : w2.cell? ⟨w.heap.size + 1, 0, none⟩ = some (.string ⟨#[]⟩) := cellsAt_cell hR 0
  have r1 : w2.cell? ⟨w.heap.size + 1, 1, none⟩ = some (.int .i64 0) := cellsAt_cell hR 1
  have r2 : w2.cell? ⟨w.heap.size + 1, 2, none⟩ = some (.string ⟨#[]⟩) := cellsAt_cell hR 2
  have r3 : w2.cell? ⟨w.heap.size + 1, 3, none⟩ = some (.string ⟨#[]⟩) := cellsAt_cell hR 3
  have r4 : w2.cell? ⟨w.heap.size + 1, 4, none⟩ = some (.slice none 0 0) := cellsAt_cell hR 4
  have r5 : w2.cell? ⟨w.heap.size + 1, 5, none⟩ = some (.string ⟨#[]⟩) := cellsAt_cell hR 5
  have r6 : w2.cell? ⟨w.heap.size + 1, 6, none⟩ = some (.bool false) := cellsAt_cell hR 6
  have r7 : w2.cell? ⟨w.heap.size + 1, 7, none⟩ = some (.slice none 0 0) := cellsAt_cell hR 7
  have r8 : w2.cell? ⟨w.heap.size + 1, 8, none⟩ = some (.slice none 0 0) := cellsAt_cell hR 8
  have r9 : w2.cell? ⟨w.heap.size + 1, 9, none⟩ = some (.int .i64 0) := cellsAt_cell hR 9
  have hfz := cellsAt_frozen hR
  have hfk := cellsAt_frozen hK
  have HK := hide hK
  have HR := hide hR
  clear hb hB1 hK hR
  have FIN : ∀ o, CellsAt (((((((((((w2.setCell ⟨w.heap.size + 1, 0, none⟩ (.string ⟨#[]⟩)).setCell ⟨w.heap.size + 1, 1, none⟩ (.int .i64 0)).setCell ⟨w.heap.size + 1, 2, none⟩ (.string ⟨#[]⟩)).setCell ⟨w.heap.size + 1, 3, none⟩ (.string ⟨#[]⟩)).setCell ⟨w.heap.size + 1, 4, none⟩ (.slice none 0 0)).setCell ⟨w.heap.size + 1, 5, none⟩ (.string ⟨#[]⟩)).setCell ⟨w.heap.size + 1, 6, none⟩ (.bool false)).setCell ⟨w.heap.size + 1, 7, none⟩ (.slice none 0 0)).setCell ⟨w.heap.size + 1, 8, none⟩ (.slice none 0 0)).setCell ⟨w.heap.size + 1, 9, none⟩ (.int .i64 0)).alloc o) (w.heap.size + 1) #[.string ⟨#[]⟩, .int .i64 0, .string ⟨#[]⟩, .string ⟨#[]⟩, .slice none 0 0, .string ⟨#[]⟩, .bool false, .slice none 0 0, .slice none 0 0, .int .i64 0] ∧ Below w.heap.size w (((((((((((w2.setCell ⟨w.heap.size + 1, 0, none⟩ (.string ⟨#[]⟩)).setCell ⟨w.heap.size + 1, 1, none⟩ (.int .i64 0)).setCell ⟨w.heap.size + 1, 2, none⟩ (.string ⟨#[]⟩)).setCell ⟨w.heap.size + 1, 3, none⟩ (.string ⟨#[]⟩)).setCell ⟨w.heap.size + 1, 4, none⟩ (.slice none 0 0)).setCell ⟨w.heap.size + 1, 5, none⟩ (.string ⟨#[]⟩)).setCell ⟨w.heap.size + 1, 6, none⟩ (.bool false)).setCell ⟨w.heap.size + 1, 7, none⟩ (.slice none 0 0)).setCell ⟨w.heap.size + 1, 8, none⟩ (.slice none 0 0)).setCell ⟨w.heap.size + 1, 9, none⟩ (.int .i64 0)).alloc o) := fun o => by
    have h1 := cells_put10 HR.out (.string ⟨#[]⟩) (.int .i64 0) (.string ⟨#[]⟩) (.string ⟨#[]⟩) (.slice none 0 0) (.string ⟨#[]⟩) (.bool false) (.slice none 0 0) (.slice none 0 0) (.int .i64 0)
    have h2 := below_put10 HB.out (R := w.heap.size + 1) (by omega) (.string ⟨#[]⟩) (.int .i64 0) (.string ⟨#[]⟩) (.string ⟨#[]⟩) (.slice none 0 0) (.string ⟨#[]⟩) (.bool false) (.slice none 0 0) (.slice none 0 0) (.int .i64 0)
    exact ⟨cellsAt_go h1 ((Below.refl _ _).alloc (Nat.le_refl _) o) (cellsAt_lt h1), h2.alloc h2.size o⟩
  have HFIN := hide FIN
  clear FIN
  rcases h with ⟨hr, a1, c1, rfl, ho⟩ | ⟨hr, rfl⟩
  · obtain ⟨d, hd⟩ : ∃ d, deepL pa.data.toList = d := ⟨_, rfl⟩
    obtain ⟨n1, hn1⟩ : ∃ n1, cntN (restL pa.data.toList) = n1 := ⟨_, rfl⟩
    have HD1 := hide hd
    have HN1 := hide hn1
    have HRT0 : Hid (RtS (w.heap.size + 2) w2.heap.size w2 a1 n1 c1 (sg [] (restL pa.data.toList))) := hide ⟨by have h9 := ho; rw [hn1] at h9; exact gOwn_lower h9 (by simp), fun k hk => by have h9 := ho; rw [hn1] at h9; exact (h9.lt k hk).2⟩
    rw [hd, hn1]
    clear ho hd hn1
    cases hn1 : nameB nm
    · have HNO : Hid (¬ KeyOne ⟨nm, kd, on, pa, fl, re⟩) := hide (fun h => absurd (hn1.symm.trans h.1) (by decide))
      go_wp2_with (first | (go_at_call 49; refine (i_name _ _ (by assumption)).mono ?_; rintro e w9 ⟨rfl, h9⟩; rw [h9]; clear h9 w9; first | rw [hn1] | rw [hn2]))
      obtain ⟨hcz, hbz⟩ := HFIN.out (.cells #[.bool d, .slice a1 n1 c1] 56)
      have y0 := cellsAt_cell hcz 0
      have y1 := cellsAt_cell hcz 1
      have y2 := cellsAt_cell hcz 2
      have y3 := cellsAt_cell hcz 3
      have y4 := cellsAt_cell hcz 4
      have y5 := cellsAt_cell hcz 5
      have y6 := cellsAt_cell hcz 6
      have y7 := cellsAt_cell hcz 7
      have y8 := cellsAt_cell hcz 8
      have y9 := cellsAt_cell hcz 9
      exact bodyPost_ret (v := .tuple #[.agg #[.string ⟨#[]⟩, .int .i64 0, .string ⟨#[]⟩, .string ⟨#[]⟩, .slice none 0 0, .string ⟨#[]⟩, .bool false, .slice none 0 0, .slice none 0 0, .int .i64 0], .bool false]) (by simp [results, Tryz.results24, go_sem, y0, y1, y2, y3, y4, y5, y6, y7, y8, y9]) rfl (plan_no2 hbz HNO.out)
    · cases hn2 : nameB on
      · have HNO : Hid (¬ KeyOne ⟨nm, kd, on, pa, fl, re⟩) := hide (fun h => absurd (hn2.symm.trans h.2.2.1) (by decide))
        go_wp2_with (first | (go_at_call 49; refine (i_name _ _ (by assumption)).mono ?_; rintro e w9 ⟨rfl, h9⟩; rw [h9]; clear h9 w9; first | rw [hn1] | rw [hn2]))
        obtain ⟨hcz, hbz⟩ := HFIN.out (.cells #[.bool d, .slice a1 n1 c1] 56)
        have y0 := cellsAt_cell hcz 0
        have y1 := cellsAt_cell hcz 1
        have y2 := cellsAt_cell hcz 2
        have y3 := cellsAt_cell hcz 3
        have y4 := cellsAt_cell hcz 4
        have y5 := cellsAt_cell hcz 5
        have y6 := cellsAt_cell hcz 6
        have y7 := cellsAt_cell hcz 7
        have y8 := cellsAt_cell hcz 8
        have y9 := cellsAt_cell hcz 9
        exact bodyPost_ret (v := .tuple #[.agg #[.string ⟨#[]⟩, .int .i64 0, .string ⟨#[]⟩, .string ⟨#[]⟩, .slice none 0 0, .string ⟨#[]⟩, .bool false, .slice none 0 0, .slice none 0 0, .int .i64 0], .bool false]) (by simp [results, Tryz.results24, go_sem, y0, y1, y2, y3, y4, y5, y6, y7, y8, y9]) rfl (plan_no2 hbz HNO.out)
      · by_cases hkd : 1 ≤ kd ∧ kd ≤ 3
        · by_cases hfm : 1 ≤ fm ∧ fm ≤ 4
          · have hfmr : (1 : Int) ≤ (fm : Int) ∧ (fm : Int) ≤ 4 := by omega
            go_wp2_with (first | (go_at_call 49; refine (i_name _ _ (by assumption)).mono ?_; rintro e w9 ⟨rfl, h9⟩; rw [h9]; clear h9 w9; first | rw [hn1] | rw [hn2]) | (go_at_call_of 50 (Value.int .i64 kd); refine (ik_inT _ _ _ _ hkd).mono ?_; rintro e w9 ⟨rfl, h9⟩; rw [h9]; clear h9 w9) | (go_at_call_of 50 (Value.int .i64 (fm : Int)); refine (ik_inT _ _ _ _ hfmr).mono ?_; rintro e w9 ⟨rfl, h9⟩; rw [h9]; clear h9 w9))
            obtain ⟨P, hP⟩ : ∃ P, w2.heap.size + 1 = P := ⟨_, rfl⟩
            have hKR : w.heap.size + 1 < P := by omega
            have hW0 : CellsAt ((w2.alloc (.cells #[.bool d, .slice a1 n1 c1] 56)).alloc (.cells #[.string nm, .int .i64 kd, .string on, .string pa, .slice ad fm cp, .string re, .bool d, .slice a1 n1 c1, .slice none 0 0, .int .i64 0] 59)) P #[.string nm, .int .i64 kd, .string on, .string pa, .slice ad fm cp, .string re, .bool d, .slice a1 n1 c1, .slice none 0 0, .int .i64 0] := by
              have h9 := cellsAt_new (w2.alloc (.cells #[.bool d, .slice a1 n1 c1] 56)) #[.string nm, .int .i64 kd, .string on, .string pa, .slice ad fm cp, .string re, .bool d, .slice a1 n1 c1, .slice none 0 0, .int .i64 0] 59
              have e9 : (w2.alloc (.cells #[.bool d, .slice a1 n1 c1] 56)).heap.size = P := by rw [← hP]; simp
              rw [e9] at h9
              exact h9
            have hbW : Below w2.heap.size w2 ((w2.alloc (.cells #[.bool d, .slice a1 n1 c1] 56)).alloc (.cells #[.string nm, .int .i64 kd, .string on, .string pa, .slice ad fm cp, .string re, .bool d, .slice a1 n1 c1, .slice none 0 0, .int .i64 0] 59)) := ((Below.refl _ _).alloc (Nat.le_refl _) _).alloc (by simp) _
            have hsW : ((w2.alloc (.cells #[.bool d, .slice a1 n1 c1] 56)).alloc (.cells #[.string nm, .int .i64 kd, .string on, .string pa, .slice ad fm cp, .string re, .bool d, .slice a1 n1 c1, .slice none 0 0, .int .i64 0] 59)).heap.size = P + 1 := by rw [← hP]; simp
            rw [hP]
            obtain ⟨W, hW⟩ : ∃ W, (w2.alloc (.cells #[.bool d, .slice a1 n1 c1] 56)).alloc (.cells #[.string nm, .int .i64 kd, .string on, .string pa, .slice ad fm cp, .string re, .bool d, .slice a1 n1 c1, .slice none 0 0, .int .i64 0] 59) = W := ⟨_, rfl⟩
            rw [hW] at hW0 hbW hsW ⊢
            have HRW := hide (cellsAt_go HR.out hbW hs2)
            have HBW := hide (HB.out.trans (hbW.mono HB.out.size))
            have HPW := hide hW0
            have HRTW : Hid (RtS (w.heap.size + 2) P W a1 n1 c1 (sg [] (restL pa.data.toList))) := hide ⟨(rts_go HRT0.out hbW).1, fun k hk => by have := HRT0.out.2 k hk; omega⟩
            have hsW2 : P < W.heap.size := by omega
            clear HRT0 k0 k1 k2 k3 k4 k5 r0 r1 r2 r3 r4 r5 r6 r7 r8 r9 hfz hfk hW hP hbW hW0 hsW HK HR HB HFIN C hs2
            obtain ⟨i0, hi, hz9, hz8, hz7⟩ := info_parts infoFld
            go_loopw [51] (fun i wr => ∃ (q fc : Nat) (fa : Option Addr) (F : List Fq), q ≤ fm ∧ i = .int .i64 q ∧ P < wr.heap.size ∧ Hid (CellsAt wr (w.heap.size + 1) #[.string ⟨#[]⟩, .int .i64 0, .string ⟨#[]⟩, .string ⟨#[]⟩, .slice none 0 0, .string ⟨#[]⟩, .bool false, .slice none 0 0, .slice none 0 0, .int .i64 0]) ∧ Hid (CellsAt wr P #[.string nm, .int .i64 kd, .string on, .string pa, .slice ad fm cp, .string re, .bool d, .slice a1 n1 c1, .slice fa q fc, .int .i64 0]) ∧ Hid (wr.ownsRow (P + 1) 69 3 (.slice fa q fc) q (F.flatMap fqV)) ∧ Hid (Below w.heap.size w wr) ∧ Hid (F.length = q ∧ ∀ i, i < q → fld (fl[i]?.getD ⟨#[]⟩).data.toList = some (fqA F i).q) ∧ Hid (FqS (P + 1) wr F) ∧ Hid (RtS (w.heap.size + 2) P wr a1 n1 c1 (sg [] (restL pa.data.toList)))) (fun i _ => fm - (intOf i).toNat)
            case atStart => exact ⟨0, 0, none, [], Nat.zero_le _, rfl, hsW2, HRW, HPW, hide ⟨rfl, .inl ⟨rfl, rfl⟩⟩, HBW, hide ⟨rfl, fun i h => by omega⟩, hide (fun f hf => by cases hf), HRTW⟩
            case round =>
              obtain ⟨q, fc, fa, F, hq, rfl, hPs, HR3, HP3, HO3, HB3, HFA, HFS, HRT⟩ := hrel
              by_cases hq2 : q < fm
              · obtain ⟨b', off', ha', hb', ht'⟩ := HAT.out (fun e => by have := HFM.out; rw [e] at this; simp at this; omega)
                have hqi : (q : Int) < fm := by omega
                have t0 := (HB3.out.cell (p := ⟨b', off' + q, none⟩) hb').trans (ht' q (by rw [HFM.out]; exact hq2))
                have zq := HZ5.out q hq2
                obtain ⟨f, hf⟩ : ∃ f, fl[q]?.getD ⟨#[]⟩ = f := ⟨_, rfl⟩
                rw [hf] at t0 zq
                have HFQ := hide hf
                have CF := hide (i_field f wr zq (maxL_go HM.out HB3.out (Nat.le_refl _)))
                subst ha'
                clear hf hb' ht'
                go_wp2_with fail
                refine CF.out.mono ?_
                rintro e w5 ⟨hb5, h⟩
                have HB5 := hide (HB3.out.trans (hb5.mono HB3.out.size))
                have hs5 : P < w5.heap.size := Nat.lt_of_lt_of_le hPs hb5.size
                have HR5 := hide (cellsAt_go HR3.out hb5 (by omega))
                have HP5 := hide (cellsAt_go HP3.out hb5 hPs)
                have HO5 := hide (gOwn_after HO3.out hb5)
                have HFS5 := hide (fqs_go HFS.out hb5)
                have HRT5 := hide (rts_go HRT.out hb5)
                clear hb5
                rcases h with ⟨x, aa, cc, hfx, rfl, hnr⟩ | ⟨hfx, rfl⟩
                · have HOK : Hid ((F ++ [(⟨aa, cc, x⟩ : Fq)]).length = q + 1 ∧ ∀ i, i < q + 1 → fld (fl[i]?.getD ⟨#[]⟩).data.toList = some (fqA (F ++ [(⟨aa, cc, x⟩ : Fq)]) i).q) := hide ⟨by rw [List.length_append, HFA.out.1]; rfl, fun i hi => by
                    rw [fqA_new HFA.out.1]
                    by_cases e : i = q
                    · subst e; rw [if_pos rfl, HFQ.out]; exact hfx
                    · rw [if_neg e]; exact HFA.out.2 i (by omega)⟩
                  have HNR : Hid (w5.ownsRow (P + 1) 9 1 (.slice aa x.1.length cc) x.1.length (strV x.1)) := hide (gOwn_lower hnr hPs)
                  have HXV : Hid (F.flatMap fqV ++ [.bool false, .slice aa x.1.length cc, .string ⟨x.2.toArray⟩] = (F ++ [(⟨aa, cc, x⟩ : Fq)]).flatMap fqV) := hide (by rw [List.flatMap_append]; simp [fqV])
                  clear hnr
                  obtain ⟨nn, hnn⟩ : ∃ nn, x.1.length = nn := ⟨_, rfl⟩
                  obtain ⟨tt, htt⟩ : ∃ tt : ByteArray, (⟨x.2.toArray⟩ : ByteArray) = tt := ⟨_, rfl⟩
                  rw [hnn, htt]
                  rw [hnn, htt] at HXV
                  have HNR0 : Hid (∃ k, k = nn ∧ x.1.length = k) := hide ⟨nn, rfl, hnn⟩
                  clear hnn htt hfx
                  have p8 : w5.cell? ⟨P, 8, none⟩ = some (.slice fa q fc) := cellsAt_cell HP5.out 8
                  have pf := cellsAt_frozen HP5.out
                  have p8a : ∀ o : Obj, (w5.alloc o).cell? ⟨P, 8, none⟩ = some (.slice fa q fc) := fun o => cellsAt_cell (cellsAt_go HP5.out ((Below.refl _ _).alloc (Nat.le_refl _) o) hs5) 8
                  obtain ⟨w6, hw6⟩ : ∃ w6, w5.alloc (.cells #[.bool false, .slice aa nn cc, .string tt] 69) = w6 := ⟨_, rfl⟩
                  have hb6 : Below w5.heap.size w5 w6 := by rw [← hw6]; exact (Below.refl _ _).alloc (Nat.le_refl _) _
                  have HB6 := hide (HB5.out.trans (hb6.mono HB5.out.size))
                  have hs6 : P < w6.heap.size := Nat.lt_of_lt_of_le hs5 hb6.size
                  have HR6 := hide (cellsAt_go HR5.out hb6 (by omega))
                  have HP6 := hide (cellsAt_go HP5.out hb6 hs5)
                  have HO6 := hide (gOwn_after HO5.out hb6)
                  have HFS6 := hide (fqs_put (f := ⟨aa, cc, x⟩) (fqs_go HFS5.out hb6) (gOwn_after HNR.out hb6))
                  have HRT6 := hide (rts_go HRT5.out hb6)
                  have hs65 : w6.heap.size = w5.heap.size + 1 := by rw [← hw6]; simp
                  have g8 : w6.cell? ⟨P, 8, none⟩ = some (.slice fa q fc) := cellsAt_cell HP6.out 8
                  have hFB : CellsAt w6 w5.heap.size #[.bool false, .slice aa nn cc, .string tt] := by rw [← hw6]; exact cellsAt_new _ _ _
                  have g0 : w6.cell? ⟨w5.heap.size, 0, none⟩ = some (.bool false) := cellsAt_cell hFB 0
                  have g1 : w6.cell? ⟨w5.heap.size, 1, none⟩ = some (.slice aa nn cc) := cellsAt_cell hFB 1
                  have g2 : w6.cell? ⟨w5.heap.size, 2, none⟩ = some (.string tt) := cellsAt_cell hFB 2
                  clear hFB p8a
                  have HS65 := hide hs65
                  clear hs65
                  go_wp2_with (first | (at_builtin; refine wpList_append_own _ rfl (.tmp 64) (.tmp 66) 57 rfl (P + 1) 69 i0 (.agg #[.bool false, .slice none 0 0, .string ⟨#[]⟩]) 3 48 Tryz.underlying57 hi hz9 hz8 hz7 rfl (by decide) _ _ _ rfl (HO6.out.alloc _) ⟨w6.heap.size, 0, none⟩ 1 1 [.bool false, .slice aa nn cc, .string tt] rfl rfl (fun j u hj => gThree_new w6 _ _ _ _ j u hj) (gFld_three _ _ _ _ _) (by unfold maxLen; omega) (by omega) (by simp; omega) ?_; intro v2 w7 hown2 hgrow2 _; obtain ⟨ad2, c2', hv2⟩ := gOwn_shape hown2; rw [hv2] at hown2 ⊢; clear hv2; have hb7 := gBelow_at (by omega) HO6.out hgrow2; have HB7 := hide (HB6.out.trans (hb7.mono (by omega))); have hs7 : P < w7.heap.size := Nat.lt_of_lt_of_le hs6 hb7.size; have HR7 := hide (cellsAt_go HR6.out hb7 (by omega)); have HP7 := hide (cellsAt_go HP6.out hb7 (by omega)); have pz8 := cellsAt_cell HP7.out 8; have pzf := cellsAt_frozen HP7.out; have HFS7 := hide (fqs_grown HFS6.out HO6.out (by decide) hgrow2); have HRT7 := hide (rts_grown HRT6.out HO6.out (by decide) hgrow2); rw [HXV.out] at hown2; have HO7 := hide hown2; simp at pz8; clear hown2 hgrow2 hb7))
                  go_roundw
                  case rel => exact ⟨q + 1, c2', ad2, F ++ [(⟨aa, cc, x⟩ : Fq)], by omega, by go_num, by simp; exact hs7, hide (cellsAt_far HR7.out _ (by show P ≠ w.heap.size + 1; omega)), hide (by have h9 := cellsAt_set (i := 8) HP7.out (.slice ad2 (q + 1) c2'); exact h9), hide (gOwn_set HO7.out _ _ (pf_ne HO7.out)), hide (HB7.out.setCell (p := ⟨P, 8, none⟩) (by show w.heap.size ≤ P; omega) _), HOK, hide (fqs_set HFS7.out _ _ (Nat.lt_succ_self P)), hide (rts_set HRT7.out _ _ (.inr (Nat.le_refl P)))⟩
                  case measure => simp [intOf]; omega
                · have HNO : Hid (¬ KeyOne ⟨nm, kd, on, pa, fl, re⟩) := hide (fun h => by
                    have := h.2.2.2.2.2 q
                    simp only at this
                    rw [HFQ.out, hfx] at this
                    exact absurd (this (by rw [HFM.out]; exact hq2)) (by decide))
                  have rr0 : w5.cell? ⟨w.heap.size + 1, 0, none⟩ = some (.string ⟨#[]⟩) := cellsAt_cell HR5.out 0
                  have rr1 : w5.cell? ⟨w.heap.size + 1, 1, none⟩ = some (.int .i64 0) := cellsAt_cell HR5.out 1
                  have rr2 : w5.cell? ⟨w.heap.size + 1, 2, none⟩ = some (.string ⟨#[]⟩) := cellsAt_cell HR5.out 2
                  have rr3 : w5.cell? ⟨w.heap.size + 1, 3, none⟩ = some (.string ⟨#[]⟩) := cellsAt_cell HR5.out 3
                  have rr4 : w5.cell? ⟨w.heap.size + 1, 4, none⟩ = some (.slice none 0 0) := cellsAt_cell HR5.out 4
                  have rr5 : w5.cell? ⟨w.heap.size + 1, 5, none⟩ = some (.string ⟨#[]⟩) := cellsAt_cell HR5.out 5
                  have rr6 : w5.cell? ⟨w.heap.size + 1, 6, none⟩ = some (.bool false) := cellsAt_cell HR5.out 6
                  have rr7 : w5.cell? ⟨w.heap.size + 1, 7, none⟩ = some (.slice none 0 0) := cellsAt_cell HR5.out 7
                  have rr8 : w5.cell? ⟨w.heap.size + 1, 8, none⟩ = some (.slice none 0 0) := cellsAt_cell HR5.out 8
                  have rr9 : w5.cell? ⟨w.heap.size + 1, 9, none⟩ = some (.int .i64 0) := cellsAt_cell HR5.out 9
                  have hrf := cellsAt_frozen HR5.out
                  have FIN : ∀ o, CellsAt (((((((((((w5.setCell ⟨w.heap.size + 1, 0, none⟩ (.string ⟨#[]⟩)).setCell ⟨w.heap.size + 1, 1, none⟩ (.int .i64 0)).setCell ⟨w.heap.size + 1, 2, none⟩ (.string ⟨#[]⟩)).setCell ⟨w.heap.size + 1, 3, none⟩ (.string ⟨#[]⟩)).setCell ⟨w.heap.size + 1, 4, none⟩ (.slice none 0 0)).setCell ⟨w.heap.size + 1, 5, none⟩ (.string ⟨#[]⟩)).setCell ⟨w.heap.size + 1, 6, none⟩ (.bool false)).setCell ⟨w.heap.size + 1, 7, none⟩ (.slice none 0 0)).setCell ⟨w.heap.size + 1, 8, none⟩ (.slice none 0 0)).setCell ⟨w.heap.size + 1, 9, none⟩ (.int .i64 0)).alloc o) (w.heap.size + 1) #[.string ⟨#[]⟩, .int .i64 0, .string ⟨#[]⟩, .string ⟨#[]⟩, .slice none 0 0, .string ⟨#[]⟩, .bool false, .slice none 0 0, .slice none 0 0, .int .i64 0] ∧ Below w.heap.size w (((((((((((w5.setCell ⟨w.heap.size + 1, 0, none⟩ (.string ⟨#[]⟩)).setCell ⟨w.heap.size + 1, 1, none⟩ (.int .i64 0)).setCell ⟨w.heap.size + 1, 2, none⟩ (.string ⟨#[]⟩)).setCell ⟨w.heap.size + 1, 3, none⟩ (.string ⟨#[]⟩)).setCell ⟨w.heap.size + 1, 4, none⟩ (.slice none 0 0)).setCell ⟨w.heap.size + 1, 5, none⟩ (.string ⟨#[]⟩)).setCell ⟨w.heap.size + 1, 6, none⟩ (.bool false)).setCell ⟨w.heap.size + 1, 7, none⟩ (.slice none 0 0)).setCell ⟨w.heap.size + 1, 8, none⟩ (.slice none 0 0)).setCell ⟨w.heap.size + 1, 9, none⟩ (.int .i64 0)).alloc o) := fun o => by
                    have h1 := cells_put10 HR5.out (.string ⟨#[]⟩) (.int .i64 0) (.string ⟨#[]⟩) (.string ⟨#[]⟩) (.slice none 0 0) (.string ⟨#[]⟩) (.bool false) (.slice none 0 0) (.slice none 0 0) (.int .i64 0)
                    have h2 := below_put10 HB5.out (R := w.heap.size + 1) (by omega) (.string ⟨#[]⟩) (.int .i64 0) (.string ⟨#[]⟩) (.string ⟨#[]⟩) (.slice none 0 0) (.string ⟨#[]⟩) (.bool false) (.slice none 0 0) (.slice none 0 0) (.int .i64 0)
                    exact ⟨cellsAt_go h1 ((Below.refl _ _).alloc (Nat.le_refl _) o) (cellsAt_lt h1), h2.alloc h2.size o⟩
                  have HFIN := hide FIN
                  have hs51 : w.heap.size + 1 < w5.heap.size := by omega
                  clear FIN hfx
                  go_wp2
                  obtain ⟨hcz, hbz⟩ := HFIN.out (.cells #[.bool false, .slice none 0 0, .string ⟨#[]⟩] 69)
                  have y0 := cellsAt_cell hcz 0
                  have y1 := cellsAt_cell hcz 1
                  have y2 := cellsAt_cell hcz 2
                  have y3 := cellsAt_cell hcz 3
                  have y4 := cellsAt_cell hcz 4
                  have y5 := cellsAt_cell hcz 5
                  have y6 := cellsAt_cell hcz 6
                  have y7 := cellsAt_cell hcz 7
                  have y8 := cellsAt_cell hcz 8
                  have y9 := cellsAt_cell hcz 9
                  exact bodyPost_ret (v := .tuple #[.agg #[.string ⟨#[]⟩, .int .i64 0, .string ⟨#[]⟩, .string ⟨#[]⟩, .slice none 0 0, .string ⟨#[]⟩, .bool false, .slice none 0 0, .slice none 0 0, .int .i64 0], .bool false]) (by simp [results, Tryz.results24, go_sem, y0, y1, y2, y3, y4, y5, y6, y7, y8, y9]) rfl (plan_no2 hbz HNO.out)
              · have hqm : q = fm := by omega
                subst hqm
                have rr0 : wr.cell? ⟨w.heap.size + 1, 0, none⟩ = some (.string ⟨#[]⟩) := cellsAt_cell HR3.out 0
                have rr1 : wr.cell? ⟨w.heap.size + 1, 1, none⟩ = some (.int .i64 0) := cellsAt_cell HR3.out 1
                have rr2 : wr.cell? ⟨w.heap.size + 1, 2, none⟩ = some (.string ⟨#[]⟩) := cellsAt_cell HR3.out 2
                have rr3 : wr.cell? ⟨w.heap.size + 1, 3, none⟩ = some (.string ⟨#[]⟩) := cellsAt_cell HR3.out 3
                have rr4 : wr.cell? ⟨w.heap.size + 1, 4, none⟩ = some (.slice none 0 0) := cellsAt_cell HR3.out 4
                have rr5 : wr.cell? ⟨w.heap.size + 1, 5, none⟩ = some (.string ⟨#[]⟩) := cellsAt_cell HR3.out 5
                have rr6 : wr.cell? ⟨w.heap.size + 1, 6, none⟩ = some (.bool false) := cellsAt_cell HR3.out 6
                have rr7 : wr.cell? ⟨w.heap.size + 1, 7, none⟩ = some (.slice none 0 0) := cellsAt_cell HR3.out 7
                have rr8 : wr.cell? ⟨w.heap.size + 1, 8, none⟩ = some (.slice none 0 0) := cellsAt_cell HR3.out 8
                have rr9 : wr.cell? ⟨w.heap.size + 1, 9, none⟩ = some (.int .i64 0) := cellsAt_cell HR3.out 9
                have pp0 : wr.cell? ⟨P, 0, none⟩ = some (.string nm) := cellsAt_cell HP3.out 0
                have pp1 : wr.cell? ⟨P, 1, none⟩ = some (.int .i64 kd) := cellsAt_cell HP3.out 1
                have pp2 : wr.cell? ⟨P, 2, none⟩ = some (.string on) := cellsAt_cell HP3.out 2
                have pp3 : wr.cell? ⟨P, 3, none⟩ = some (.string pa) := cellsAt_cell HP3.out 3
                have pp4 : wr.cell? ⟨P, 4, none⟩ = some (.slice ad q cp) := cellsAt_cell HP3.out 4
                have pp5 : wr.cell? ⟨P, 5, none⟩ = some (.string re) := cellsAt_cell HP3.out 5
                have pp6 : wr.cell? ⟨P, 6, none⟩ = some (.bool d) := cellsAt_cell HP3.out 6
                have pp7 : wr.cell? ⟨P, 7, none⟩ = some (.slice a1 n1 c1) := cellsAt_cell HP3.out 7
                have pp8 : wr.cell? ⟨P, 8, none⟩ = some (.slice fa q fc) := cellsAt_cell HP3.out 8
                have pp9 : wr.cell? ⟨P, 9, none⟩ = some (.int .i64 0) := cellsAt_cell HP3.out 9
                have hrf := cellsAt_frozen HR3.out
                have hp1 : w.heap.size + 1 < wr.heap.size := by omega
                have hYES : KeyOne ⟨nm, kd, on, pa, fl, re⟩ := ⟨hn1, hkd, hn2, hr, by show 1 ≤ fl.length ∧ fl.length ≤ 4; rw [HFM.out]; exact hfm, fun j hj => by show (fld (fl[j]?.getD ⟨#[]⟩).data.toList).isSome = true; rw [HFA.out.2 j (by rw [← HFM.out]; exact hj)]; rfl⟩
                have HYES := hide hYES
                have h1 := cells_put10 HR3.out (.string nm) (.int .i64 kd) (.string on) (.string pa) (.slice ad q cp) (.string re) (.bool d) (.slice a1 n1 c1) (.slice fa q fc) (.int .i64 0)
                have h2 := below_put10 HB3.out (R := w.heap.size + 1) (by omega) (.string nm) (.int .i64 kd) (.string on) (.string pa) (.slice ad q cp) (.string re) (.bool d) (.slice a1 n1 c1) (.slice fa q fc) (.int .i64 0)
                have HC1 := hide h1
                have HB1 := hide h2
                clear h1 h2 hYES
                go_wp2
                have y0 := cellsAt_cell HC1.out 0
                have y1 := cellsAt_cell HC1.out 1
                have y2 := cellsAt_cell HC1.out 2
                have y3 := cellsAt_cell HC1.out 3
                have y4 := cellsAt_cell HC1.out 4
                have y5 := cellsAt_cell HC1.out 5
                have y6 := cellsAt_cell HC1.out 6
                have y7 := cellsAt_cell HC1.out 7
                have y8 := cellsAt_cell HC1.out 8
                have y9 := cellsAt_cell HC1.out 9
                refine bodyPost_ret (v := .tuple #[.agg #[.string nm, .int .i64 kd, .string on, .string pa, .slice ad q cp, .string re, .bool d, .slice a1 n1 c1, .slice fa q fc, .int .i64 0], .bool true]) (by simp [results, Tryz.results24, go_sem, y0, y1, y2, y3, y4, y5, y6, y7, y8, y9]) rfl ⟨HB1.out, .inl ⟨HYES.out, a1, c1, fa, fc, F, ?_, ?_, ?_, ?_, ?_, ?_⟩⟩
                · show Ending.returned _ = Ending.returned (.tuple #[.agg (plV ⟨⟨nm, kd, on, pa, fl, re⟩, ad, cp, deepL pa.data.toList, a1, cntN (restL pa.data.toList), c1, fa, fc, 0⟩).toArray, .bool true])
                  rw [HD1.out, HN1.out]
                  unfold plV
                  simp only
                  rw [HFM.out]
                · show World.ownsRow _ _ _ _ (.slice a1 (cntN (restL pa.data.toList)) c1) (cntN (restL pa.data.toList)) _
                  rw [HN1.out]
                  exact gOwn_lower (rts_put10 HRT.out (by omega) _ _ _ _ _ _ _ _ _ _).1 (by omega)
                · show F.length = fl.length
                  rw [HFM.out]; exact HFA.out.1
                · intro i hi
                  exact HFA.out.2 i (by have h9 : i < fl.length := hi; rw [HFM.out] at h9; exact h9)
                · show World.ownsRow _ _ _ _ (.slice fa fl.length fc) fl.length _
                  rw [HFM.out]
                  exact gOwn_lower (own_put10 HO3.out (by omega) _ _ _ _ _ _ _ _ _ _) (by omega)
                · exact fqs_low (fqs_put10 HFS.out (by omega) _ _ _ _ _ _ _ _ _ _) (by omega)
          · have hfmr : ¬ ((1 : Int) ≤ (fm : Int) ∧ (fm : Int) ≤ 4) := by omega
            have HNO : Hid (¬ KeyOne ⟨nm, kd, on, pa, fl, re⟩) := hide (fun h => hfm (by have := h.2.2.2.2.1; have h2 := HFM.out; simp only at this; omega))
            go_wp2_with (first | (go_at_call 49; refine (i_name _ _ (by assumption)).mono ?_; rintro e w9 ⟨rfl, h9⟩; rw [h9]; clear h9 w9; first | rw [hn1] | rw [hn2]) | (go_at_call_of 50 (Value.int .i64 kd); refine (ik_inT _ _ _ _ hkd).mono ?_; rintro e w9 ⟨rfl, h9⟩; rw [h9]; clear h9 w9) | (go_at_call_of 50 (Value.int .i64 (fm : Int)); refine (ik_inF _ _ _ _ hfmr).mono ?_; rintro e w9 ⟨rfl, h9⟩; rw [h9]; clear h9 w9))
            obtain ⟨hcz, hbz⟩ := HFIN.out (.cells #[.bool d, .slice a1 n1 c1] 56)
            have y0 := cellsAt_cell hcz 0
            have y1 := cellsAt_cell hcz 1
            have y2 := cellsAt_cell hcz 2
            have y3 := cellsAt_cell hcz 3
            have y4 := cellsAt_cell hcz 4
            have y5 := cellsAt_cell hcz 5
            have y6 := cellsAt_cell hcz 6
            have y7 := cellsAt_cell hcz 7
            have y8 := cellsAt_cell hcz 8
            have y9 := cellsAt_cell hcz 9
            exact bodyPost_ret (v := .tuple #[.agg #[.string ⟨#[]⟩, .int .i64 0, .string ⟨#[]⟩, .string ⟨#[]⟩, .slice none 0 0, .string ⟨#[]⟩, .bool false, .slice none 0 0, .slice none 0 0, .int .i64 0], .bool false]) (by simp [results, Tryz.results24, go_sem, y0, y1, y2, y3, y4, y5, y6, y7, y8, y9]) rfl (plan_no2 hbz HNO.out)
        · have HNO : Hid (¬ KeyOne ⟨nm, kd, on, pa, fl, re⟩) := hide (fun h => hkd h.2.1)
          go_wp2_with (first | (go_at_call 49; refine (i_name _ _ (by assumption)).mono ?_; rintro e w9 ⟨rfl, h9⟩; rw [h9]; clear h9 w9; first | rw [hn1] | rw [hn2]) | (go_at_call_of 50 (Value.int .i64 kd); refine (ik_inF _ _ _ _ hkd).mono ?_; rintro e w9 ⟨rfl, h9⟩; rw [h9]; clear h9 w9))
          obtain ⟨hcz, hbz⟩ := HFIN.out (.cells #[.bool d, .slice a1 n1 c1] 56)
          have y0 := cellsAt_cell hcz 0
          have y1 := cellsAt_cell hcz 1
          have y2 := cellsAt_cell hcz 2
          have y3 := cellsAt_cell hcz 3
          have y4 := cellsAt_cell hcz 4
          have y5 := cellsAt_cell hcz 5
          have y6 := cellsAt_cell hcz 6
          have y7 := cellsAt_cell hcz 7
          have y8 := cellsAt_cell hcz 8
          have y9 := cellsAt_cell hcz 9
          exact bodyPost_ret (v := .tuple #[.agg #[.string ⟨#[]⟩, .int .i64 0, .string ⟨#[]⟩, .string ⟨#[]⟩, .slice none 0 0, .string ⟨#[]⟩, .bool false, .slice none 0 0, .slice none 0 0, .int .i64 0], .bool false]) (by simp [results, Tryz.results24, go_sem, y0, y1, y2, y3, y4, y5, y6, y7, y8, y9]) rfl (plan_no2 hbz HNO.out)
  · have HNO : Hid (¬ KeyOne ⟨nm, kd, on, pa, fl, re⟩) := hide (fun h => absurd (hr.symm.trans h.2.2.2.1) (by decide))
    clear hr
    go_wp2
    obtain ⟨hcz, hbz⟩ := HFIN.out (.cells #[.bool false, .slice none 0 0] 56)
    have y0 := cellsAt_cell hcz 0
    have y1 := cellsAt_cell hcz 1
    have y2 := cellsAt_cell hcz 2
    have y3 := cellsAt_cell hcz 3
    have y4 := cellsAt_cell hcz 4
    have y5 := cellsAt_cell hcz 5
    have y6 := cellsAt_cell hcz 6
    have y7 := cellsAt_cell hcz 7
    have y8 := cellsAt_cell hcz 8
    have y9 := cellsAt_cell hcz 9
    exact bodyPost_ret (v := .tuple #[.agg #[.string ⟨#[]⟩, .int .i64 0, .string ⟨#[]⟩, .string ⟨#[]⟩, .slice none 0 0, .string ⟨#[]⟩, .bool false, .slice none 0 0, .slice none 0 0, .int .i64 0], .bool false]) (by simp [results, Tryz.results24, go_sem, y0, y1, y2, y3, y4, y5, y6, y7, y8, y9]) rfl (plan_no2 hbz HNO.out)
end Go.Proofs.YtdepgkpfibmbgaaGreatDoor
