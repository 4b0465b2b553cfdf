/-
  Contracts: the maps of all items' bindings, made by the program: scopesOf.
-/
import Derived.Test.YtogeicckbdfldaaDoorBnSc
namespace Go.Proofs.YtogeicckbdfldaaDoor
open Go.RowKit Go.Maps
set_option linter.unusedVariables false
set_option linter.unusedSimpArgs false
theorem own_set {w : World} {B : Nat} {v : Value} {n : Nat} {xs : List Value} (h : w.ownsRow B MT 1 v n xs) (p : Addr) (u : Value) (hne : v.ownBlock ≠ some p.block) : (w.setCell p u).ownsRow B MT 1 v n xs :=
  h.kept (row := some p.block) ⟨rfl, rfl, rfl, by simp [World.setCell], fun k _ hk => heap_setCell_far w p u k (fun e => hk (by rw [e]))⟩ (.inr hne)
set_option maxRecDepth 100000 in
set_option maxHeartbeats 4000000 in
theorem i_scopes (D : Dc) (n b off cap : Nat) (w : World) (hD : D.n = n) (hn : n ≤ 200) (hbs : b < w.heap.size) (hr : DcRow w b off D w.heap.size) (hac : ∀ j, j < n → D.AC j ≤ 1048576 ∧ ∀ i, i < D.AC j → (D.AN j i).size ≤ 1048576) :
    Calls Tryd.prog 37 #[.slice (some ⟨b, off, none⟩) n cap] w fun e w' => ∃ (sa : Option Addr) (c : Nat) (ms : List Nat), e = .returned (.agg #[.slice (some ⟨b, off, none⟩) n cap, .slice sa n c]) ∧ ms.length = n ∧ w'.ownsRow w.heap.size MT 1 (.slice sa n c) n (ms.map fun b => Value.map (some b)) ∧ MapsAt w' D ms ∧ Below w.heap.size w w' := by
  obtain ⟨i0, hi, hz0, hz1, hz2⟩ := info_parts infoM
  have HD := hide hD
  have HR := hide hr
  have HAC := hide hac
  clear hr hD hac
  go_enter Tryd.func37, Tryd.ntmps37
  go_wp2
  go_loopw [10] (fun i wr => ∃ k : Nat, k ≤ n ∧ i = .int .i64 k ∧ Hid (ScRel w wr D (.slice (some ⟨b, off, none⟩) n cap) k)) (fun i _ => n - (intOf i).toNat)
  case atStart =>
    refine ⟨0, Nat.zero_le _, rfl, hide ⟨[], rfl, ⟨Nat.le_succ _, .slice none 0 0, ?_, World.ownsRow_nil _ _ _ _, by simp [Value.ownBlock]⟩, fun j h => absurd h (Nat.not_lt_zero _), ?_, ?_⟩⟩
    · have h := heap_alloc_new (w.alloc (.cells #[.slice none 0 0, .slice none 0 0] ST)) (.cells #[.slice (some ⟨b, off, none⟩) n cap, .slice none 0 0] ST)
      simpa using h
    · exact ((Below.refl _ _).alloc (Nat.le_refl _) _).alloc (by simp) _
    · exact (Lib.alloc_old _ _ _ (by simp)).trans (heap_alloc_new w _)
  case round =>
    obtain ⟨k, hk, rfl, HRel⟩ := hrel
    by_cases hlt : k < n
    · obtain ⟨ms, hml, ⟨hB, v, hbk, hown, hne⟩, hms, hb, hrb⟩ := HRel.out
      have hlen : (ms.map fun b => Value.map (some b)).length = k := by simp [hml]
      rw [hlen] at hown
      obtain ⟨sa, cp, hv⟩ := sc_shape hown
      subst hv
      obtain ⟨ad, cpA, hcell, hat, hcp⟩ := HR.out k (by rw [HD.out]; omega)
      obtain ⟨c0, c1, c2, c3⟩ := dcCells_go hcell hbs hb
      obtain ⟨hac, han⟩ := HAC.out k hlt
      have hsz := hb.size
      have hSlt : w.heap.size + 1 < wr.heap.size := (Array.getElem?_eq_some_iff.1 hbk).1
      have s1 : ∀ o, (wr.alloc o).drew.cell? ⟨w.heap.size + 1, 1, none⟩ = some (.slice sa k cp) := fun o => by
        show (wr.alloc o).cell? _ = _
        rw [Lib.cell_of_heap ((Lib.alloc_old wr o _ hSlt).trans hbk)]; rfl
      have CB := hide (fun (o : Obj) => i_bindings ad (D.AC k) cpA (D.AN k) (D.AV k) (wr.alloc o).drew hac han (atAt_up (atAt_go hat (below_d1 (hb.alloc hb.size o))) (by show w.heap.size ≤ (wr.alloc o).heap.size; simp; omega)))
      have PK := hide (fun (w5 w6 : World) (o o5 : Obj) (v6 : Value) => sc_next (w := w) (wr := wr) (w5 := w5) (w6 := w6) (D := D) (v6 := v6) (o := o) (o5 := o5) hml hbk hown hne hms hb hrb)
      have HOW := hide hown
      have HBK := hide hbk
      have HNE := hide hne
      clear hcell hat hown hbk hne hms hb hlen hrb HRel
      go_wp2_with fail
      have hs4 := s1 (.cells #[.int .i64 (D.U k), .string (D.NM k), .string (D.TX k), .slice ad (D.AC k) cpA] 34)
      go_region_law (first
        | (go_simp; go_at_call 60; refine (CB.out _).mono ?_; rintro e w5 ⟨rfl, hmp, hb5⟩; have HMP := hide (map_5 hmp); have HB5 := hide (bel_5 hb5); have hsz5 : wr.heap.size + 1 ≤ w5.heap.size := (by have := HB5.out.size; simpa using this); have BK5 := hide ((HB5.out.block _ (by omega)).trans ((Lib.alloc_old wr _ _ hSlt).trans HBK.out)); have hs5 : w5.cell? ⟨w.heap.size + 1, 1, none⟩ = some (.slice sa k cp) := (by rw [Lib.cell_of_heap BK5.out]; rfl); have hs5a : ∀ o, (w5.alloc o).cell? ⟨w.heap.size + 1, 1, none⟩ = some (.slice sa k cp) := (fun o => by rw [Lib.cell_of_heap ((Lib.alloc_old w5 o _ (by omega)).trans BK5.out)]; rfl); have HO5 := hide (own_bel HOW.out (((Below.refl wr.heap.size wr).alloc (Nat.le_refl _) _).trans (HB5.out.mono (Nat.le_succ _)))); clear hmp hb5)
        | (refine step_append_lies _ (by rfl) _ _ _ (by rfl) w.heap.size MT i0 _ 1 8 Tryd.underlying60 hi hz0 hz1 hz2 rfl (by omega) (.slice sa k cp) k (ms.map fun b => Value.map (some b)) (by rfl) (HO5.out.alloc _) ⟨w5.heap.size, 0, none⟩ 1 1 [.map (some (wr.heap.size + 1))] (by rfl) (by rfl) (World.news_of_block (cs := #[.map (some (wr.heap.size + 1))]) (t := MT) (fr := (0, 0)) (heap_alloc_new w5 _)) (by simp [Value.oneCell']) (by omega) (by unfold maxLen; omega) (by omega) (by simp; omega) (w5.heap.size + 1) (by simp) ?_; intro gg cap' w6 hown6 hgrow6 hat6 hlt6; obtain ⟨bk6, hrel6⟩ := PK.out w5 w6 _ _ _ HB5.out HMP.out hgrow6 hown6; have d1 : w6.cell? ⟨w.heap.size + 1, 1, none⟩ = some (.slice sa k cp) := (by rw [Lib.cell_of_heap bk6]; rfl); have f1 := Lib.frozen_of_heap bk6 1; have HREL := hide hrel6; clear hown6 hgrow6 hat6 bk6 hrel6)
        | (fail))
      all_goals
        go_wp2
        go_roundw
        case rel => exact ⟨k + 1, by omega, by go_num, HREL⟩
        case measure => simp [intOf]; omega
    · have hkn : k = n := by omega
      subst hkn
      obtain ⟨ms, hml, ⟨hB, v, hbk, hown, hne⟩, hms, hb, hrb⟩ := HRel.out
      have hlen : (ms.map fun b => Value.map (some b)).length = k := by simp [hml]
      rw [hlen] at hown
      obtain ⟨sa, cp, hv⟩ := sc_shape hown
      subst hv
      have s0 : wr.cell? ⟨w.heap.size + 1, 0, none⟩ = some (.slice (some ⟨b, off, none⟩) k cap) := by rw [Lib.cell_of_heap hbk]; rfl
      have s1 : wr.cell? ⟨w.heap.size + 1, 1, none⟩ = some (.slice sa k cp) := by rw [Lib.cell_of_heap hbk]; rfl
      have r0 : wr.cell? ⟨w.heap.size, 0, none⟩ = some (.slice none 0 0) := by rw [Lib.cell_of_heap hrb]; rfl
      have r1 : wr.cell? ⟨w.heap.size, 1, none⟩ = some (.slice none 0 0) := by rw [Lib.cell_of_heap hrb]; rfl
      have f0 := Lib.frozen_of_heap hrb 0
      have f1 := Lib.frozen_of_heap hrb 1
      have HOW := hide hown
      have HBK := hide hbk
      have HMS := hide hms
      have HB9 := hide hb
      have HRB := hide hrb
      clear hown hbk hms hb hrb HRel
      go_wp2
      refine bodyPost_ret (v := .agg #[.slice (some ⟨b, off, none⟩) k cap, .slice sa k cp]) (by simp [results, Tryd.results37, go_sem, r0, r1, f0, f1]) rfl ⟨sa, cp, ms, rfl, hml, ?_, ?_, ?_⟩
      · exact own_set (own_set HOW.out ⟨w.heap.size, 0, none⟩ _ (Lib.ownBlock_ne HOW.out HRB.out (by decide))) ⟨w.heap.size, 1, none⟩ _ (Lib.ownBlock_ne HOW.out HRB.out (by decide))
      · intro j hj
        have hnb := map_block (HMS.out j hj) HRB.out
        exact map_set (map_set (HMS.out j hj) ⟨w.heap.size, 0, none⟩ _ hnb) ⟨w.heap.size, 1, none⟩ _ hnb
      · exact (HB9.out.setCell (p := ⟨w.heap.size, 0, none⟩) (Nat.le_refl _) _).setCell (p := ⟨w.heap.size, 1, none⟩) (Nat.le_refl _) _
end Go.Proofs.YtogeicckbdfldaaDoor
