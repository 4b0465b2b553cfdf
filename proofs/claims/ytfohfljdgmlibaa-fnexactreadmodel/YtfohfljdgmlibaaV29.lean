/-
  Plain facts: the text of a right model is read as that model, and a right model that was read has that text.
-/
import Derived.Test.YtfohfljdgmlibaaV18
import Derived.Test.YtfohfljdgmlibaaV28
namespace Go.Proofs.Ytfohfljdgmlibaa
set_option linter.unusedVariables false
set_option linter.unusedSimpArgs false
theorem txTs_map : ∀ ts : List Tr, txTs ts = ts.map txT
  | [] => by rw [txTs]; rfl
  | t :: ts => by rw [txTs, txTs_map ts]; rfl
theorem mt_tre {D : Pn} : ∀ (m i : Nat), i < m → Lo D i → mt D i = txT (tre D i)
  | 0, i, hm, hl => by omega
  | m + 1, i, hm, hl => by
    rw [mt_eq hl, tre_eq hl, txT, txTs_map, List.map_map]
    congr 2
    refine List.map_congr_left fun k hk => ?_
    have := hl i (Nat.le_refl _) k hk
    exact mt_tre m k.toNat (by omega) (lo_less hl (by omega))
/-- A tree's rows are a right model. -/
theorem pk_fl {t : Tr} (h1 : okT t) (h2 : (fl t emP).n ≤ 40) (h3 : dT t ≤ 10) (h4 : groupB (fl t emP) ((fl t emP).n - 1) = true) : pkB (fl t emP) = true := by
  have hn := (ext_fl t emP).2
  have e0 : emP.n = 0 := rfl
  have hlo := lo_fl t emP lo_emP
  have hl2 : Lo (fl t emP) ((fl t emP).n - 1) := hlo.lo (by omega)
  rw [pk_all (by omega) (fun j hj => fl_ok t emP _ h1 (Ext.refl _) j (Nat.zero_le _) hj)]
  have e1 : tr (fl t emP) ((fl t emP).n - 1) = some 0 := fl_tr t emP _ (Ext.refl _)
  have e3 : dq (fl t emP) ((fl t emP).n - 1) ≤ 10 := by
    rw [dq_tre _ _ (Nat.lt_succ_self _) hl2, fl_tre t emP _ (Ext.refl _) hlo]
    exact h3
  rw [e1, h4, decide_eq_true e3]
  rfl
/-- What a right model's rows tell of its tree. -/
theorem fl_pk {t : Tr} (h : pkB (fl t emP) = true) : okT t ∧ (fl t emP).n ≤ 40 ∧ dT t ≤ 10 := by
  obtain ⟨h1, h2, h3, h4, h5⟩ := pk_facts h
  have hlo := lo_fl t emP lo_emP
  have hl2 : Lo (fl t emP) ((fl t emP).n - 1) := hlo.lo (by omega)
  have ht := fl_tre t emP _ (Ext.refl _) hlo
  refine ⟨?_, h1.2, ?_⟩
  · have := tre_ok _ _ (Nat.lt_succ_self _) hl2 (fun j hj => h2 j (by omega))
    rw [ht] at this
    exact this
  · rw [dq_tre _ _ (Nat.lt_succ_self _) hl2, ht] at h5
    exact h5
/-- The text of a right model is read as that model. -/
theorem rm_text {D : Pn} (h : pkB D = true) : rdP (tre D (D.n - 1)) (mt D (D.n - 1)) [] ∧ Ext (fl (tre D (D.n - 1)) emP) D ∧ (fl (tre D (D.n - 1)) emP).n = D.n ∧ pkB (fl (tre D (D.n - 1)) emP) = true := by
  obtain ⟨h1, h2, h3, h4, h5⟩ := pk_facts h
  have hl1 : Lo D (D.n - 1) := (pk_loN h).lo (by omega)
  have hok := tre_ok _ _ (Nat.lt_succ_self _) hl1 (fun j hj => h2 j (by omega))
  obtain ⟨h6, h7⟩ := fl_back D.n (D.n - 1) 0 (by omega) (by omega) (pk_loN h) h3 emP rfl (ext_emP D)
  have hn : (fl (tre D (D.n - 1)) emP).n = D.n := by rw [h7]; omega
  refine ⟨?_, h6, hn, pk_fl hok (by omega) ?_ ?_⟩
  · have := rd_tx (tre D (D.n - 1)) [] hok stop_nil
    rw [List.append_nil, ← mt_tre _ _ (Nat.lt_succ_self _) hl1] at this
    exact this
  · rw [← dq_tre _ _ (Nat.lt_succ_self _) hl1]; exact h5
  · unfold groupB at h4 ⊢
    rw [hn, ← (h6.2 (D.n - 1) (by omega)).1]
    exact h4
/-- A right model that was read has the text that it was read from. -/
theorem rm_back {t : Tr} {u : List UInt8} (h : rdP t u []) (hp : pkB (fl t emP) = true) : mt (fl t emP) ((fl t emP).n - 1) = u := by
  have hlo := lo_fl t emP lo_emP
  have h1 := (pk_facts hp).1
  rw [mt_tre _ _ (Nat.lt_succ_self _) (hlo.lo (by omega)), fl_tre t emP _ (Ext.refl _) hlo, tx_rd t u [] h, List.append_nil]
end Go.Proofs.Ytfohfljdgmlibaa
