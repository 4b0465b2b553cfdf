/-
  Plain facts, of no program: a right number comes back from its text.
-/
import Derived.Test.YtdglamiifcagoacDoorRoundMath
namespace Go.Proofs.YtdglamiifcagoacDoor
theorem right_parts {n : Bool} {s : ByteArray} {c : Int} (h : decB n s c = true) : dgL s.data.toList ∧ noLead s.data.toList ∧ (c.toNat = 0 ∨ s.size = 0 ∨ ∀ u d, s.data.toList = u ++ [d] → d.toNat ≠ 48) := by
  obtain ⟨hs, hc0, hc1⟩ := decB_bounds h
  have hd := decB_digits h
  refine ⟨dgL_of s hd, ?_, ?_⟩
  · apply first_ne
    rcases (show s.size = 0 ∨ 0 < s.size by omega) with h0 | h0
    · exact .inl h0
    · refine .inr ⟨h0, fun e => ?_⟩
      rw [decB_first n s c h0 e] at h; simp at h
  · rcases (show s.size = 0 ∨ 0 < s.size by omega) with h0 | h0
    · exact .inr (.inl h0)
    · rw [decB_some n s c h0 hs hd hc0 hc1] at h
      simp only [Bool.and_eq_true, Bool.or_eq_true, decide_eq_true_eq] at h
      rcases h.2 with h2 | h2
      · left; omega
      · exact .inr (.inr (last_ne s h0 h2))
theorem decRes_self {n : Bool} {s : ByteArray} {c : Int} (h : decB n s c = true) : decRes n (valL s.data.toList) c.toNat = (n, s, c, true) := by
  obtain ⟨hs, hc0, hc1⟩ := decB_bounds h
  obtain ⟨h1, h2, h3⟩ := right_parts h
  have hcc : ((c.toNat : Nat) : Int) = c := by omega
  rw [norm_exit n s c.toNat (valL s.data.toList) c.toNat h1 h2 h3 rfl, hcc]
  by_cases h0 : s.size = 0
  · rw [if_pos h0]
    rw [decB_none n s c h0] at h
    simp only [Bool.and_eq_true, Bool.not_eq_true', decide_eq_true_eq] at h
    obtain ⟨rfl, rfl⟩ := h
    rw [ByteArray.size_eq_zero_iff.1 h0]
  · rw [if_neg h0, if_pos h]
theorem pad_dg {n : Bool} {s : ByteArray} {c : Int} (h : decB n s c = true) : digsB (padB s c) = true := by
  rw [digs_iff, padB, ba_toList_append, zerosB_list]
  exact dgL_app (dgL_zeros _) (dgL_of s (decB_digits h))
theorem pad_val (s : ByteArray) (c : Int) : valL (padB s c).data.toList = valL s.data.toList := by
  rw [padB, ba_toList_append, valL_app, zerosB_list, valL_zeros]; omega
theorem no_dot (l : List UInt8) (h : dgL l) : dotL l = l.length :=
  dotL_is l l.length (Nat.le_refl _) (fun j hj e => by
    rw [List.getElem?_eq_getElem hj] at e
    have := h _ (List.getElem_mem hj)
    rw [Option.some.inj e] at this
    exact absurd this (by decide)) (.inl rfl)
theorem mid_dot (a b : List UInt8) (h : dgL a) : dotL (a ++ 46 :: b) = a.length :=
  dotL_is _ _ (by simp) (fun j hj e => by
    rw [List.getElem?_append_left hj, List.getElem?_eq_getElem hj] at e
    have := h _ (List.getElem_mem hj)
    rw [Option.some.inj e] at this
    exact absurd this (by decide)) (.inr (by simp))
theorem point_list (P : ByteArray) (c : Int) : (pointB P c).data.toList = P.data.toList.take (P.size - c.toNat) ++ 46 :: P.data.toList.drop (P.size - c.toNat) := by
  have hl : P.data.toList.length = P.size := by simp
  have e1 : (P.extract 0 (P.size - c.toNat)).data.toList = P.data.toList.take (P.size - c.toNat) := by rw [ext_list]; simp
  have e2 : (P.extract (P.size - c.toNat) P.size).data.toList = P.data.toList.drop (P.size - c.toNat) := by rw [ext_list, List.take_of_length_le (by rw [List.length_drop]; omega)]
  rw [pointB, ba_toList_append, ba_toList_append, e1, e2]
  simp
/-- The text without its sign is read as the number. -/
theorem body_read {n : Bool} {s : ByteArray} {c : Int} (h : decB n s c = true) : readA n (bodyB s c) = (n, s, c, true) := by
  obtain ⟨hs, hc0, hc1⟩ := decB_bounds h
  have hdp := pad_dg h
  have hps := padB_size s c
  have hself := decRes_self h
  by_cases hc : c = 0
  · subst hc
    have hb : bodyB s 0 = padB s 0 := by rw [bodyB, if_pos rfl]
    have hl : (padB s 0).data.toList.length = (padB s 0).size := by simp
    have hdot := no_dot _ (dgL_of _ hdp)
    have hw : wholeA (padB s 0) = padB s 0 := by rw [wholeA, hdot, hl]; simp
    have hp : partA (padB s 0) = ByteArray.empty := ByteArray.size_eq_zero_iff.1 (by rw [partA, hdot, hl]; simp)
    have hbad : badA (padB s 0) = false := by
      have e : (padB s 0 ++ ByteArray.empty).size = (padB s 0).size := by simp
      rw [badA, hw, hp, hdp, e, decide_eq_false (show ¬ 180 < (padB s 0).size by omega), decide_eq_false (show ¬ (padB s 0).size = 0 by omega)]; rfl
    rw [hb, readA, if_neg (by rw [hbad]; simp), hw, hp]
    have e2 : (padB s 0 ++ ByteArray.empty).data.toList = (padB s 0).data.toList := by simp
    rw [e2, pad_val]
    exact hself
  · have hb : bodyB s c = pointB (padB s c) c := by rw [bodyB, if_neg hc]
    obtain ⟨P, hP⟩ : ∃ P, padB s c = P := ⟨_, rfl⟩
    rw [hP] at hdp hps hb
    obtain ⟨k, hk⟩ : ∃ k, P.size - c.toNat = k := ⟨_, rfl⟩
    have hkl : k ≤ P.size := by omega
    have hlP : P.data.toList.length = P.size := by simp
    have hlist : (pointB P c).data.toList = P.data.toList.take k ++ 46 :: P.data.toList.drop k := by
      rw [point_list, hk]
    have hdg : dgL P.data.toList := dgL_of _ hdp
    have hda : dgL (P.data.toList.take k) := fun d hd => hdg d (List.mem_of_mem_take hd)
    have hdb : dgL (P.data.toList.drop k) := fun d hd => hdg d (List.mem_of_mem_drop hd)
    have hdot : dotL (pointB P c).data.toList = k := by
      rw [hlist, mid_dot _ _ hda, List.length_take]; omega
    have hw : (wholeA (pointB P c)).data.toList = P.data.toList.take k := by
      rw [whole_list, hdot, hlist, List.take_append_of_le_length (by rw [List.length_take]; omega), List.take_take]
      congr 1; omega
    have hp : (partA (pointB P c)).data.toList = P.data.toList.drop k := by
      rw [part_list, hdot, hlist, List.drop_append]
      rw [List.drop_eq_nil_of_le (by rw [List.length_take]; omega), List.length_take, show k + 1 - min k P.data.toList.length = 1 by omega]
      rfl
    have hwp : wholeA (pointB P c) ++ partA (pointB P c) = P := by
      apply ba_ext; rw [ba_toList_append, hw, hp, List.take_append_drop]
    have hpsz : (partA (pointB P c)).size = c.toNat := by
      have e : (partA (pointB P c)).size = (partA (pointB P c)).data.toList.length := by simp
      rw [e, hp, List.length_drop]; omega
    have hsz : (pointB P c).size = P.size + 1 := by
      have e : (pointB P c).size = (pointB P c).data.toList.length := by simp
      rw [e, hlist]; simp; omega
    have hbad : badA (pointB P c) = false := by
      rw [badA, hwp, (digs_iff _).2 (by rw [hw]; exact hda), (digs_iff (partA (pointB P c))).2 (by rw [hp]; exact hdb), decide_eq_false (show ¬ 180 < (pointB P c).size by omega), decide_eq_false (show ¬ P.size = 0 by omega)]; rfl
    rw [hb, readA, if_neg (by rw [hbad]; simp), hwp, hpsz, ← hP, pad_val]
    exact hself
theorem body_size {n : Bool} {s : ByteArray} {c : Int} (h : decB n s c = true) : 0 < (bodyB s c).size ∧ (bodyB s c).size ≤ 180 ∧ 48 ≤ at8 (bodyB s c) 0 ∧ at8 (bodyB s c) 0 ≤ 57 := by
  obtain ⟨hs, hc0, hc1⟩ := decB_bounds h
  have hdp := pad_dg h
  have hps := padB_size s c
  obtain ⟨P, hP⟩ : ∃ P, padB s c = P := ⟨_, rfl⟩
  rw [hP] at hdp hps
  have hP0 : 0 < P.size := by omega
  have hf := digsB_at P hdp 0 hP0
  simp only [digitB, decide_eq_true_eq] at hf
  by_cases hc : c = 0
  · rw [bodyB, if_pos hc, hP]
    refine ⟨hP0, by omega, ?_, ?_⟩ <;> rw [at8_eq P 0 hP0] <;> omega
  · rw [bodyB, if_neg hc, hP]
    have hsz : (pointB P c).size = P.size + 1 := by
      have e1 : (⟨#[46]⟩ : ByteArray).size = 1 := rfl
      rw [pointB, ByteArray.size_append, ByteArray.size_append, e1]
      simp; omega
    have h0 : at8 (pointB P c) 0 = at8 P 0 := by
      have hk : 0 < P.size - c.toNat := by omega
      have e : (pointB P c).data.toList = P.data.toList.take (P.size - c.toNat) ++ 46 :: P.data.toList.drop (P.size - c.toNat) := point_list P c
      have hlP : P.data.toList.length = P.size := by simp
      unfold at8
      rw [e, List.getElem?_append_left (by rw [List.length_take]; omega), List.getElem?_take, if_pos hk]
    refine ⟨by omega, by omega, ?_, ?_⟩ <;> rw [h0, at8_eq P 0 hP0] <;> omega
/-- A right number comes back from its text. -/
theorem text_read {n : Bool} {s : ByteArray} {c : Int} (h : decB n s c = true) : readDecA (textB n s c) = (n, s, c, true) := by
  obtain ⟨h0, h1, h2, h3⟩ := body_size h
  rw [textB, if_pos h, readDecA]
  cases n
  · have e1 : negA (bodyB s c) = false := by simp only [negA, decide_eq_false_iff_not]; omega
    have e2 : restA (bodyB s c) = bodyB s c := by rw [restA, if_neg (by omega)]
    simp only [Bool.false_eq_true, if_false]
    rw [e1, e2]; exact body_read h
  · obtain ⟨B, hB⟩ : ∃ B, bodyB s c = B := ⟨_, rfl⟩
    rw [hB] at h0
    have hsz : ((⟨#[45]⟩ : ByteArray) ++ B).size = B.size + 1 := by
      have e1 : (⟨#[45]⟩ : ByteArray).size = 1 := rfl
      rw [ByteArray.size_append, e1]; omega
    have hat : at8 ((⟨#[45]⟩ : ByteArray) ++ B) 0 = 45 := by
      unfold at8
      rw [ba_toList_append]
      rfl
    have e1 : negA ((⟨#[45]⟩ : ByteArray) ++ B) = true := by simp only [negA, decide_eq_true_eq]; omega
    have e2 : restA ((⟨#[45]⟩ : ByteArray) ++ B) = B := by
      rw [restA, if_pos (by omega)]
      apply ba_ext
      have hl : ((⟨#[45]⟩ : ByteArray) ++ B).data.toList.length = ((⟨#[45]⟩ : ByteArray) ++ B).size := Array.length_toList
      rw [ext_list, List.take_of_length_le (by rw [List.length_drop]; omega), ba_toList_append]
      rfl
    simp only [if_true]
    rw [hB, e1, e2, ← hB]; exact body_read h
end Go.Proofs.YtdglamiifcagoacDoor
