/-
  Plain facts, of no program: one nought taken from the end of digits, or from their beginning.
-/
import Derived.Test.YtdglamiifcagoacDoorNormMath
namespace Go.Proofs.YtdglamiifcagoacDoor
theorem ext_list (t : ByteArray) (a b : Nat) : (t.extract a b).data.toList = (t.data.toList.drop a).take (b - a) := by
  simp [ByteArray.data_extract, Array.toList_extract, List.extract]
theorem list_snoc (t : ByteArray) (h : 0 < t.size) : t.data.toList = t.data.toList.take (t.size - 1) ++ [t[t.size - 1]] := by
  have hl : t.data.toList.length = t.size := by simp
  have := List.take_succ_eq_append_getElem (l := t.data.toList) (show t.size - 1 < t.data.toList.length by omega)
  rw [show t.size - 1 + 1 = t.data.toList.length by omega, List.take_length] at this
  exact this
theorem list_head (t : ByteArray) (h : 0 < t.size) : t.data.toList = t[0] :: t.data.toList.drop 1 := by
  have hl : t.data.toList.length = t.size := by simp
  have := List.drop_eq_getElem_cons (l := t.data.toList) (i := 0) (by omega)
  rw [List.drop_zero] at this
  exact this
theorem cut_last (t : ByteArray) (k : Nat) (v c : Nat) (h : 0 < t.size) (hk : 0 < k) (hd : dgL t.data.toList) (hz : (t[t.size - 1].toNat : Int) = 48) (hv : canonV (valL t.data.toList) k = canonV v c) :
    dgL (t.extract 0 (t.size - 1)).data.toList ∧ canonV (valL (t.extract 0 (t.size - 1)).data.toList) (k - 1) = canonV v c := by
  have e := list_snoc t h
  have e1 : (t.extract 0 (t.size - 1)).data.toList = t.data.toList.take (t.size - 1) := by rw [ext_list]; simp
  rw [e1]
  refine ⟨fun x hx => hd x (List.mem_of_mem_take hx), ?_⟩
  rw [← hv]
  conv => rhs; rw [e]
  rw [valL_snoc, show dgt t[t.size - 1] = 0 by unfold dgt; omega, Nat.add_zero, show k = (k - 1) + 1 by omega, canon_ten]
  congr 1
theorem cut_first (t : ByteArray) (h : 0 < t.size) (hd : dgL t.data.toList) (hz : (t[0].toNat : Int) = 48) :
    dgL (t.extract 1 t.size).data.toList ∧ valL (t.extract 1 t.size).data.toList = valL t.data.toList ∧ ((∀ u c, t.data.toList = u ++ [c] → c.toNat ≠ 48) → (t.extract 1 t.size).size = 0 ∨ ∀ u c, (t.extract 1 t.size).data.toList = u ++ [c] → c.toNat ≠ 48) := by
  have e := list_head t h
  have hl : t.data.toList.length = t.size := by simp
  have e1 : (t.extract 1 t.size).data.toList = t.data.toList.drop 1 := by rw [ext_list, List.take_of_length_le (by rw [List.length_drop]; omega)]
  rw [e1]
  refine ⟨fun x hx => hd x (List.mem_of_mem_drop hx), ?_, fun hlast => .inr fun u c hu => hlast (t[0] :: u) c (by rw [e, hu]; rfl)⟩
  conv => rhs; rw [e]
  rw [valL_cons, show dgt t[0] = 0 by unfold dgt; omega]; omega
theorem last_ne (t : ByteArray) (h : 0 < t.size) (hz : ¬ (t[t.size - 1].toNat : Int) = 48) : ∀ u c, t.data.toList = u ++ [c] → c.toNat ≠ 48 := by
  intro u c hu
  have e := list_snoc t h
  rw [hu] at e
  have := (List.append_inj' e rfl).2
  have h2 : c = t[t.size - 1] := by simpa using this
  rw [h2]; omega
theorem first_ne (t : ByteArray) (h : t.size = 0 ∨ ∃ h : 0 < t.size, ¬ (t[0].toNat : Int) = 48) : noLead t.data.toList := by
  intro c l hc
  rcases h with h | ⟨h, hz⟩
  · have hl : t.data.toList.length = t.size := by simp
    rw [hc] at hl; simp at hl; omega
  · have e := list_head t h
    rw [hc] at e
    have h2 : c = t[0] := by simpa using (List.cons.inj e).1
    rw [h2]; omega
end Go.Proofs.YtdglamiifcagoacDoor
