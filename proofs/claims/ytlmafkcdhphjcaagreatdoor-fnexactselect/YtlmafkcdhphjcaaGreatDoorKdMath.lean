/-
  Plain facts on documents as rows of items, of no program: the kids of an item, the text right below it.
-/
import Derived.Test.YtlmafkcdhphjcaaGreatDoorDocI
namespace Go.Proofs.YtlmafkcdhphjcaaGreatDoor
set_option linter.unusedVariables false
/-- The kids of x among the first m items. -/
def kd (D : Dc) (x : Int) : Nat → List Int
  | 0 => []
  | m + 1 => if D.U m = x then kd D x m ++ [(m : Int)] else kd D x m
theorem kd_yes {D : Dc} {x : Int} {m : Nat} (h : D.U m = x) : kd D x (m + 1) = kd D x m ++ [(m : Int)] := by rw [kd, if_pos h]
theorem kd_no {D : Dc} {x : Int} {m : Nat} (h : ¬ D.U m = x) : kd D x (m + 1) = kd D x m := by rw [kd, if_neg h]
theorem kd_len (D : Dc) (x : Int) : ∀ m, (kd D x m).length ≤ m
  | 0 => Nat.le_refl _
  | m + 1 => by
    have := kd_len D x m
    rw [kd]
    split
    · simp; omega
    · omega
theorem kd_mem {D : Dc} {x : Int} : ∀ (m : Nat) (j : Int), j ∈ kd D x m → 0 ≤ j ∧ j < m
  | 0, j, h => by cases h
  | m + 1, j, h => by
    rw [kd] at h
    split at h
    · rcases List.mem_append.1 h with h | h
      · have := kd_mem m j h; omega
      · simp at h; omega
    · have := kd_mem m j h; omega
/-- None of the items up to x is below x. -/
theorem kd_start {D : Dc} {x : Nat} (hd : ∀ j, j ≤ x → D.U j < j) : ∀ m, m ≤ x + 1 → kd D x m = []
  | 0, h => rfl
  | m + 1, h => by
    have := hd m (by omega)
    rw [kd_no (by omega), kd_start hd m (by omega)]
/-- The text right below x among the first m items. -/
def txF (D : Dc) (x : Int) : Nat → ByteArray
  | 0 => ⟨#[]⟩
  | m + 1 => if D.U m = x then txF D x m ++ D.TX m else txF D x m
theorem txF_yes {D : Dc} {x : Int} {m : Nat} (h : D.U m = x) : txF D x (m + 1) = txF D x m ++ D.TX m := by rw [txF, if_pos h]
theorem txF_no {D : Dc} {x : Int} {m : Nat} (h : ¬ D.U m = x) : txF D x (m + 1) = txF D x m := by rw [txF, if_neg h]
theorem txF_size (D : Dc) (x : Int) : ∀ m, (txF D x m).size ≤ sumN (szD D) m
  | 0 => Nat.le_refl _
  | m + 1 => by
    have := txF_size D x m
    have h2 : sumN (szD D) (m + 1) = sumN (szD D) m + szD D m := rfl
    have h3 : (D.TX m).size ≤ szD D m := by unfold szD; omega
    rw [txF]
    split
    · rw [ByteArray.size_append]; omega
    · omega
/-- The texts of some places, one behind the other. -/
def catT (D : Dc) : List Int → ByteArray
  | [] => ⟨#[]⟩
  | j :: l => D.TX j.toNat ++ catT D l
theorem catT_snoc (D : Dc) : ∀ (l : List Int) (j : Int), catT D (l ++ [j]) = catT D l ++ D.TX j.toNat
  | [], j => by show D.TX j.toNat ++ ByteArray.empty = ByteArray.empty ++ D.TX j.toNat; rw [ByteArray.append_empty, ByteArray.empty_append]
  | i :: l, j => by show D.TX i.toNat ++ catT D (l ++ [j]) = D.TX i.toNat ++ catT D l ++ D.TX j.toNat; rw [catT_snoc D l j, ByteArray.append_assoc]
theorem cat_kd (D : Dc) (x : Int) : ∀ m, catT D (kd D x m) = txF D x m
  | 0 => rfl
  | m + 1 => by
    rw [kd, txF]
    split
    · rw [catT_snoc, cat_kd D x m]; rfl
    · exact cat_kd D x m
theorem docok_facts {D : Dc} (h : docokB D = true) : (1 ≤ D.n ∧ D.n ≤ 200) ∧ (∀ j, j < D.n → itB D j = true) ∧ sumN (szD D) D.n ≤ 2500 := by
  unfold docokB at h
  simp only [Bool.and_eq_true, decide_eq_true_eq, List.all_eq_true, List.mem_range] at h
  exact ⟨h.1, h.2.1, h.2.2⟩
theorem docok_dec {D : Dc} (h : docokB D = true) : ∀ j, j < D.n → -1 ≤ D.U j ∧ D.U j < j := good_dec D.n (itB_good (docok_facts h).2.1)
def txOk (D : Dc) (x : Int) : Bool := docokB D && (decide (0 ≤ x ∧ x ≤ (D.n : Int) - 1) && !(D.NM x.toNat).toList.isEmpty)
def txV (D : Dc) (x : Int) : ByteArray := if txOk D x = true then txF D x D.n else ⟨#[]⟩
end Go.Proofs.YtlmafkcdhphjcaaGreatDoor
