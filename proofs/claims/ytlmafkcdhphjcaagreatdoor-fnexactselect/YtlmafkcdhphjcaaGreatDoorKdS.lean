/-
  Contracts: the kids of an item, and the text right below it, by the specification.
-/
import Derived.Test.YtlmafkcdhphjcaaGreatDoorKdMath
namespace Go.Proofs.YtlmafkcdhphjcaaGreatDoor
open Go.RowKit Go.Joins
set_option linter.unusedVariables false
set_option linter.unusedSimpArgs false
theorem catT_take (D : Dc) (L : List Int) (j : Nat) (h : j < L.length) : catT D (L.take (j + 1)) = catT D (L.take j) ++ D.TX (L[j]?.getD 0).toNat := by
  rw [List.take_succ_eq_append_getElem h, catT_snoc, List.getElem?_eq_getElem h]
  rfl
theorem catT_app (D : Dc) : ∀ a b : List Int, catT D (a ++ b) = catT D a ++ catT D b
  | [], b => by show catT D b = ByteArray.empty ++ catT D b; rw [ByteArray.empty_append]
  | i :: l, b => by show D.TX i.toNat ++ catT D (l ++ b) = D.TX i.toNat ++ catT D l ++ catT D b; rw [catT_app D l b, ByteArray.append_assoc]
theorem catT_le (D : Dc) (L : List Int) (j : Nat) : (catT D (L.take j)).size ≤ (catT D L).size := by
  have h := catT_app D (L.take j) (L.drop j)
  rw [List.take_append_drop] at h
  rw [h, ByteArray.size_append]
  omega
set_option maxHeartbeats 2000000 in
theorem s_kids (D : Dc) (n b off cap : Nat) (w : World) (x : Nat) (hD : D.n = n) (hn : n ≤ 200) (hx : x < n) (hbs : b < w.heap.size) (hr : DcRow w b off D w.heap.size) (hdec : ∀ j, j < n → D.U j < j) :
    Calls Tryz.prog 31 #[.slice (some ⟨b, off, none⟩) n cap, .int .i64 x] w fun e w' => ∃ ad c, e = .returned (.slice ad (kd D x n).length c) ∧ w'.ownsRow w.heap.size 2 1 (.slice ad (kd D x n).length c) (kd D x n).length ((kd D x n).map (Value.int .i64)) ∧ Below w.heap.size w w' := by
  obtain ⟨i0, hi, hz0, hz1, hz2⟩ := info_parts info64
  have HD := hide hD
  have HR := hide hr
  have HC := hide hdec
  have hxn : (x : Int) < (n : Int) := by omega
  clear hr hD hdec
  go_enter Tryz.func31, Tryz.ntmps31
  go_wp2
  go_loopw [5, 6] (fun v iv wr => ∃ (i : Nat) (ad : Option Addr) (c : Nat), x + 1 ≤ i ∧ i ≤ n ∧ iv = .int .i64 i ∧ v = .slice ad (kd D x i).length c ∧ wr.ownsRow w.heap.size 2 1 (.slice ad (kd D x i).length c) (kd D x i).length ((kd D x i).map (Value.int .i64)) ∧ Below w.heap.size w wr) (fun _ iv _ => n - (intOf iv).toNat)
  case atStart =>
    have e : kd D x (x + 1) = [] := kd_start (fun j hj => HC.out j (by omega)) (x + 1) (Nat.le_refl _)
    refine ⟨x + 1, some ⟨w.heap.size, 0, none⟩, 0, Nat.le_refl _, by omega, by go_num, by rw [e]; rfl, ?_, (Below.refl _ _).alloc (Nat.le_refl _) _⟩
    rw [e]
    exact World.ownsRow_made (base := w.heap.size) (e := 2) (size := 1) w #[] 0 (Nat.le_refl _) (Nat.zero_le _) rfl
  case round =>
    obtain ⟨i, ad, c, hi1, hi2, rfl, rfl, ho, hb⟩ := hrel
    have HO := hide ho
    have HB := hide hb
    have hkl := kd_len D x i
    have hsz : w.heap.size ≤ wr.heap.size := hb.size
    by_cases hlt : i < n
    · obtain ⟨ad9, cp9, hc9, -⟩ := HR.out i (by rw [HD.out]; omega)
      obtain ⟨c0, c1, c2, c3⟩ := dcCells_go hc9 hbs hb
      have hin : (i : Int) < (n : Int) := by omega
      clear hc9 ho hb
      by_cases hu : D.U i = x
      · have e : kd D x (i + 1) = kd D x i ++ [(i : Int)] := kd_yes hu
        obtain ⟨L, hL⟩ : ∃ L, kd D x i = L := ⟨_, rfl⟩
        rw [hL] at e HO hkl ⊢
        have HE := hide e
        have hub : (D.U i == (x : Int)) = true := by simpa using hu
        clear e hL hu
        go_wp2_with (at_builtin; refine wpList_append_own _ rfl (.tmp 23) (.tmp 25) 24 rfl w.heap.size 2 i0 (.int .i64 0) 1 8 Tryz.underlying24 hi hz0 hz1 hz2 rfl (by decide) _ _ _ rfl (HO.out.alloc _) ⟨_, 0, none⟩ 1 1 [.int .i64 (i : Int)] rfl rfl (fun j u hj => one_new _ _ _ j u hj) (one_list _ _) (by unfold maxLen; omega) (by omega) (by simp; omega) ?_; intro v2 w2 hown2 hgrow2 _; obtain ⟨ad2, c2', hv2⟩ := own_shape hown2; rw [hv2] at hown2 ⊢; clear hv2; have HB2 := hide (below_step' HB.out HO.out hgrow2); have HO2 := hide hown2; clear hown2 hgrow2)
        go_roundw
        case rel =>
          refine ⟨i + 1, ad2, c2', by omega, by omega, by go_num, ?_, ?_, HB2.out⟩
          · rw [HE.out]; simp
          · have := HO2.out
            rw [HE.out]
            simpa using this
        case measure => simp [intOf]; omega
      · have e : kd D x (i + 1) = kd D x i := kd_no hu
        have HE := hide e
        have hub : (D.U i == (x : Int)) = false := by simpa using hu
        clear e hu
        go_wp2
        go_roundw
        case rel => exact ⟨i + 1, ad, c, by omega, by omega, by go_num, by rw [HE.out], by rw [HE.out]; exact HO.out, HB.out⟩
        case measure => simp [intOf]; omega
    · have hin : i = n := by omega
      subst hin
      go_wp2
      go_ret
      exact ⟨ad, c, rfl, ho, hb⟩
end Go.Proofs.YtlmafkcdhphjcaaGreatDoor
