/-
  Contracts: the specification's sums and differences of digits.
-/
import Derived.Test.YtdglamiifcagoabDoorDigText
import Derived.Test.YtdglamiifcagoabDoorAddMath
import Derived.WalkLawsBesides
import Derived.OwnWalk
import Derived.Laws.OwnMore
import Derived.Laws.AppendOwn
namespace Go.Proofs.YtdglamiifcagoabDoor
open Go.RowKit
set_option linter.unusedSimpArgs false
set_option linter.unusedVariables false
theorem info_parts8 : ∃ i, Tryd.prog.info? 5 = some i ∧ i.zero = some (.int .u8 0) ∧ i.size = 1 ∧ i.bytes = 1 := by
  obtain ⟨i, hi, hz⟩ := Option.map_eq_some_iff.1 info8
  simp only [Prod.mk.injEq] at hz
  exact ⟨i, hi, hz.1, hz.2.1, hz.2.2⟩
/-- The digits of a text as a row, the least first. -/
def revD (x : ByteArray) : List Int := x.data.toList.reverse.map fun c => (c.toNat : Int) - 48
theorem revD_len (x : ByteArray) : (revD x).length = x.size := by simp [revD]
theorem revD_val (x : ByteArray) (h : dgL x.data.toList) : rval (revD x) = valL x.data.toList := rval_rev _ h
theorem revD_ok (x : ByteArray) (h : dgL x.data.toList) : rowOK (revD x) := by
  intro v hv
  obtain ⟨c, hc, rfl⟩ := List.mem_map.1 hv
  have := h c (by simpa using hc)
  omega
theorem revD_at (x : ByteArray) (k : Nat) (h : k < x.size) : (revD x)[k]?.getD 0 = (x[x.size - 1 - k].toNat : Int) - 48 := by
  have hk : k < (revD x).length := by rw [revD_len]; exact h
  rw [List.getElem?_eq_getElem hk]
  simp only [revD, List.getElem_map, List.getElem_reverse, Option.getD_some]
  have e : x.data.toList[x.data.toList.length - 1 - k]'(by simp; omega) = x[x.size - 1 - k] := by
    have hl : x.data.toList.length = x.size := by simp
    show _ = x.data.toList[x.size - 1 - k]'(by simp; omega)
    congr 1
  rw [e]
def txtL (d : List Int) : List Int := d.reverse.map fun x => 48 + x
theorem txtL_snoc (d : List Int) (v : Int) : txtL (d ++ [v]) = (48 + v) :: txtL d := by simp [txtL]
theorem txtL_len (d : List Int) : (txtL d).length = d.length := by simp [txtL]
theorem own_some {w : World} {B : Nat} {e : TypeId} {v : Value} {n : Nat} {xs : List Value} (h : w.ownsRow B e 1 v n xs) (hne : v ≠ .slice none 0 0) : ∃ g cap, v = .slice (some ⟨g, 0, none⟩) n cap := by
  rcases h.2 with ⟨rfl, rfl⟩ | ⟨g, cap, cur, rfl, _⟩
  · exact absurd rfl hne
  · exact ⟨_, _, rfl⟩
theorem one_cells8 (xs : List Int) : ∀ u ∈ xs.map (Value.int .u8), u.oneCell' = true := by
  intro u hu
  obtain ⟨x, _, rfl⟩ := List.mem_map.1 hu
  rfl
theorem src_cells {w : World} {B g cap : Nat} {acc : List Int} (h : w.ownsRow B 5 1 (.slice (some ⟨g, 0, none⟩) acc.length cap) acc.length (acc.map (Value.int .u8))) (o : Obj) (q : Nat) (j : Nat) (u : Value) (hj : (acc.map (Value.int .u8))[j]? = some u) : ((w.drewN q).alloc o).cell? ((⟨g, 0, none⟩ : Addr).add j) = some u := by
  have hadd : (⟨g, 0, none⟩ : Addr).add j = ⟨g, j, none⟩ := by unfold Addr.add; split <;> simp_all
  have hg : g < w.heap.size := (h.lt g rfl).2
  have hjl : j < acc.length := by
    rcases Nat.lt_or_ge j acc.length with h | h
    · exact h
    · rw [List.getElem?_eq_none (by simpa using h)] at hj; simp at hj
  rw [hadd, ((Below.refl (w.drewN q).heap.size (w.drewN q)).alloc (Nat.le_refl _) o).cell (p := ⟨g, j, none⟩) hg]
  exact (h.cellAt j (by omega)).trans hj
theorem grown_below {w w1 w2 : World} {B q : Nat} {o : Obj} (h : Below B w w1) (hB : B ≤ w1.heap.size) (hg : ((w1.drewN q).alloc o).grownBy w2 (some w1.heap.size)) : Below B w w2 := by
  have h1 : Below B w ((w1.drewN q).alloc o) := (h.trans (show Below B w1 (w1.drewN q) from ⟨rfl, rfl, rfl, Nat.le_refl _, fun _ _ => rfl⟩)).alloc hB o
  exact h1.grown hg (by have := h1.size; simp; exact Nat.le_trans hB (Nat.le_succ _)) (fun k hk => by cases hk; exact hB)
theorem conv_txt {w : World} {B g cap : Nat} (d : List Int) (c : Int) (h : w.ownsRow B 5 1 (.slice (some ⟨g, 0, none⟩) (1 + (txtL d).length) cap) (1 + (txtL d).length) (#[Value.int .u8 (48 + c)].toList ++ (txtL d).map (Value.int .u8))) :
    (convert 22 9 (.slice (some ⟨g, 0, none⟩) (1 + (txtL d).length) cap)).run Tryd.prog w = .ok (.string (strOfNums (txtL (d ++ [c])))) w := by
  have hl : (txtL (d ++ [c])).length = 1 + (txtL d).length := by rw [txtL_snoc, List.length_cons]; omega
  refine run_convert_bytes_arg (P := Tryd.prog) w 22 5 Tryd.underlying22 Tryd.underlying5 g 0 (1 + (txtL d).length) cap (txtL (d ++ [c])) hl (fun i hi => ?_) 9 Tryd.underlying9
  have e : #[Value.int .u8 (48 + c)].toList ++ (txtL d).map (Value.int .u8) = (txtL (d ++ [c])).map (Value.int .u8) := by rw [txtL_snoc]; rfl
  rw [Nat.zero_add, h.cellAt i (by omega), e]
  simp [List.getElem?_eq_getElem (show i < (txtL (d ++ [c])).length by omega)]
set_option maxHeartbeats 2000000 in
theorem s_sum (x y : ByteArray) (w : World) (hxy : x.size = y.size) (hx : x.size ≤ 200) (dx : dgL x.data.toList) (dy : dgL y.data.toList) :
    Calls Tryd.prog 20 #[.string x, .string y] w fun e w' => ∃ z : ByteArray, z.size ≤ 201 ∧ dgL z.data.toList ∧ valL z.data.toList = valL x.data.toList + valL y.data.toList ∧ e = .returned (.string z) ∧ Below w.heap.size w w' := by
  obtain ⟨i0, hi, hz0, hz1, hz2⟩ := info_parts8
  have HDX := hide dx
  have HDY := hide dy
  have hy : y.size ≤ 200 := by omega
  have HXY := hide hxy
  have hmade := World.ownsRow_made (base := w.heap.size) (e := 5) (size := 1) w #[] 0 (Nat.le_refl _) (Nat.zero_le _) rfl
  have HM := hide hmade
  clear dx dy hmade hxy
  go_enter Tryd.func20, Tryd.ntmps20
  go_wp2
  go_loopw [5, 6, 7] (fun vo vc vi wr => ∃ (k : Nat) (c : Int) (d : List Int) (g cap : Nat), vo = .slice (some ⟨g, 0, none⟩) (txtL d).length cap ∧ vc = .int .i64 c ∧ vi = .int .i64 ((x.size : Int) - 1 - (k : Int)) ∧ k ≤ x.size ∧ 0 ≤ c ∧ c ≤ 1 ∧ Hid (d.length = k) ∧ Hid (rowOK d) ∧ Hid (rval d + 10 ^ k * c = rval ((revD x).take k) + rval ((revD y).take k)) ∧ Hid (wr.ownsRow w.heap.size 5 1 (.slice (some ⟨g, 0, none⟩) (txtL d).length cap) (txtL d).length ((txtL d).map (Value.int .u8))) ∧ Hid (Below w.heap.size w wr)) (fun _ _ vi _ => (intOf vi + 1).toNat)
  case atStart => exact ⟨0, 0, [], _, _, rfl, rfl, by simp, Nat.zero_le _, by omega, by omega, hide rfl, hide (fun x hx => by cases hx), hide (by simp [rval]), HM, hide ((Below.refl _ _).alloc (Nat.le_refl _) _)⟩
  case round =>
    clear HM
    obtain ⟨k, c, d, g, cap, rfl, rfl, rfl, hk, hc0, hc1, HDL, HDO, HI, HO, HB⟩ := hrel
    have htl : (txtL d).length = k := by rw [txtL_len, HDL.out]
    by_cases hlt : k < x.size
    · obtain ⟨p, hp⟩ : ∃ p : Nat, (x.size : Int) - 1 - (k : Int) = (p : Int) := ⟨x.size - 1 - k, by omega⟩
      have hpx : p < x.size := by omega
      have hpy : p < y.size := by have := HXY.out; omega
      have ex := revD_at x k hlt
      have ey := revD_at y k (by have := HXY.out; omega)
      have epx : x.size - 1 - k = p := by omega
      have epy : y.size - 1 - k = p := by have := HXY.out; omega
      simp only [epx] at ex
      simp only [epy] at ey
      have b1 := HDX.out x[p] (by have e : x[p] = x.data.toList[p]'(by simpa using hpx) := rfl; rw [e]; exact List.getElem_mem _)
      have b2 := HDY.out y[p] (by have e : y[p] = y.data.toList[p]'(by simpa using hpy) := rfl; rw [e]; exact List.getElem_mem _)
      have b11 : (48 : Int) ≤ (x[p].toNat : Int) := by omega
      have b12 : (x[p].toNat : Int) ≤ 57 := by omega
      have b21 : (48 : Int) ≤ (y[p].toNat : Int) := by omega
      have b22 : (y[p].toNat : Int) ≤ 57 := by omega
      have hst := add_step (revD x) (revD y) d k c _ _ (by rw [revD_len]; exact hlt) (by rw [revD_len]; have := HXY.out; omega) HDL.out ex ey HI.out
      obtain ⟨nn, hnn⟩ : ∃ nn, ((x[p].toNat : Int) - 48) + ((y[p].toNat : Int) - 48) + c = nn := ⟨_, rfl⟩
      have hn0 : 0 ≤ nn := by omega
      have hn1 : nn ≤ 19 := by omega
      rw [hnn] at hst
      have HS := hide hst
      have HP := hide hp
      rw [hp]
      have hsz := HB.out.size
      have HTL := hide htl
      clear ex ey epx epy b1 b2 hst hp htl
      go_wp2
      go_quiet (fail)
      go_wp2_with (at_builtin; refine wpList_append_own _ rfl (.tmp 34) (.tmp 35) 22 rfl w.heap.size 5 i0 (.int .u8 0) 1 1 Tryd.underlying22 hi hz0 hz1 hz2 rfl (by decide) _ _ _ rfl (World.ownsRow_lit (base := w.heap.size) (e := 5) (size := 1) _ _ 1 (by simp; exact hsz) (by unfold maxLen; omega) rfl) ⟨g, 0, none⟩ _ _ ((txtL d).map (Value.int .u8)) rfl (by simp) (fun j u hj => src_cells HO.out _ _ j u hj) (one_cells8 _) (by rw [HTL.out]; unfold maxLen; omega) (by rw [HTL.out]; omega) (by simp; omega) ?_; intro v2 w2 hown2 hgrow2 hnil2; obtain ⟨g2, cap2, hv2⟩ := own_some hown2 (fun e => by have h9 := (hnil2.1 e).1; exact absurd h9 (by simp [Act.eval])); rw [hv2] at hown2 ⊢; clear hv2 hnil2; have HB2 := hide (grown_below (q := nq) HB.out hsz hgrow2); clear hgrow2; have HO2 := hide hown2; clear hown2)
      go_roundw
      case rel =>
        have hlen : (txtL (d ++ [nn % 10])).length = 1 + (txtL d).length := by rw [txtL_snoc, List.length_cons]; omega
        refine ⟨k + 1, nn / 10, d ++ [nn % 10], g2, cap2, by rw [hlen], rfl, by have := HP.out; go_num, by omega, by omega, by omega, hide (by rw [List.length_append, HDL.out]; rfl), hide (ok_snoc HDO.out (by omega) (by omega)), HS, hide ?_, HB2⟩
        have ho := HO2.out
        rw [hlen, txtL_snoc]
        exact ho
      case measure => simp [intOf]
    · have hge : (x.size : Int) - 1 - (k : Int) < 0 := by omega
      have HKK := hide (show k = x.size by omega)
      have hsz := HB.out.size
      have HTL := hide htl
      have hk2 : k ≤ 200 := by omega
      clear htl hlt hk
      go_wp2_with (at_builtin; refine wpList_append_own _ rfl (.tmp 42) (.tmp 43) 22 rfl w.heap.size 5 i0 (.int .u8 0) 1 1 Tryd.underlying22 hi hz0 hz1 hz2 rfl (by decide) _ _ _ rfl (World.ownsRow_lit (base := w.heap.size) (e := 5) (size := 1) _ _ 1 hsz (by unfold maxLen; omega) rfl) ⟨g, 0, none⟩ _ _ ((txtL d).map (Value.int .u8)) rfl (by simp) (fun j u hj => src_cells HO.out _ 0 j u hj) (one_cells8 _) (by rw [HTL.out]; unfold maxLen; omega) (by rw [HTL.out]; omega) (by simp; omega) ?_; intro v2 w2 hown2 hgrow2 hnil2; obtain ⟨g2, cap2, hv2⟩ := own_some hown2 (fun e => by have h9 := (hnil2.1 e).1; exact absurd h9 (by simp [Act.eval])); rw [hv2] at hown2 ⊢; clear hv2 hnil2; have HB2 := hide (grown_below (q := 0) HB.out hsz hgrow2); clear hgrow2; have hcv := conv_txt d c hown2; clear hown2)
      go_ret
      obtain ⟨h1, h2⟩ := txt_val (d ++ [c]) (ok_snoc HDO.out hc0 (by omega))
      refine ⟨strOfNums (txtL (d ++ [c])), by rw [strOfNums_size, txtL_len, List.length_append, HDL.out]; simp; omega, h2, ?_, rfl, HB2.out⟩
      have h3 := HI.out
      have tx : (revD x).take k = revD x := List.take_of_length_le (by rw [revD_len, HKK.out]; exact Nat.le_refl _)
      have ty : (revD y).take k = revD y := List.take_of_length_le (by rw [revD_len, HKK.out, HXY.out]; exact Nat.le_refl _)
      rw [tx, ty, revD_val x HDX.out, revD_val y HDY.out] at h3
      have h4 : (valL (strOfNums (txtL (d ++ [c]))).data.toList : Int) = rval (d ++ [c]) := h1
      rw [rval_snoc, HDL.out] at h4
      omega
end Go.Proofs.YtdglamiifcagoabDoor
