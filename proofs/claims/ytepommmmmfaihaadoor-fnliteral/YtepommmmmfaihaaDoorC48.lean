/-
  Contracts: what the specification's and the program's OfRunes answer at every row of numbers; nothing that was there is written.
-/
import Derived.Test.YtepommmmmfaihaaDoorC47
import Derived.Test.YtepommmmmfaihaaDoorC19
import Derived.Test.YtepommmmmfaihaaDoorC17
import Derived.Outline
import Derived.Laws.IdiomStrings
namespace Go.Proofs.YtepommmmmfaihaaDoor
open Go.RowKit
set_option linter.unusedVariables false
set_option linter.unusedSimpArgs false
set_option maxRecDepth 100000 in
set_option maxHeartbeats 1000000 in
theorem i_charO (r : Int) (w : World) : Calls Tryd.prog 50 #[.int .i64 r] w fun e w' => e = .returned (.bool (charB r)) ∧ w' = w := by
  rcases cases_char r with h | ⟨h, h'⟩ | ⟨h, h'⟩ | ⟨h, h'⟩ | h
  all_goals
    go_enter Tryd.func50, Tryd.ntmps50
    go_wp2
    go_ret
    exact ⟨ret_bool (by first | decide | (rw [Bool.eq_iff_iff]; simp only [charB, Bool.or_eq_true, Bool.and_eq_true, decide_eq_true_eq, beq_iff_eq, true_iff, false_iff, iff_true, iff_false, Bool.false_eq_true]; omega)), rfl⟩


theorem conv_newO (w : World) (xs : List Int) :
    (convert 22 9 (.slice (some ⟨w.heap.size, 0, none⟩) xs.length xs.length)).run Tryd.prog (w.alloc (.cells (xs.map (Value.int .u8)).toArray 5)) = .ok (.string (strOfNums xs)) (w.alloc (.cells (xs.map (Value.int .u8)).toArray 5)) := by
  refine run_convert_bytes_arg _ 22 5 Tryd.underlying22 Tryd.underlying5 w.heap.size 0 xs.length xs.length xs rfl ?_ 9 Tryd.underlying9
  intro i hi
  rw [show (0 + i) = i by omega, cell_of_row _ w.heap.size i _ 5 (0, 0) (heap_alloc_new w _)]
  simp [List.getElem?_eq_getElem hi]

theorem s_bytes_ofO (r : Int) (w : World) (xs : List Int) (hx : Lib.encodeRuneZ r = xs)
    (h : Calls Tryd.prog 49 #[.int .i64 r] w fun e w' => e = .returned (.string (strOfNums xs)) ∧ w' = w.alloc (.cells (xs.map (Value.int .u8)).toArray 5)) :
    Calls Tryd.prog 49 #[.int .i64 r] w fun e w' => e = .returned (.string (strOfNums (Lib.encodeRuneZ r))) ∧ Below w.heap.size w w' := by
  rw [hx]
  refine h.mono ?_
  rintro e w' ⟨rfl, rfl⟩
  exact ⟨rfl, (Below.refl _ _).alloc (Nat.le_refl _) _⟩

set_option maxRecDepth 100000 in
set_option maxHeartbeats 1000000 in
theorem s_bytesO (r : Int) (w : World) (hc : charB r = true) : Calls Tryd.prog 49 #[.int .i64 r] w fun e w' => e = .returned (.string (strOfNums (Lib.encodeRuneZ r))) ∧ Below w.heap.size w w' := by
  have hr : (0 ≤ r ∧ r ≤ 55295) ∨ (57344 ≤ r ∧ r ≤ 1114111) := of_decide_eq_true hc
  clear hc
  by_cases h1 : r ≤ 127
  · have h0 : 0 ≤ r := by omega
    clear hr
    refine s_bytes_ofO r w _ (Lib.encodeRuneZ_one h0 h1) ?_
    have hcv := conv_newO w [r]
    simp only [List.map_cons, List.map_nil, List.length_cons, List.length_nil, Nat.zero_add] at hcv ⊢
    go_enter Tryd.func49, Tryd.ntmps49
    go_wp2
    go_ret
    exact ⟨rfl, rfl⟩
  · by_cases h2 : r ≤ 2047
    · have h0 : 128 ≤ r := by omega
      clear hr h1
      refine s_bytes_ofO r w _ (Lib.encodeRuneZ_two h0 h2) ?_
      have hcv := conv_newO w [192 + r / 64, 128 + r % 64]
      simp only [List.map_cons, List.map_nil, List.length_cons, List.length_nil, Nat.zero_add] at hcv ⊢
      go_enter Tryd.func49, Tryd.ntmps49
      go_wp2
      go_ret
      exact ⟨rfl, rfl⟩
    · by_cases h3 : r ≤ 65535
      · have h0 : 2048 ≤ r := by omega
        have h4 : (2048 ≤ r ∧ r < 55296) ∨ (57343 < r ∧ r ≤ 65535) := by omega
        clear hr h1 h2
        refine s_bytes_ofO r w _ (Lib.encodeRuneZ_three h4) ?_
        clear h4
        have hcv := conv_newO w [224 + r / 4096, 128 + r / 64 % 64, 128 + r % 64]
        simp only [List.map_cons, List.map_nil, List.length_cons, List.length_nil, Nat.zero_add] at hcv ⊢
        go_enter Tryd.func49, Tryd.ntmps49
        go_wp2
        go_ret
        exact ⟨rfl, rfl⟩
      · have h0 : 65536 ≤ r := by omega
        have h5 : r ≤ 1114111 := by omega
        clear hr h1 h2 h3
        refine s_bytes_ofO r w _ (Lib.encodeRuneZ_four h0 h5) ?_
        have hcv := conv_newO w [240 + r / 262144, 128 + r / 4096 % 64, 128 + r / 64 % 64, 128 + r % 64]
        simp only [List.map_cons, List.map_nil, List.length_cons, List.length_nil, Nat.zero_add] at hcv ⊢
        go_enter Tryd.func49, Tryd.ntmps49
        go_wp2
        go_ret
        exact ⟨rfl, rfl⟩

theorem info8O : (Tryd.prog.info? 5).map (fun i => (i.zero, i.size, i.bytes)) = some (some (.int .u8 0), 1, 1) := by kernel_rfl

theorem drop_stepO (xs : List Int) (k : Nat) (h : k < xs.length) : xs.drop k = (xs[k]?.getD 0) :: xs.drop (k + 1) := by
  rw [List.drop_eq_getElem_cons h]; simp [List.getElem?_eq_getElem h]
theorem goR_noO {acc xs : List Int} {k : Nat} (h : k < xs.length) (hc : charB (xs[k]?.getD 0) = false) : goR acc (xs.drop k) = none := by
  rw [drop_stepO xs k h, goR, if_neg (by simp [hc])]
theorem goR_longO {acc xs : List Int} {k : Nat} (h : k < xs.length) (hc : charB (xs[k]?.getD 0) = true) (hl : 20000 < acc.length + (Lib.encodeRuneZ (xs[k]?.getD 0)).length) : goR acc (xs.drop k) = none := by
  rw [drop_stepO xs k h, goR, if_pos hc, if_neg (by omega)]
theorem goR_goO {acc xs : List Int} {k : Nat} (h : k < xs.length) (hc : charB (xs[k]?.getD 0) = true) (hl : acc.length + (Lib.encodeRuneZ (xs[k]?.getD 0)).length ≤ 20000) : goR acc (xs.drop k) = goR (acc ++ Lib.encodeRuneZ (xs[k]?.getD 0)) (xs.drop (k + 1)) := by
  rw [drop_stepO xs k h, goR, if_pos hc, if_pos hl]
theorem goR_endO {acc xs : List Int} {k : Nat} (h : xs.length ≤ k) : goR acc (xs.drop k) = some acc := by
  rw [List.drop_eq_nil_of_le h, goR]

theorem enc_factsO {r : Int} (hc : charB r = true) : (∀ x ∈ Lib.encodeRuneZ r, 0 ≤ x ∧ x ≤ 255) ∧ 1 ≤ (Lib.encodeRuneZ r).length ∧ (Lib.encodeRuneZ r).length ≤ 4 := by
  have hr : (0 ≤ r ∧ r ≤ 55295) ∨ (57344 ≤ r ∧ r ≤ 1114111) := of_decide_eq_true hc
  by_cases h1 : r ≤ 127
  · rw [Lib.encodeRuneZ_one (by omega) h1]; refine ⟨?_, by simp, by simp⟩; intro x hx; simp at hx; omega
  · by_cases h2 : r ≤ 2047
    · rw [Lib.encodeRuneZ_two (by omega) h2]; refine ⟨?_, by simp, by simp⟩; intro x hx; simp at hx; omega
    · by_cases h3 : r ≤ 65535
      · rw [Lib.encodeRuneZ_three (by omega)]; refine ⟨?_, by simp, by simp⟩; intro x hx; simp at hx; omega
      · rw [Lib.encodeRuneZ_four (by omega) (by omega)]; refine ⟨?_, by simp, by simp⟩; intro x hx; simp at hx; omega

theorem grown_of_belowO {w w' : World} (h : Below w.heap.size w w') : w.grownBy w' none := ⟨h.os, h.tape, h.output, h.size, fun k hk _ => h.block k hk⟩
theorem own_belowO {w w' : World} {B : Nat} {e : TypeId} {v : Value} {n : Nat} {xs : List Value} (h : w.ownsRow B e 1 v n xs) (hb : Below w.heap.size w w') : w'.ownsRow B e 1 v n xs :=
  h.kept (grown_of_belowO hb) (by cases v.ownBlock <;> simp)

theorem conv_own {w : World} {B : Nat} {ad : Option Addr} {cap : Nat} {acc : List Int} (h : w.ownsRow B 5 1 (.slice ad acc.length cap) acc.length (acc.map (Value.int .u8))) :
    (convert 22 9 (.slice ad acc.length cap)).run Tryd.prog w = .ok (.string (strOfNums acc)) w := by
  rcases h.2 with ⟨h1, h2⟩ | ⟨g, cap', cur, h1, _⟩
  · simp only [Value.slice.injEq] at h1
    obtain ⟨rfl, h3, rfl⟩ := h1
    have : acc = [] := List.length_eq_zero_iff.1 h3
    subst this
    exact run_convert_bytes_nil w 22 5 Tryd.underlying22 Tryd.underlying5 _ _ 9 Tryd.underlying9
  · simp only [Value.slice.injEq] at h1
    obtain ⟨rfl, _, rfl⟩ := h1
    refine run_convert_bytes_arg w 22 5 Tryd.underlying22 Tryd.underlying5 g 0 acc.length cap acc rfl ?_ 9 Tryd.underlying9
    intro i hi
    rw [show (0 + i) = i by omega, h.cellAt i (by omega)]
    simp [List.getElem?_eq_getElem hi]

theorem below_stepO {w wr w1 w2 : World} {o : Obj} {e : TypeId} {ad : Option Addr} {n c : Nat} {xs : List Value} (hb : Below w.heap.size w wr) (hb1 : Below wr.heap.size wr w1) (hown : wr.ownsRow w.heap.size e 1 (.slice ad n c) n xs)
    (hg : (w1.alloc o).drew.grownBy w2 (Value.slice ad n c).ownBlock) : Below w.heap.size w w2 := by
  have h1 : Below w.heap.size w w1 := hb.trans (hb1.mono hb.size)
  have h2 : Below w.heap.size w (w1.alloc o).drew := (h1.alloc h1.size o).drew
  exact h2.grown hg h2.size (fun k hk => (hown.lt k hk).1)
theorem one_cellsO (xs : List Int) : ∀ u ∈ xs.map (Value.int .u8), u.oneCell' = true := by
  intro u hu
  obtain ⟨x, _, rfl⟩ := List.mem_map.1 hu
  rfl
theorem row_cellsO (w : World) (xs : List Int) (cap : Nat) (m : Nat × Nat) (hx : ∀ x ∈ xs, 0 ≤ x ∧ x ≤ 255) (j : Nat) (u : Value) (hj : (xs.map (Value.int .u8))[j]? = some u) :
    (w.alloc (.cells (bytesRow (strOfNums xs) cap) 5 m)).cell? ((⟨w.heap.size, 0, none⟩ : Addr).add j) = some u := by
  have hjl : j < xs.length := by
    rcases Nat.lt_or_ge j xs.length with h | h
    · exact h
    · rw [List.getElem?_eq_none (by simpa using h)] at hj; simp at hj
  have hplain : (⟨w.heap.size, 0, none⟩ : Addr).add j = ⟨w.heap.size, j, none⟩ := by unfold Addr.add; split <;> simp_all
  rw [hplain, cell_of_row _ w.heap.size j _ 5 m (heap_alloc_new w _)]
  rw [List.getElem?_map, List.getElem?_eq_getElem hjl] at hj
  simp only [Option.map_some, Option.some.injEq] at hj
  subst hj
  have hb := hx xs[j] (List.getElem_mem hjl)
  have e : ((UInt8.ofNat xs[j].toNat).toNat : Int) = xs[j] := by
    rw [UInt8.toNat_ofNat']; omega
  unfold bytesRow
  rw [Array.getElem?_append_left (by simp [strOfNums]; exact hjl)]
  simp [strOfNums, List.getElem?_eq_getElem hjl]
  omega

set_option maxRecDepth 100000 in
set_option maxHeartbeats 2000000 in
theorem s_of (b off n cap : Nat) (xs : List Int) (w : World) (hx : xs.length = n) (hn : n ≤ 1048576) (hbs : b < w.heap.size) (hc : ∀ j, j < n → w.cell? ⟨b, off + j, none⟩ = some (.int .i64 (xs[j]?.getD 0))) :
    Calls Tryd.prog 33 #[.slice (some ⟨b, off, none⟩) n cap] w fun e w' => e = .returned (.tuple #[.string (resT (goR [] xs)), .bool (resB (goR [] xs))]) ∧ Below w.heap.size w w' := by
  obtain ⟨i0, hi, hz0, hz1, hz2⟩ := info_parts info8O
  have HX : Hid (xs.length = n) := hx
  have HC := hide hc
  clear hx hc
  have hmade := World.ownsRow_made (base := w.heap.size) (e := 5) (size := 1) w #[] 0 (Nat.le_refl _) (Nat.zero_le _) rfl
  have hcs := fun (wx : World) (s : ByteArray) => run_bytes_of_string (P := Tryd.prog) wx 9 22 5 s Tryd.underlying9 Tryd.underlying22 Tryd.underlying5
  have HM := hide hmade
  clear hmade
  go_enter Tryd.func33, Tryd.ntmps33
  go_wp2
  go_loopw [4, 5] (fun v i wr => ∃ (k : Nat) (acc : List Int) (ad : Option Addr) (c : Nat), k ≤ n ∧ i = .int .i64 k ∧ v = .slice ad acc.length c ∧ wr.ownsRow w.heap.size 5 1 (.slice ad acc.length c) acc.length (acc.map (Value.int .u8)) ∧ Below w.heap.size w wr ∧ goR [] xs = goR acc (xs.drop k) ∧ acc.length ≤ 20000) (fun _ i _ => n - (intOf i).toNat)
  case atStart => exact ⟨0, [], _, _, Nat.zero_le _, rfl, rfl, HM.out, (Below.refl _ _).alloc (Nat.le_refl _) _, by simp, by simp⟩
  case round =>
    obtain ⟨k, acc, ad, c, hk, rfl, rfl, hown, hb, hgo, hal⟩ := hrel
    have HO := hide hown
    have HB := hide hb
    have HG := hide hgo
    have hsz := hb.size
    by_cases hlt : k < n
    · have hc1 : wr.cell? ⟨b, off + k, none⟩ = some (.int .i64 (xs[k]?.getD 0)) := (hb.cell hbs).trans (HC.out k hlt)
      clear hown hb hgo
      obtain ⟨r, hr⟩ : ∃ r, xs[k]?.getD 0 = r := ⟨_, rfl⟩
      rw [hr] at hc1
      have HRr : Hid (xs[k]?.getD 0 = r) := hr
      clear hr
      cases hch : charB r
      · go_wp2_with (go_at_call 42; refine (s_char _ _).mono ?_; rintro e w' ⟨rfl, rfl⟩)
        go_ret2
        exact ⟨by rw [HG.out, goR_noO (by rw [HX.out]; exact hlt) (by rw [HRr.out]; exact hch)]; rfl, HB.out⟩
      · obtain ⟨he1, he2, he3⟩ := enc_factsO hch
        have HE := hide he1
        clear he1
        have hL : (strOfNums (Lib.encodeRuneZ r)).size = (Lib.encodeRuneZ r).length := strOfNums_size _
        have HL := hide hL
        clear hL
        have h63 : acc.length + (strOfNums (Lib.encodeRuneZ r)).size ≤ 20004 := by rw [HL.out]; omega
        go_wp2_with (first | (go_at_call 42; refine (s_char _ _).mono ?_; rintro e w' ⟨rfl, rfl⟩) | (go_at_call 49; refine (s_bytesO _ _ hch).mono ?_; rintro e w1 ⟨rfl, hb1⟩) | (at_builtin; refine wpList_append_own _ rfl (.tmp 19) (.tmp 25) 22 rfl w.heap.size 5 i0 (.int .u8 0) 1 1 Tryd.underlying22 hi hz0 hz1 hz2 rfl (by decide) _ _ _ rfl ((own_belowO HO.out hb1).alloc _) ⟨w1.heap.size, 0, none⟩ _ _ ((Lib.encodeRuneZ r).map (Value.int .u8)) rfl (by rw [HL.out]; simp) (fun j u hj => row_cellsO w1 _ _ _ HE.out j u hj) (one_cellsO _) (by unfold maxLen; omega) (by omega) (by have := hb1.size; simp; omega) ?_; intro v2 w2 hown2 hgrow2 _; obtain ⟨ad2, c2, hv2⟩ := own_shape hown2; rw [hv2] at hown2 ⊢; clear hv2; have hb2 := hide (below_stepO HB.out hb1 HO.out hgrow2); clear hgrow2))
        · have hlong : 20000 < acc.length + (strOfNums (Lib.encodeRuneZ r)).size := by omega
          go_ret2
          exact ⟨by rw [HG.out, goR_longO (by rw [HX.out]; exact hlt) (by rw [HRr.out]; exact hch) (by rw [HRr.out, ← HL.out]; exact hlong)]; rfl, hb2.out⟩
        · have hfit : acc.length + (strOfNums (Lib.encodeRuneZ r)).size ≤ 20000 := by omega
          go_roundw
          case rel =>
            refine ⟨k + 1, acc ++ Lib.encodeRuneZ r, ad2, c2, by omega, by go_num, by rw [List.length_append, HL.out], ?_, hb2.out, ?_, by rw [List.length_append, ← HL.out]; exact hfit⟩
            · rw [List.length_append, List.map_append, ← HL.out]; exact hown2
            · rw [HG.out, goR_goO (by rw [HX.out]; exact hlt) (by rw [HRr.out]; exact hch) (by rw [HRr.out, ← HL.out]; exact hfit), HRr.out]
          case measure => simp [intOf]; omega
    · have hcv := conv_own hown
      clear hown hb hgo
      go_wp2
      go_ret2
      exact ⟨by rw [HG.out, goR_endO (by rw [HX.out]; omega)]; rfl, HB.out⟩

theorem own_sizeO {w : World} {B g n c : Nat} {e : TypeId} {xs : List Value} (h : w.ownsRow B e 1 (.slice (some ⟨g, 0, none⟩) n c) n xs) : g < w.heap.size := (h.lt g rfl).2
theorem own_cellsO {w : World} {B g n c : Nat} {e : TypeId} {xs : List Int} (hx : xs.length = n) (h : w.ownsRow B e 1 (.slice (some ⟨g, 0, none⟩) n c) n (xs.map (Value.int .i64))) : ∀ j, j < n → w.cell? ⟨g, 0 + j, none⟩ = some (.int .i64 (xs[j]?.getD 0)) := by
  intro j hj
  rw [Nat.zero_add, h.cellAt j (by omega)]
  simp [List.getElem?_eq_getElem (show j < xs.length by omega)]
theorem own_rowAtO {w : World} {B g n c : Nat} {e : TypeId} {xs : List Int} (hx : xs.length = n) (h : w.ownsRow B e 1 (.slice (some ⟨g, 0, none⟩) n c) n (xs.map (Value.int .i64))) : RowAt .i64 w (some ⟨g, 0, none⟩) xs w.heap.size :=
  fun _ => ⟨g, 0, rfl, own_sizeO h, fun j hj => own_cellsO hx h j (by omega)⟩
theorem rowAt_belowO {k : IntKind} {w w' : World} {a : Option Addr} {xs : List Int} (h : RowAt k w a xs w.heap.size) (hb : Below w.heap.size w w') : RowAt k w' a xs w'.heap.size := by
  intro hne
  obtain ⟨b, off, rfl, hlt, hc⟩ := h hne
  exact ⟨b, off, rfl, Nat.lt_of_lt_of_le hlt hb.size, fun j hj => (hb.cell (p := ⟨b, off + j, none⟩) hlt).trans (hc j hj)⟩
theorem below_drewN'O {B : Nat} {a w : World} (h : Below B a w) (n : Nat) : Below B a (w.drewN n) := h.trans ⟨rfl, rfl, rfl, Nat.le_refl _, fun _ _ => rfl⟩

end Go.Proofs.YtepommmmmfaihaaDoor
