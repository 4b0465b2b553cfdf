/-
  Texts put together: KyD3, KyD4.
-/
import Derived.Test.YtdepgkpfibmbgaaGreatDoorF16
import Derived.Deep.DeepCutAuto
import Derived.Test.YtdepgkpfibmbgaaGreatDoorF3
/-
  Contract of the draw of a key: whatever the code is, some key of short texts; the reader's own place alone is written.
-/
namespace Go.Proofs.YtdepgkpfibmbgaaGreatDoor
open Go.RowKit Go.Joins
set_option linter.unusedVariables false
set_option linter.unusedSimpArgs false
set_option maxRecDepth 100000 in
set_option maxHeartbeats 16000000 in
theorem d_key (G : Nat) (a : Option Addr) (n cap : Nat) (zs : List Int) (q : Int) (w0 : World) (hq0 : 0 ≤ q) (hq9 : q < 9) (h : RdAt w0 G a n cap zs) :
    Calls Tryz.prog 23 #[.pointer (some ⟨G, 0, none⟩), .int .i64 q] w0 fun e w' => ∃ (nm : ByteArray) (kd : Int) (on pa : ByteArray) (ad : Option Addr) (fl : List ByteArray) (cp : Nat) (re : ByteArray), e = .returned (.agg #[.string nm, .int .i64 kd, .string on, .string pa, .slice ad fl.length cp, .string re]) ∧ KOk nm kd on pa re ∧ fl.length ≤ 2 ∧ (∀ t ∈ fl, t.size ≤ 8) ∧ w'.ownsRow w0.heap.size 9 1 (.slice ad fl.length cp) fl.length (fl.map Value.string) ∧ Drew G a n cap zs w0 w' := by
  have hJ : DK w0 G a n cap zs (w0.alloc (.cells #[.string ⟨#[]⟩, .int .i64 0, .string ⟨#[]⟩, .string ⟨#[]⟩, .slice none 0 0, .string ⟨#[]⟩] 27)).drew :=
    ⟨rd_alloc h _, grown_trans (World.grownBy_alloc w0 (.cells #[.string ⟨#[]⟩, .int .i64 0, .string ⟨#[]⟩, .string ⟨#[]⟩, .slice none 0 0, .string ⟨#[]⟩] 27) (some G)) ⟨rfl, rfl, rfl, Nat.le_refl _, fun _ _ _ => rfl⟩, heap_alloc_new w0 _, rd_lt h⟩
  have HJ := hide hJ
  obtain ⟨i0, hi0, hz0, hz1, hz2⟩ := info_parts infoStrT
  clear hJ h
  go_enter Tryz.func23, Tryz.ntmps23
  go_upto_region 1 with fail
  go_cut [5] (fun pv wx => ∃ B, pv = .pointer (some ⟨B, 0, none⟩) ∧ w0.heap.size < B ∧ Hid (DK w0 G a n cap zs wx) ∧ Hid (KSh w0 wx B))
  case first =>
   refine wp_region_inv (by kernel_rfl) (by kernel_rfl) (fun u => { tmps := #[.pointer (some ⟨G, 0, none⟩), .int .i64 q, undef, undef, .pointer (some ⟨w0.heap.size, 0, none⟩), u 5, u 6, u 7, u 8, u 9, u 10, u 11, u 12, u 13, u 14, u 15, u 16, u 17, u 18, u 19, u 20, u 21, u 22, u 23, u 24, u 25, u 26, u 27, u 28, undef, undef, undef, undef, undef, undef, undef, undef, undef, undef, undef, undef, undef, undef, undef, undef, undef, undef, undef, undef], defers := [] }) DDk (VK w0 G q) (DK w0 G a n cap zs) (fun _ => undef) HJ.out ?hput ?hD ?step ?done
   case hput =>
     intro i o ho u v
     have hi := (Array.getElem?_eq_some_iff.1 ho).1
     have hi' : i < 25 := hi
     clear hi
     rcases (show i = 0 ∨ i = 1 ∨ i = 2 ∨ i = 3 ∨ i = 4 ∨ i = 5 ∨ i = 6 ∨ i = 7 ∨ i = 8 ∨ i = 9 ∨ i = 10 ∨ i = 11 ∨ i = 12 ∨ i = 13 ∨ i = 14 ∨ i = 15 ∨ i = 16 ∨ i = 17 ∨ i = 18 ∨ i = 19 ∨ i = 20 ∨ i = 21 ∨ i = 22 ∨ i = 23 ∨ i = 24 by omega) with e | e | e | e | e | e | e | e | e | e | e | e | e | e | e | e | e | e | e | e | e | e | e | e | e
     all_goals
       subst e
       obtain rfl := Option.some.inj ho
       rfl
   case hD =>
     intro i k hi hk hne
     have hi' : i < 25 := hi
     have hk' : k < 25 := hk
     unfold DDk
     split <;> split <;> (try split) <;> (try split) <;> omega
   case step =>
     intro i o ho u w hj hV K hK
     have hi := (Array.getElem?_eq_some_iff.1 ho).1
     have hi' : i < 25 := hi
     clear hi
     rcases (show i = 0 ∨ i = 1 ∨ i = 2 ∨ i = 3 ∨ i = 4 ∨ i = 5 ∨ i = 6 ∨ i = 7 ∨ i = 8 ∨ i = 9 ∨ i = 10 ∨ i = 11 ∨ i = 12 ∨ i = 13 ∨ i = 14 ∨ i = 15 ∨ i = 16 ∨ i = 17 ∨ i = 18 ∨ i = 19 ∨ i = 20 ∨ i = 21 ∨ i = 22 ∨ i = 23 ∨ i = 24 by omega) with e | e | e | e | e | e | e | e | e | e | e | e | e | e | e | e | e | e | e | e | e | e | e | e | e
     all_goals
       subst e
       obtain rfl := Option.some.inj ho
       clear ho hi'
       try dsimp only at hV hK ⊢
     · -- 0
       go_simp
       exact hK _ _ hj rfl (fun _ _ h => h)
     · -- 1
       have hp : u 6 = .int .i64 q := hV ⟨0, .data⟩ (by simp) rfl
       rw [hp] at hK ⊢
       go_simp
       refine (s_dig1 q _ hq0 (by omega)).mono ?_
       rintro e w1 ⟨t, ht, rfl, hb⟩
       exact hK _ _ (dk_below hj hb) ⟨t, by omega, rfl⟩ (vk_keeps (keepk_below hb))
     · -- 2
       obtain ⟨t, ht, e1⟩ : TX4 (u 7) := hV ⟨1, .data⟩ (by simp) rfl
       rw [e1] at hK ⊢
       have hS1 : ¬ 9223372036854775807 < 1 + t.size := by omega
       go_simp
       exact hK _ _ hj ⟨_, by rw [ByteArray.size_append]; have h7 : (⟨#[107]⟩ : ByteArray).size = 1 := rfl; omega, rfl⟩ (fun _ _ h => h)
     · -- 3
       go_simp
       exact hK _ _ hj rfl (fun _ _ h => h)
     · -- 4
       have hp : u 9 = .pointer (some ⟨G, 0, none⟩) := hV ⟨3, .data⟩ (by simp) rfl
       rw [hp] at hK ⊢
       go_simp
       refine (d_below G a n cap zs 3 _ (by omega) (by omega) hj.1).mono ?_
       rintro e w1 ⟨x, hx0, hx1, rfl, hd⟩
       exact hK _ _ (dk_drew hj hd) ⟨x, rfl, hx0, hx1⟩ (vk_keeps (keepk_drew hj hd))
     · -- 5
       obtain ⟨x, e1, hx0, hx1⟩ : BLk 3 (u 10) := hV ⟨4, .data⟩ (by simp) rfl
       rw [e1] at hK ⊢
       go_simp
       exact hK _ _ hj ⟨1 + x, congrArg _ (wrap_k x hx0 hx1), by omega, by omega⟩ (fun _ _ h => h)
     · -- 6
       go_simp
       refine hK _ _ (dk_alloc hj _) ⟨_, _, rfl, heap_alloc_new w _, rfl, fun k hk => ?_⟩ (vk_keeps (keepk_alloc _))
       rcases (show k = 0 ∨ k = 1 ∨ k = 2 by omega) with e | e | e <;> subst e <;> exact ⟨_, rfl, by decide⟩
     · -- 7
       go_simp
       exact hK _ _ hj rfl (fun _ _ h => h)
     · -- 8
       have hp : u 13 = .pointer (some ⟨G, 0, none⟩) := hV ⟨7, .data⟩ (by simp) rfl
       rw [hp] at hK ⊢
       go_simp
       refine (d_below G a n cap zs 3 _ (by omega) (by omega) hj.1).mono ?_
       rintro e w1 ⟨x, hx0, hx1, rfl, hd⟩
       exact hK _ _ (dk_drew hj hd) ⟨x, rfl, hx0, hx1⟩ (vk_keeps (keepk_drew hj hd))
     · -- 9
       obtain ⟨B, xs, e1, hB, hxs, hel⟩ : SLk 3 (u 12) w := hV ⟨6, .data⟩ (by simp) rfl
       obtain ⟨x, e2, hx0, hx1⟩ : BLk 3 (u 14) := hV ⟨8, .data⟩ (by simp) rfl
       obtain ⟨t, hy, ht⟩ := hel x.toNat (by omega)
       rw [e1, e2] at hK ⊢
       go_simp
       exact hK _ _ hj ⟨B, x.toNat, xs, t, rfl, hB, hy, ht⟩ (fun _ _ h => h)
     · -- 10
       obtain ⟨B, o, xs, t, e1, hB, hy, ht⟩ : ADk (u 15) w := hV ⟨9, .data⟩ (by simp) rfl
       have hc : w.cell? ⟨B, o, none⟩ = some (.string t) := by rw [cell_of_row _ B o xs 9 (0, 0) hB]; exact hy
       rw [e1] at hK ⊢
       go_simp
       exact hK _ _ hj ⟨t, ht, rfl⟩ (fun _ _ h => h)
     · -- 11
       go_simp
       refine hK _ _ (dk_alloc hj _) ⟨_, _, rfl, heap_alloc_new w _, rfl, fun k hk => ?_⟩ (vk_keeps (keepk_alloc _))
       rcases (show k = 0 ∨ k = 1 ∨ k = 2 ∨ k = 3 ∨ k = 4 by omega) with e | e | e | e | e <;> subst e <;> exact ⟨_, rfl, by decide⟩
     · -- 12
       go_simp
       exact hK _ _ hj rfl (fun _ _ h => h)
     · -- 13
       have hp : u 18 = .pointer (some ⟨G, 0, none⟩) := hV ⟨12, .data⟩ (by simp) rfl
       rw [hp] at hK ⊢
       go_simp
       refine (d_below G a n cap zs 5 _ (by omega) (by omega) hj.1).mono ?_
       rintro e w1 ⟨x, hx0, hx1, rfl, hd⟩
       exact hK _ _ (dk_drew hj hd) ⟨x, rfl, hx0, hx1⟩ (vk_keeps (keepk_drew hj hd))
     · -- 14
       obtain ⟨B, xs, e1, hB, hxs, hel⟩ : SLk 5 (u 17) w := hV ⟨11, .data⟩ (by simp) rfl
       obtain ⟨x, e2, hx0, hx1⟩ : BLk 5 (u 19) := hV ⟨13, .data⟩ (by simp) rfl
       obtain ⟨t, hy, ht⟩ := hel x.toNat (by omega)
       rw [e1, e2] at hK ⊢
       go_simp
       exact hK _ _ hj ⟨B, x.toNat, xs, t, rfl, hB, hy, ht⟩ (fun _ _ h => h)
     · -- 15
       obtain ⟨B, o, xs, t, e1, hB, hy, ht⟩ : ADk (u 20) w := hV ⟨14, .data⟩ (by simp) rfl
       have hc : w.cell? ⟨B, o, none⟩ = some (.string t) := by rw [cell_of_row _ B o xs 9 (0, 0) hB]; exact hy
       rw [e1] at hK ⊢
       go_simp
       exact hK _ _ hj ⟨t, ht, rfl⟩ (fun _ _ h => h)
     · -- 16
       go_simp
       refine hK _ _ (dk_alloc hj _) ⟨_, _, rfl, heap_alloc_new w _, rfl, fun k hk => ?_⟩ (vk_keeps (keepk_alloc _))
       rcases (show k = 0 ∨ k = 1 ∨ k = 2 ∨ k = 3 by omega) with e | e | e | e <;> subst e <;> exact ⟨_, rfl, by decide⟩
     · -- 17
       go_simp
       exact hK _ _ hj rfl (fun _ _ h => h)
     · -- 18
       have hp : u 23 = .pointer (some ⟨G, 0, none⟩) := hV ⟨17, .data⟩ (by simp) rfl
       rw [hp] at hK ⊢
       go_simp
       refine (d_below G a n cap zs 4 _ (by omega) (by omega) hj.1).mono ?_
       rintro e w1 ⟨x, hx0, hx1, rfl, hd⟩
       exact hK _ _ (dk_drew hj hd) ⟨x, rfl, hx0, hx1⟩ (vk_keeps (keepk_drew hj hd))
     · -- 19
       obtain ⟨B, xs, e1, hB, hxs, hel⟩ : SLk 4 (u 22) w := hV ⟨16, .data⟩ (by simp) rfl
       obtain ⟨x, e2, hx0, hx1⟩ : BLk 4 (u 24) := hV ⟨18, .data⟩ (by simp) rfl
       obtain ⟨t, hy, ht⟩ := hel x.toNat (by omega)
       rw [e1, e2] at hK ⊢
       go_simp
       exact hK _ _ hj ⟨B, x.toNat, xs, t, rfl, hB, hy, ht⟩ (fun _ _ h => h)
     · -- 20
       obtain ⟨B, o, xs, t, e1, hB, hy, ht⟩ : ADk (u 25) w := hV ⟨19, .data⟩ (by simp) rfl
       have hc : w.cell? ⟨B, o, none⟩ = some (.string t) := by rw [cell_of_row _ B o xs 9 (0, 0) hB]; exact hy
       rw [e1] at hK ⊢
       go_simp
       exact hK _ _ hj ⟨t, ht, rfl⟩ (fun _ _ h => h)
     · -- 21
       obtain ⟨t, ht, e1⟩ : TX (u 26) := hV ⟨20, .data⟩ (by simp) rfl
       rw [e1] at hK ⊢
       go_simp
       exact hK _ _ (dk_alloc hj _) ⟨_, _, t, rfl, ht, own_fullK [.string t] (Nat.le_of_lt (dk_lt hj)) (by unfold maxLen; simp)⟩ (vk_keeps (keepk_alloc _))
     · -- 22
       obtain ⟨t1, ht1, e1⟩ : TX (u 8) := hV ⟨2, .data⟩ (by simp) rfl
       obtain ⟨x2, e2, hx0, hx1⟩ : KD (u 11) := hV ⟨5, .data⟩ (by simp) rfl
       obtain ⟨t3, ht3, e3⟩ : TX (u 16) := hV ⟨10, .data⟩ (by simp) rfl
       obtain ⟨t4, ht4, e4⟩ : TX (u 21) := hV ⟨15, .data⟩ (by simp) rfl
       obtain ⟨ad, cp, t5, e5, ht5, ho5⟩ : F1 w0 (u 27) w := hV ⟨21, .data⟩ (by simp) rfl
       rw [e1, e2, e3, e4, e5] at hK ⊢
       have HO5 := hide ho5
       clear ho5
       go_simp
       exact hK _ _ hj ⟨t1, x2, t3, t4, ad, cp, t5, rfl, ⟨ht1, ht3, ht4, Nat.zero_le _, by omega, hx1⟩, ht5, HO5.out⟩ (fun _ _ h => h)
     · -- 23
       go_simp
       exact hK _ _ (dk_alloc hj _) ⟨_, rfl, dk_lt hj, ⟨#[]⟩, 0, ⟨#[]⟩, ⟨#[]⟩, none, [], 0, ⟨#[]⟩, heap_alloc_new w _, ⟨Nat.zero_le _, Nat.zero_le _, Nat.zero_le _, Nat.zero_le _, by omega, by omega⟩, Nat.zero_le _, fun t ht => absurd ht List.not_mem_nil, ⟨rfl, .inl ⟨rfl, rfl⟩⟩⟩ (vk_keeps (keepk_alloc _))
     · -- 24
       obtain ⟨t1, x2, t3, t4, ad, cp, t5, e1, hok, ht5, ho5⟩ : AGk w0 (u 28) w := hV ⟨22, .data⟩ (by simp) rfl
       obtain ⟨B, e2, hlt, hB⟩ : BXk w0 (u 5) w := hV ⟨23, .data⟩ (by simp) rfl
       have HS := hide (dk_set6 hj hlt hB hok ht5 ho5)
       obtain ⟨nm, kd, on, pa, ad2, fl, cp2, re, hB, -⟩ := hB
       obtain ⟨⟨c0, c1, c2, c3, c4, c5⟩, f0, f1, f2, f3, f4, f5⟩ := key_cells hB
       rw [e1, e2] at hK ⊢
       clear ho5 hB
       go_simp
       exact hK undef _ HS.out.1 trivial (vk_keeps HS.out.2)
   case done =>
     intro u w hj hV
     obtain ⟨B, e5, hlt, hB⟩ : BXk w0 (u 5) w := hV 23 (by decide)
     rw [e5]
     clear hV
     go_wp2
     go_meet
     exact ⟨B, rfl, hlt, hide hj, hide hB⟩
  case rest =>
    obtain ⟨B, rfl, hlt, HJ2, HB⟩ := hcut
    have hG := HJ2.out.2.2.2
    clear HJ
    go_wp2_with fail
    refine (d_once G a n cap zs 4 _ (by omega) (by omega) HJ2.out.1).mono ?_
    rintro e w1 ⟨o, rfl, hd⟩
    obtain ⟨nm, kd, on, pa, ad, fl, cp, re, hke⟩ := HB.out
    have HKE := hide (ke_grown hke hd.2 hG hlt)
    have HDK := hide (dk_drew HJ2.out hd)
    clear hd HJ2 HB hke
    cases o
    · replace HKE := hide (ke_two HKE.out)
      have hk4 := key_cells HKE.out.1
      by_cases hk3 : kd = 3
      · subst hk3
        obtain ⟨⟨-, c1, -, -, -, c5⟩, -, -, -, -, -, f5⟩ := hk4
        go_wp2_with fail
        refine (d_belowG G a n cap zs (q + 1) _ (by omega) (by omega) HDK.out.1).mono ?_
        rintro e w8 ⟨x8, hx8, hx8b, rfl, hd8⟩
        replace HKE := hide (ke_grown HKE.out hd8.2 hG hlt)
        replace HDK := hide (dk_drew HDK.out hd8)
        clear hd8 c1 c5 f5
        go_wp2_with fail
        refine (s_dig1 x8 _ hx8 (by omega)).mono ?_
        rintro e w9 ⟨t9, ht9, rfl, hb9⟩
        replace HKE := hide (ke_below HKE.out hb9)
        replace HDK := hide (dk_below HDK.out hb9)
        obtain ⟨⟨-, -, -, -, -, c5⟩, -, -, -, -, -, f5⟩ := key_cells HKE.out.1
        have hS9 : ¬ 9223372036854775807 < 1 + t9.size := by omega
        have ht99 : (⟨#[107]⟩ ++ t9 : ByteArray).size ≤ 8 := by rw [ByteArray.size_append]; have h7 : (⟨#[107]⟩ : ByteArray).size = 1 := rfl; omega
        obtain ⟨R9, hR9⟩ : ∃ R, (⟨#[107]⟩ ++ t9 : ByteArray) = R := ⟨_, rfl⟩
        rw [hR9] at ht99
        clear hb9
        go_upto_region 6 with fail
        replace HKE := hide (ke_set5 HKE.out ht99)
        replace HDK := hide (dk_grown HDK.out (grown_setK _ B 5 (.string R9)) hlt)
        clear c5 f5
        obtain ⟨⟨c0, c1, c2, c3, c4, c5⟩, f0, f1, f2, f3, f4, f5⟩ := key_cells HKE.out.1
        obtain ⟨⟨d0, d1, d2, d3, d4, d5⟩, g0, g1, g2, g3, g4, g5⟩ := key_cells HDK.out.2.2.1
        have hBw := (Array.getElem?_eq_some_iff.1 HKE.out.1).1
        have hne9 : B ≠ w0.heap.size := by omega
        go_wp2
        have hT := key_sets (x0 := .string nm) (x1 := .int .i64 3) (x2 := .string on) (x3 := .string pa) (x4 := .slice ad fl.length cp) (x5 := .string R9) HDK.out.2.2.1
        refine bodyPost_ret (v := .agg #[.string nm, .int .i64 3, .string on, .string pa, .slice ad fl.length cp, .string R9]) ?_ rfl ⟨nm, 3, on, pa, ad, fl, cp, R9, rfl, HKE.out.2.1, HKE.out.2.2.1, HKE.out.2.2.2.1, ?_, ?_⟩
        · exact results_cell_row Tryz.results23 _ _ w0.heap.size 27 _ _ _ rfl hT Tryz.underlying27 rfl (by kernel_rfl)
        · exact own_sets HKE.out.2.2.2.2 HDK.out.2.2.1 _ _ _ _ _ _
        · exact drew_res HDK.out _ _ _ _ _ _
      · have hk5 : (kd == 3) = false := by rw [beq_eq_false_iff_ne]; exact hk3
        obtain ⟨⟨-, c1, -, -, -, -⟩, -⟩ := hk4
        go_upto_region 6 with fail
        clear c1
        obtain ⟨⟨c0, c1, c2, c3, c4, c5⟩, f0, f1, f2, f3, f4, f5⟩ := key_cells HKE.out.1
        obtain ⟨⟨d0, d1, d2, d3, d4, d5⟩, g0, g1, g2, g3, g4, g5⟩ := key_cells HDK.out.2.2.1
        have hBw := (Array.getElem?_eq_some_iff.1 HKE.out.1).1
        have hne9 : B ≠ w0.heap.size := by omega
        go_wp2
        have hT := key_sets (x0 := .string nm) (x1 := .int .i64 kd) (x2 := .string on) (x3 := .string pa) (x4 := .slice ad fl.length cp) (x5 := .string re) HDK.out.2.2.1
        refine bodyPost_ret (v := .agg #[.string nm, .int .i64 kd, .string on, .string pa, .slice ad fl.length cp, .string re]) ?_ rfl ⟨nm, kd, on, pa, ad, fl, cp, re, rfl, HKE.out.2.1, HKE.out.2.2.1, HKE.out.2.2.2.1, ?_, ?_⟩
        · exact results_cell_row Tryz.results23 _ _ w0.heap.size 27 _ _ _ rfl hT Tryz.underlying27 rfl (by kernel_rfl)
        · exact own_sets HKE.out.2.2.2.2 HDK.out.2.2.1 _ _ _ _ _ _
        · exact drew_res HDK.out _ _ _ _ _ _
    · obtain ⟨⟨-, -, -, -, c4, -⟩, -, -, -, -, f4, -⟩ := key_cells HKE.out.1
      have hcd : w1.drew.cell? ⟨B, 4, none⟩ = some (.slice ad fl.length cp) := c4
      have hfl := HKE.out.2.2.1
      go_wp2_with fail
      go_region_law (first
        | (go_simp; go_at_call 48; refine (d_field G a n cap zs w1.drew HDK.out.1).mono ?_; rintro e w2 ⟨t2, ht2, rfl, hd2⟩; have HKE2 := hide (ke_grown HKE.out (show w1.grownBy w2 (some G) from ⟨hd2.2.os, hd2.2.tape, hd2.2.output, hd2.2.size, hd2.2.block⟩) hG hlt); have HDK2 := hide (dk_drew HDK.out (show Drew G a n cap zs w1 w2 from ⟨hd2.1, ⟨hd2.2.os, hd2.2.tape, hd2.2.output, hd2.2.size, hd2.2.block⟩⟩)); have hc2 := (key_cells HKE2.out.1).1.2.2.2.2.1; have hc2a : ∀ o, (w2.alloc o).cell? ⟨B, 4, none⟩ = some (.slice ad fl.length cp) := fun o => (key_cells (ke_below HKE2.out ((Below.refl _ _).alloc (Nat.le_refl _) o)).1).1.2.2.2.2.1; have HOW := hide HKE2.out.2.2.2.2; have hw02 : w0.heap.size ≤ w2.heap.size := Nat.le_of_lt (dk_lt HDK2.out); clear hd2)
        | (refine step_append_lies _ (by rfl) _ _ _ (by rfl) w0.heap.size 9 i0 _ 1 16 Tryz.underlying25 hi0 hz0 hz1 hz2 rfl (by omega) (.slice ad fl.length cp) fl.length (fl.map Value.string) (by rfl) (HOW.out.alloc _) ⟨w2.heap.size, 0, none⟩ 1 1 [.string t2] (by rfl) (by rfl) (fun j u hj => gOne_new w2 _ _ j u hj) (gStr_list _) (by omega) (by unfold maxLen; omega) (by omega) (by simp; omega) (w2.heap.size + 1) (by simp) ?_; intro gg cap9 w6 hown6 hgrow6 hat6 hlt6; have HKE6 := hide (ke_own (ke_below HKE2.out ((Below.refl _ _).alloc (Nat.le_refl _) _)) hgrow6 hown6 ht2.1); have HDK6 := hide (dk_own (dk_alloc HDK2.out _) (HOW.out.alloc _) hgrow6); have hfz := (key_cells HKE6.out.1).2.2.2.2.2.1; have hcz := (key_cells HKE6.out.1).1.2.2.2.2.1; clear hown6 hgrow6 hat6)
        | (fail))
      all_goals
        replace HKE := hide (ke_set4 HKE6.out)
        replace HDK := hide (dk_grown HDK6.out (grown_setK _ B 4 (.slice (some ⟨gg, 0, none⟩) (fl.length + 1) cap9)) hlt)
        clear HKE6 HDK6 hfz hcz HOW hc2 hc2a HKE2 HDK2 c4 f4 hcd
        obtain ⟨fl9, hfl9⟩ : ∃ l, fl ++ [t2] = l := ⟨_, rfl⟩
        have hln9 : fl9.length = fl.length + 1 := by rw [← hfl9]; simp
        rw [hfl9] at HKE
        have hk4 := key_cells HKE.out.1
        by_cases hk3 : kd = 3
        · subst hk3
          obtain ⟨⟨-, c1, -, -, -, c5⟩, -, -, -, -, -, f5⟩ := hk4
          go_wp2_with fail
          refine (d_belowG G a n cap zs (q + 1) _ (by omega) (by omega) HDK.out.1).mono ?_
          rintro e w8 ⟨x8, hx8, hx8b, rfl, hd8⟩
          replace HKE := hide (ke_grown HKE.out hd8.2 hG hlt)
          replace HDK := hide (dk_drew HDK.out hd8)
          clear hd8 c1 c5 f5
          go_wp2_with fail
          refine (s_dig1 x8 _ hx8 (by omega)).mono ?_
          rintro e w9 ⟨t9, ht9, rfl, hb9⟩
          replace HKE := hide (ke_below HKE.out hb9)
          replace HDK := hide (dk_below HDK.out hb9)
          obtain ⟨⟨-, -, -, -, -, c5⟩, -, -, -, -, -, f5⟩ := key_cells HKE.out.1
          have hS9 : ¬ 9223372036854775807 < 1 + t9.size := by omega
          have ht99 : (⟨#[107]⟩ ++ t9 : ByteArray).size ≤ 8 := by rw [ByteArray.size_append]; have h7 : (⟨#[107]⟩ : ByteArray).size = 1 := rfl; omega
          obtain ⟨R9, hR9⟩ : ∃ R, (⟨#[107]⟩ ++ t9 : ByteArray) = R := ⟨_, rfl⟩
          rw [hR9] at ht99
          clear hb9
          go_upto_region 6 with fail
          replace HKE := hide (ke_set5 HKE.out ht99)
          replace HDK := hide (dk_grown HDK.out (grown_setK _ B 5 (.string R9)) hlt)
          clear c5 f5
          obtain ⟨⟨c0, c1, c2, c3, c4, c5⟩, f0, f1, f2, f3, f4, f5⟩ := key_cells HKE.out.1
          obtain ⟨⟨d0, d1, d2, d3, d4, d5⟩, g0, g1, g2, g3, g4, g5⟩ := key_cells HDK.out.2.2.1
          have hBw := (Array.getElem?_eq_some_iff.1 HKE.out.1).1
          have hne9 : B ≠ w0.heap.size := by omega
          go_wp2
          have hT := key_sets (x0 := .string nm) (x1 := .int .i64 3) (x2 := .string on) (x3 := .string pa) (x4 := .slice (some ⟨gg, 0, none⟩) (fl.length + 1) cap9) (x5 := .string R9) HDK.out.2.2.1
          refine bodyPost_ret (v := .agg #[.string nm, .int .i64 3, .string on, .string pa, .slice (some ⟨gg, 0, none⟩) (fl.length + 1) cap9, .string R9]) ?_ rfl ⟨nm, 3, on, pa, some ⟨gg, 0, none⟩, fl9, cap9, R9, (by rw [hln9]), HKE.out.2.1, HKE.out.2.2.1, HKE.out.2.2.2.1, ?_, ?_⟩
          · exact results_cell_row Tryz.results23 _ _ w0.heap.size 27 _ _ _ rfl hT Tryz.underlying27 rfl (by kernel_rfl)
          · exact own_sets HKE.out.2.2.2.2 HDK.out.2.2.1 _ _ _ _ _ _
          · exact drew_res HDK.out _ _ _ _ _ _
        · have hk5 : (kd == 3) = false := by rw [beq_eq_false_iff_ne]; exact hk3
          obtain ⟨⟨-, c1, -, -, -, -⟩, -⟩ := hk4
          go_upto_region 6 with fail
          clear c1
          obtain ⟨⟨c0, c1, c2, c3, c4, c5⟩, f0, f1, f2, f3, f4, f5⟩ := key_cells HKE.out.1
          obtain ⟨⟨d0, d1, d2, d3, d4, d5⟩, g0, g1, g2, g3, g4, g5⟩ := key_cells HDK.out.2.2.1
          have hBw := (Array.getElem?_eq_some_iff.1 HKE.out.1).1
          have hne9 : B ≠ w0.heap.size := by omega
          go_wp2
          have hT := key_sets (x0 := .string nm) (x1 := .int .i64 kd) (x2 := .string on) (x3 := .string pa) (x4 := .slice (some ⟨gg, 0, none⟩) (fl.length + 1) cap9) (x5 := .string re) HDK.out.2.2.1
          refine bodyPost_ret (v := .agg #[.string nm, .int .i64 kd, .string on, .string pa, .slice (some ⟨gg, 0, none⟩) (fl.length + 1) cap9, .string re]) ?_ rfl ⟨nm, kd, on, pa, some ⟨gg, 0, none⟩, fl9, cap9, re, (by rw [hln9]), HKE.out.2.1, HKE.out.2.2.1, HKE.out.2.2.2.1, ?_, ?_⟩
          · exact results_cell_row Tryz.results23 _ _ w0.heap.size 27 _ _ _ rfl hT Tryz.underlying27 rfl (by kernel_rfl)
          · exact own_sets HKE.out.2.2.2.2 HDK.out.2.2.1 _ _ _ _ _ _
          · exact drew_res HDK.out _ _ _ _ _ _
end Go.Proofs.YtdepgkpfibmbgaaGreatDoor

/-
  Contract of the draw of FnTables: a flat document, a place and a key.
-/
namespace Go.Proofs.YtdepgkpfibmbgaaGreatDoor
open Go.RowKit Go.Joins
set_option linter.unusedVariables false
set_option linter.unusedSimpArgs false
/-- What DrawTableOf answers. -/
def DtAns (w : World) (e : Ending) (w' : World) : Prop := ∃ ad m c D x kad cp, ∃ k : Ky, e = .returned (.tuple #[.slice ad m c, .int .i64 x, .agg #[.string k.nm, .int .i64 k.kd, .string k.on, .string k.pa, .slice kad k.fl.length cp, .string k.re]]) ∧ D.n = m ∧ (1 ≤ m ∧ m ≤ 15) ∧ dcTot D ≤ 1048576 ∧ DcAt w' ad D w'.heap.size ∧ KOk k.nm k.kd k.on k.pa k.re ∧ k.fl.length ≤ 2 ∧ k.fl.length ≤ cp ∧ (∀ t ∈ k.fl, t.size ≤ 8) ∧ TxAt w' kad k.fl w'.heap.size ∧ Below w.heap.size w w'
theorem own_capK {w : World} {B m c : Nat} {e : TypeId} {ad : Option Addr} {xs : List Value} (h : w.ownsRow B e 1 (.slice ad m c) m xs) : m ≤ c := by
  rcases h.2 with ⟨e1, h0⟩ | ⟨g, cap, cur, hv, -, -, h1, -⟩
  · simp only [Value.slice.injEq] at e1; omega
  · simp only [Value.slice.injEq] at hv; omega
theorem tx_setR {w : World} {a : Option Addr} {L : List ByteArray} {B : Nat} (h : TxAt w a L B) {q : Nat} (i : Nat) (v : Value) (hne : ∀ b off, a = some ⟨b, off, none⟩ → L ≠ [] → b ≠ q) : TxAt (w.setCell ⟨q, i, none⟩ v) a L B := fun h0 => by
  obtain ⟨b, off, e, hb, hc⟩ := h h0
  refine ⟨b, off, e, hb, fun j hj => ?_⟩
  rw [World.cell?_setCell_far _ _ _ _ (by show q ≠ b; exact fun e2 => hne b off e h0 e2.symm)]
  exact hc j hj
theorem src_belowT {w w' : World} {a : Option Addr} {zs : List Int} (h : SrcAt w a zs w.heap.size) (hb : Below w.heap.size w w') : SrcAt w' a zs w'.heap.size := by
  intro hne
  obtain ⟨b, off, rfl, hb2, hc⟩ := h hne
  exact ⟨b, off, rfl, Nat.lt_of_lt_of_le hb2 hb.size, fun j hj => (hb.cell (p := ⟨b, off + j, none⟩) hb2).trans (hc j hj)⟩
set_option maxRecDepth 100000 in
set_option maxHeartbeats 8000000 in
theorem d_tab (a : Option Addr) (n cap : Nat) (zs : List Int) (w : World) (hl : zs.length = n) (hz : ∀ x ∈ zs, 0 ≤ x ∧ x ≤ 255) (hn : n ≤ 1048576) (hs : SrcAt w a zs w.heap.size) :
    Calls Tryz.prog 6 #[.slice a n cap] w (DtAns w) := by
  have HS := hide hs
  have HL := hide hl
  have HZ := hide hz
  clear hs hl hz
  go_enter Tryz.func6, Tryz.ntmps6
  go_wp2_with fail
  have sx := (Below.refl w.heap.size w).alloc (Nat.le_refl _) (.cells #[.string ⟨#[]⟩, .int .i64 0, .string ⟨#[]⟩, .string ⟨#[]⟩, .slice none 0 0, .string ⟨#[]⟩] 27)
  have HC0 := hide (heap_alloc_new w (.cells #[.string ⟨#[]⟩, .int .i64 0, .string ⟨#[]⟩, .string ⟨#[]⟩, .slice none 0 0, .string ⟨#[]⟩] 27))
  have HS0 := hide (src_belowT HS.out sx)
  have HB0 := hide sx
  have hw0 : (w.alloc (.cells #[.string ⟨#[]⟩, .int .i64 0, .string ⟨#[]⟩, .string ⟨#[]⟩, .slice none 0 0, .string ⟨#[]⟩] 27)).heap.size = w.heap.size + 1 := by simp
  obtain ⟨W0, hW0⟩ : ∃ W, w.alloc (.cells #[.string ⟨#[]⟩, .int .i64 0, .string ⟨#[]⟩, .string ⟨#[]⟩, .slice none 0 0, .string ⟨#[]⟩] 27) = W := ⟨_, rfl⟩
  rw [hW0] at HC0 HS0 HB0 hw0 ⊢
  have HW0 := hide hw0
  clear hW0 sx hw0
  refine (d_open a n cap zs W0 HL.out HZ.out hn HS0.out).mono ?_
  rintro e w1 ⟨rfl, hrd, hb1⟩
  have HRD := hide hrd
  have HB1 := hide hb1
  clear hrd hb1
  go_wp2_with fail
  refine (d_flat W0.heap.size a n cap zs _ HRD.out).mono ?_
  rintro e w2 ⟨ad, m, c, D, rfl, hg, hm1, hm2⟩
  have HGS := hide hg
  clear hg
  go_wp2_with fail
  refine (d_once W0.heap.size a n cap zs 3 _ (by omega) (by omega) HGS.out.1).mono ?_
  rintro e w3 ⟨o, rfl, hd⟩
  replace HGS := hide (gs_drew HGS.out hd)
  clear hd
  cases o
  · go_upto_region 6 with fail
    go_wp2_with fail
    refine (d_key W0.heap.size a n cap zs 0 _ (by omega) (by omega) HGS.out.1).mono ?_
    rintro e w5 ⟨nm, kd, on, pa, kad, fl, cp, re, rfl, hok, hf2, hf8, hown, hd⟩
    have hGl := gs_size HGS.out
    have hw0 := HW0.out
    replace HGS := hide (gs_drew HGS.out hd)
    have hh5 : w5.heap[w.heap.size]? = some (.cells #[.string ⟨#[]⟩, .int .i64 0, .string ⟨#[]⟩, .string ⟨#[]⟩, .slice none 0 0, .string ⟨#[]⟩] 27 (0, 0)) := (HGS.out.2.2.1.block w.heap.size (by omega)).trans ((HB1.out.block w.heap.size (by omega)).trans HC0.out)
    obtain ⟨⟨c0, c1, c2, c3, c4, c5⟩, f0, f1, f2, f3, f4, f5⟩ := key_cells hh5
    have hT := key_sets (x0 := .string nm) (x1 := .int .i64 kd) (x2 := .string on) (x3 := .string pa) (x4 := .slice kad fl.length cp) (x5 := .string re) hh5
    have hgr : w5.grownBy ((((((w5.setCell ⟨w.heap.size, 0, none⟩ (.string nm)).setCell ⟨w.heap.size, 1, none⟩ (.int .i64 kd)).setCell ⟨w.heap.size, 2, none⟩ (.string on)).setCell ⟨w.heap.size, 3, none⟩ (.string pa)).setCell ⟨w.heap.size, 4, none⟩ (.slice kad fl.length cp)).setCell ⟨w.heap.size, 5, none⟩ (.string re)) (some w.heap.size) := grown_sets _ _ _ _ _ _
    have HTX := hide (tx_own (own_low hown hgr (by omega)))
    have HIT := hide (drIt_kept HGS.out.2.1 hgr (fun k hk e => by cases hk; have h9 := drIt_lt HGS.out.2.1 _ e; omega) (keepA_step (keepA_refl w5) hgr (fun k hk => by cases hk; exact .inr ⟨_, _, _, hh5, by decide⟩)))
    have HBF : Hid (Below w.heap.size w ((((((w5.setCell ⟨w.heap.size, 0, none⟩ (.string nm)).setCell ⟨w.heap.size, 1, none⟩ (.int .i64 kd)).setCell ⟨w.heap.size, 2, none⟩ (.string on)).setCell ⟨w.heap.size, 3, none⟩ (.string pa)).setCell ⟨w.heap.size, 4, none⟩ (.slice kad fl.length cp)).setCell ⟨w.heap.size, 5, none⟩ (.string re))) := hide ((HB0.out.trans ((HB1.out.trans HGS.out.2.2.1).mono HB0.out.size)).grown hgr (by have h8 := HB0.out.size; have h9 := HB1.out.size; have h7 := HGS.out.2.2.1.size; omega) (fun k hk => by cases hk; exact Nat.le_refl _))
    have HOK := hide hok
    have HF2 := hide hf2
    have HF8 := hide hf8
    have HCP := hide (own_capK hown)
    have hHT := hide hT
    clear hown hd hok hf2 hf8 hT hh5 hgr hw0
    go_wp2
    obtain ⟨⟨y0, y1, y2, y3, y4, y5⟩, -⟩ := key_cells hHT.out
    refine bodyPost_ret (v := .tuple #[.slice ad m c, .int .i64 0, .agg #[.string nm, .int .i64 kd, .string on, .string pa, .slice kad fl.length cp, .string re]]) (by simp [results, Tryz.results6, go_sem, y0, y1, y2, y3, y4, y5]) rfl ⟨ad, m, c, D, 0, kad, cp, ⟨nm, kd, on, pa, fl, re⟩, rfl, (drIt_dc HIT.out).1, ⟨hm1, hm2⟩, drIt_tot HIT.out (by omega), (drIt_dc HIT.out).2, HOK.out, HF2.out, HCP.out, HF8.out, HTX.out, HBF.out⟩
  · go_wp2_with fail
    refine (d_offG W0.heap.size a n cap zs 0 ((m : Int) - 1) _ (by omega) (by omega) (by omega) HGS.out.1).mono ?_
    rintro e w4 ⟨x, rfl, hd⟩
    replace HGS := hide (gs_drew HGS.out hd)
    clear hd
    go_wp2_with fail
    refine (d_key W0.heap.size a n cap zs 0 _ (by omega) (by omega) HGS.out.1).mono ?_
    rintro e w5 ⟨nm, kd, on, pa, kad, fl, cp, re, rfl, hok, hf2, hf8, hown, hd⟩
    have hGl := gs_size HGS.out
    have hw0 := HW0.out
    replace HGS := hide (gs_drew HGS.out hd)
    have hh5 : w5.heap[w.heap.size]? = some (.cells #[.string ⟨#[]⟩, .int .i64 0, .string ⟨#[]⟩, .string ⟨#[]⟩, .slice none 0 0, .string ⟨#[]⟩] 27 (0, 0)) := (HGS.out.2.2.1.block w.heap.size (by omega)).trans ((HB1.out.block w.heap.size (by omega)).trans HC0.out)
    obtain ⟨⟨c0, c1, c2, c3, c4, c5⟩, f0, f1, f2, f3, f4, f5⟩ := key_cells hh5
    have hT := key_sets (x0 := .string nm) (x1 := .int .i64 kd) (x2 := .string on) (x3 := .string pa) (x4 := .slice kad fl.length cp) (x5 := .string re) hh5
    have hgr : w5.grownBy ((((((w5.setCell ⟨w.heap.size, 0, none⟩ (.string nm)).setCell ⟨w.heap.size, 1, none⟩ (.int .i64 kd)).setCell ⟨w.heap.size, 2, none⟩ (.string on)).setCell ⟨w.heap.size, 3, none⟩ (.string pa)).setCell ⟨w.heap.size, 4, none⟩ (.slice kad fl.length cp)).setCell ⟨w.heap.size, 5, none⟩ (.string re)) (some w.heap.size) := grown_sets _ _ _ _ _ _
    have HTX := hide (tx_own (own_low hown hgr (by omega)))
    have HIT := hide (drIt_kept HGS.out.2.1 hgr (fun k hk e => by cases hk; have h9 := drIt_lt HGS.out.2.1 _ e; omega) (keepA_step (keepA_refl w5) hgr (fun k hk => by cases hk; exact .inr ⟨_, _, _, hh5, by decide⟩)))
    have HBF : Hid (Below w.heap.size w ((((((w5.setCell ⟨w.heap.size, 0, none⟩ (.string nm)).setCell ⟨w.heap.size, 1, none⟩ (.int .i64 kd)).setCell ⟨w.heap.size, 2, none⟩ (.string on)).setCell ⟨w.heap.size, 3, none⟩ (.string pa)).setCell ⟨w.heap.size, 4, none⟩ (.slice kad fl.length cp)).setCell ⟨w.heap.size, 5, none⟩ (.string re))) := hide ((HB0.out.trans ((HB1.out.trans HGS.out.2.2.1).mono HB0.out.size)).grown hgr (by have h8 := HB0.out.size; have h9 := HB1.out.size; have h7 := HGS.out.2.2.1.size; omega) (fun k hk => by cases hk; exact Nat.le_refl _))
    have HOK := hide hok
    have HF2 := hide hf2
    have HF8 := hide hf8
    have HCP := hide (own_capK hown)
    have hHT := hide hT
    clear hown hd hok hf2 hf8 hT hh5 hgr hw0
    go_wp2
    obtain ⟨⟨y0, y1, y2, y3, y4, y5⟩, -⟩ := key_cells hHT.out
    refine bodyPost_ret (v := .tuple #[.slice ad m c, .int .i64 x, .agg #[.string nm, .int .i64 kd, .string on, .string pa, .slice kad fl.length cp, .string re]]) (by simp [results, Tryz.results6, go_sem, y0, y1, y2, y3, y4, y5]) rfl ⟨ad, m, c, D, x, kad, cp, ⟨nm, kd, on, pa, fl, re⟩, rfl, (drIt_dc HIT.out).1, ⟨hm1, hm2⟩, drIt_tot HIT.out (by omega), (drIt_dc HIT.out).2, HOK.out, HF2.out, HCP.out, HF8.out, HTX.out, HBF.out⟩
end Go.Proofs.YtdepgkpfibmbgaaGreatDoor
