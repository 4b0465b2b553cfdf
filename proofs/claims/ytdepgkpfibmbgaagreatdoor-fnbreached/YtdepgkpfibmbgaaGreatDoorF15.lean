/-
  Contract: a drawn document that is flat: whatever the code is, a row of items of its own.
-/
import Derived.Test.YtdepgkpfibmbgaaGreatDoorF14
import Derived.Deep.DeepCutAuto
import Derived.Deep.CutBlock
namespace Go.Proofs.YtdepgkpfibmbgaaGreatDoor
open Go.RowKit Go.Joins
set_option linter.unusedVariables false
set_option linter.unusedSimpArgs false
/-- Each item without a name stands below one ahead of it, and the first one has a name. -/
def FlOk (D : Dc) : Prop := 1 ≤ D.n ∧ (D.NM 0).toList.isEmpty = false ∧ ∀ j, j < D.n → (D.NM j).toList.isEmpty = true → ∃ k : Nat, k < j ∧ D.U j = (k : Int)
theorem flok_one : FlOk (D1 (-1) ⟨#[97]⟩) := ⟨Nat.le_refl _, by show (⟨#[97]⟩ : ByteArray).toList.isEmpty = false; rw [ByteArray.toList_eq]; rfl, fun j hj h => by have h9 : (⟨#[97]⟩ : ByteArray).toList.isEmpty = true := h; rw [ByteArray.toList_eq] at h9; cases h9⟩
theorem flok_put {D : Dc} {u : Int} {nm tx : ByteArray} {ac : Nat} {an av : Nat → ByteArray} (h : FlOk D) (hn : nm.toList.isEmpty = true → ∃ k : Nat, k < D.n ∧ u = (k : Int)) : FlOk (D.put u nm tx ac an av) := by
  obtain ⟨h1, h2, h3⟩ := h
  refine ⟨by show 1 ≤ D.n + 1; omega, ?_, fun j hj he => ?_⟩
  · show (if 0 = D.n then nm else D.NM 0).toList.isEmpty = false
    rw [if_neg (by omega)]
    exact h2
  · have hj' : j < D.n + 1 := hj
    by_cases e : j = D.n
    · have he' : (if j = D.n then nm else D.NM j).toList.isEmpty = true := he
      rw [if_pos e] at he'
      obtain ⟨k, hk, hu⟩ := hn he'
      refine ⟨k, by omega, ?_⟩
      show (if j = D.n then u else D.U j) = _
      rw [if_pos e]
      exact hu
    · have he' : (if j = D.n then nm else D.NM j).toList.isEmpty = true := he
      rw [if_neg e] at he'
      obtain ⟨k, hk, hu⟩ := h3 j (by omega) he'
      refine ⟨k, hk, ?_⟩
      show (if j = D.n then u else D.U j) = _
      rw [if_neg e]
      exact hu
theorem four_cell {v : World} {S : Nat} {x : Int} (h : v.heap[S]? = some (.cells #[.string ⟨#[49]⟩, .string ⟨#[50]⟩, .string ⟨#[32, 49]⟩, .string ⟨#[51]⟩] 9 (0, 0))) (h0 : 0 ≤ x) (h1 : x < 4) : ∃ t : ByteArray, v.cell? ⟨S, x.toNat, none⟩ = some (.string t) ∧ t.size ≤ 8 := by
  rw [cell_of_row v S x.toNat _ 9 (0, 0) h]
  have hx : x.toNat = 0 ∨ x.toNat = 1 ∨ x.toNat = 2 ∨ x.toNat = 3 := by omega
  rcases hx with e | e | e | e <;> rw [e] <;> exact ⟨_, rfl, by decide⟩
theorem ab_cell {w w1 : World} {G : Nat} {x : Int} (hG : G < w.heap.size) (hg : (w.alloc (.cells #[.string ⟨#[97]⟩, .string ⟨#[98]⟩] 9)).grownBy w1 (some G)) (h0 : 0 ≤ x) (h1 : x < 2) : ∃ t : ByteArray, w1.cell? ⟨w.heap.size, x.toNat, none⟩ = some (.string t) ∧ t.size ≤ 8 ∧ t.toList.isEmpty = false := by
  have hb := hg.block w.heap.size (by simp) (fun e => by cases e; omega)
  rw [World.cell?_of_block (a := ⟨w.heap.size, x.toNat, none⟩) hb, cell_of_row _ w.heap.size x.toNat _ 9 (0, 0) (heap_alloc_new w _)]
  have hx : x.toNat = 0 ∨ x.toNat = 1 := by omega
  rcases hx with e | e <;> rw [e] <;> exact ⟨_, rfl, by decide, by rw [ByteArray.toList_eq]; rfl⟩
set_option maxRecDepth 100000 in
set_option maxHeartbeats 8000000 in
theorem d_flat (G : Nat) (a : Option Addr) (n cap : Nat) (zs : List Int) (w : World) (h : RdAt w G a n cap zs) :
    Calls Tryz.prog 20 #[.pointer (some ⟨G, 0, none⟩)] w fun e w' => ∃ ad m c D, e = .returned (.slice ad m c) ∧ GS G a n cap zs w w' ad m c D ∧ 1 ≤ m ∧ m ≤ 15 := by
  obtain ⟨i0, hi, hz0, hz1, hz2⟩ := info_parts infoIt
  obtain ⟨j0, hj, hy0, hy1, hy2⟩ := info_parts infoAt
  have hlt := rd_lt h
  have HGS : Hid (GS G a n cap zs w (w.alloc (.cells #[.int .i64 (-1), .string ⟨#[97]⟩, .string ⟨#[]⟩, .slice none 0 0] IT)) (some ⟨w.heap.size, 0, none⟩) 1 1 (D1 (-1) ⟨#[97]⟩)) := hide ⟨rd_alloc h _, drIt_one w G (-1) _ hlt (by decide), (Below.refl _ _).alloc (Nat.le_of_lt hlt) _, keepA_below (keepA_refl w) ((Below.refl _ _).alloc (Nat.le_refl _) _)⟩
  have HFL := hide flok_one
  clear h
  go_enter Tryz.func20, Tryz.ntmps20
  go_wp2_with fail
  refine (d_below G a n cap zs 8 _ (by omega) (by omega) HGS.out.1).mono ?_
  rintro e w1 ⟨q, hq0, hq1, rfl, hd⟩
  replace HGS := hide (gs_drew HGS.out hd)
  clear hd
  go_wp2
  go_loopw [3, 4] (fun lv iv wr => ∃ (i m c : Nat) (ad : Option Addr) (D : Dc), lv = .slice ad m c ∧ iv = .int .i64 i ∧ 1 ≤ m ∧ m + 2 * i ≤ 15 ∧ Hid (FlOk D) ∧ Hid (GS G a n cap zs w wr ad m c D)) (fun _ iv _ => (intOf iv).toNat)
  case atStart => exact ⟨q.toNat, 1, 1, _, _, rfl, by congr 1; omega, by omega, by omega, HFL, HGS⟩
  case round =>
    clear HGS HFL
    obtain ⟨i, m, c, ad, D, rfl, rfl, hm1, hmi, HFL, HGS⟩ := hrel
    by_cases hi0 : 0 < i
    · go_wp2_with fail
      refine (d_once G a n cap zs 3 _ (by omega) (by omega) HGS.out.1).mono ?_
      rintro e w2 ⟨bo, rfl, hd⟩
      replace HGS := hide (gs_drew HGS.out hd)
      clear hd
      obtain ⟨g, hag, -, hgl, hrow⟩ := drIt_cells HGS.out.2.1 (by omega)
      have HROW := hide hrow
      subst hag
      have HDn := hide (drIt_dc HGS.out.2.1).1
      have hs2 := gs_size HGS.out
      clear hrow
      go_upto_if 17 with fail
      go_cut [5] (fun v wx => ∃ z : Int, v = .int .i64 z ∧ w2 = wx)
      case first =>
        cases bo
        · go_wp2
          go_meet
          exact ⟨0, rfl, rfl⟩
        · go_wp2
          go_loopw [5] (fun v wr3 => ∃ k : Nat, k < m ∧ v = .int .i64 k ∧ w2 = wr3) (fun v _ => (intOf v).toNat)
          case atStart => exact ⟨m - 1, by omega, by congr 1; omega, rfl⟩
          case round =>
            obtain ⟨k, hk, rfl, rfl⟩ := hrel
            obtain ⟨ad', cp', ⟨c0, c1, c2, c3⟩, -, -⟩ := HROW.out k (by rw [HDn.out]; exact hk)
            have hki : (k : Int) < (m : Int) := by omega
            simp only [Nat.zero_add] at c0 c1 c2 c3
            cases hne : (D.NM k).toList.isEmpty
            · go_wp2
              go_meet
              exact ⟨_, rfl, rfl⟩
            · obtain ⟨k2, hk2, hU⟩ := HFL.out.2.2 k (by rw [HDn.out]; exact hk) hne
              rw [hU] at c0
              clear hU
              go_wp2
              go_roundw
              case rel => exact ⟨k2, by omega, rfl, by first | rfl | trivial⟩
              case measure => simp [intOf]; omega
      case rest =>
        obtain ⟨z, rfl, rfl⟩ := hcut
        go_wp2_with fail
        refine (d_below G a n cap zs 2 _ (by omega) (by omega) (rd_alloc HGS.out.1 _)).mono ?_
        rintro e w3 ⟨x, hx0, hx1, rfl, hd⟩
        obtain ⟨s, hs, hs8, hse⟩ := ab_cell hs2 hd.2 hx0 hx1
        replace HGS := hide (gs_drew (gs_alloc HGS.out _) hd)
        have hsz3 := gs_size HGS.out
        clear hd
        obtain ⟨xs0, hox0, hix0⟩ := HGS.out.2.1
        have HXS : Hid (XS G a n cap zs w (w3.alloc (.cells #[.int .i64 z, .string s, .string ⟨#[]⟩, .slice none 0 0] IT)) (w3.alloc (.cells #[.int .i64 z, .string s, .string ⟨#[]⟩, .slice none 0 0] IT)) (some ⟨g, 0, none⟩) m c D w3.heap.size z s none 0 0 (fun _ => ⟨#[]⟩) (fun _ => ⟨#[]⟩)) := hide ⟨rd_alloc HGS.out.1 _, ⟨xs0, hox0.alloc _, its_keep hix0 (keepA_below (keepA_refl w3) ((Below.refl _ _).alloc (Nat.le_refl _) _))⟩, HGS.out.2.2.1.alloc (Nat.le_of_lt hsz3) _, keepA_refl _, heap_alloc_new w3 _, ⟨[], ⟨rfl, .inl ⟨rfl, rfl⟩⟩, fun j h => by omega⟩, fun k hk => by omega, hsz3, by simp, keepA_below HGS.out.2.2.2 ((Below.refl _ _).alloc (Nat.le_refl _) _), fun k hk => (hox0.lt k hk).2⟩
        clear hox0 hix0 xs0
        go_wp2_with fail
        obtain ⟨wX, hwX⟩ : ∃ wX, w3.alloc (.cells #[.int .i64 z, .string s, .string ⟨#[]⟩, .slice none 0 0] IT) = wX := ⟨_, rfl⟩
        obtain ⟨X, hX⟩ : ∃ X, w3.heap.size = X := ⟨_, rfl⟩
        rw [hwX, hX] at HXS
        rw [hwX, hX]
        clear hX hwX HGS hs hsz3
        refine (d_once G a n cap zs 3 _ (by omega) (by omega) HXS.out.1).mono ?_
        rintro e w4 ⟨b2, rfl, hd⟩
        replace HXS := hide (xs_drew HXS.out hd)
        have hGX : G < X := HXS.out.2.2.2.2.2.2.2.1
        clear hd
        go_upto_if 41 with fail
        go_cut [] (fun wx => ∃ (sa : Option Addr) (ka ca : Nat) (N V : Nat → ByteArray), ka ≤ 1 ∧ XS G a n cap zs w wX wx (some ⟨g, 0, none⟩) m c D X z s sa ka ca N V)
        case first =>
          cases b2
          · go_wp2
            refine wp_region_any (by kernel_rfl) ?_
            try (change wpAny _ _ _ _ _ _ _ (World.drew _))
            obtain ⟨v0, hv0⟩ : ∃ v0, w4.drew = v0 := ⟨_, rfl⟩
            have HX : Hid (XS G a n cap zs w wX v0 (some ⟨g, 0, none⟩) m c D X z s none 0 0 (fun _ => ⟨#[]⟩) (fun _ => ⟨#[]⟩)) := hide (by rw [← hv0]; exact xs_dr HXS.out)
            have hS3 : v0.cell? ⟨X, 3, none⟩ = some (.slice none 0 0) := xs_cell HX.out 3
            rw [hv0]
            clear hv0
            refine wpAny_take (i := 0) (v := (.pointer (some ⟨X, 3, none⟩))) rfl (by kernel_rfl) (by kernel_rfl) (by kernel_rfl) (fun _ _ _ h => h) (Or.inl ⟨by kernel_rfl, ?hw1⟩) ?_
            case hw1 => (intro w; go_simp; try with_reducible rfl)
            refine wpAny_take (i := 3) (v := (.pointer (some ⟨G, 0, none⟩))) rfl (by kernel_rfl) (by kernel_rfl) (by kernel_rfl) (fun _ _ _ h => h) (Or.inl ⟨by kernel_rfl, ?hw2⟩) ?_
            case hw2 => (intro w; go_simp; try with_reducible rfl)
            refine wpAny_ready (rs := [1, 2, 4]) (by kernel_rfl) (by simp) ?_
            refine AllReady.cons rfl (fun K hK => ?_) (AllReady.cons rfl (fun K hK => ?_) (AllReady.cons rfl (fun K hK => ?_) AllReady.nil))
            · go_simp
              first | (refine hK _ _ ?_; clear hK K) | skip
              refine wpAny_ready (rs := [2, 4]) (by kernel_rfl) (by simp) ?_
              refine AllReady.cons rfl (fun K hK => ?_) (AllReady.cons rfl (fun K hK => ?_) AllReady.nil)
              · go_simp
                first | (refine hK _ _ ?_; clear hK K) | skip
                obtain ⟨v1, hv1⟩ : ∃ v9, v0.alloc (.cells #[.string ⟨#[49]⟩, .string ⟨#[50]⟩, .string ⟨#[32, 49]⟩, .string ⟨#[51]⟩] 9) = v9 := ⟨_, rfl⟩
                obtain ⟨S, hS⟩ : ∃ S, v0.heap.size = S := ⟨_, rfl⟩
                have hSX : X + 1 ≤ S := by rw [← hS]; exact xs_lt HX.out
                have SB : Hid (v1.heap[S]? = some (.cells #[.string ⟨#[49]⟩, .string ⟨#[50]⟩, .string ⟨#[32, 49]⟩, .string ⟨#[51]⟩] 9 (0, 0))) := hide (by rw [← hv1, ← hS]; exact heap_alloc_new v0 _)
                replace HX : Hid (XS G a n cap zs w wX v1 (some ⟨g, 0, none⟩) m c D X z s none 0 0 (fun _ => ⟨#[]⟩) (fun _ => ⟨#[]⟩)) := hide (by rw [← hv1]; exact xs_alloc HX.out _)
                replace hS3 : v1.cell? ⟨X, 3, none⟩ = some (.slice none 0 0) := xs_cell HX.out 3
                rw [hv1, hS]
                clear hv1 hS
                refine wpAny_ready (rs := [4]) (by kernel_rfl) (by simp) ?_
                refine AllReady.cons rfl (fun K hK => ?_) AllReady.nil
                go_simp
                go_wp2_with (go_at_call 45; refine (d_below G a n cap zs 4 _ (by omega) (by omega) HX.out.1).mono ?_; rintro e v2 ⟨x, hx0, hx1, rfl, hd⟩; have SB9 := hide ((hd.2.block S (Array.getElem?_eq_some_iff.1 SB.out).1 (fun e => by cases e; omega)).trans SB.out); clear SB; have SB := SB9; clear SB9; replace HX := hide (xs_drew HX.out hd); replace hS3 : v2.cell? ⟨X, 3, none⟩ = some (.slice none 0 0) := xs_cell HX.out 3; clear hd)
                first | (refine hK _ _ ?_; clear hK K) | skip
                obtain ⟨t, ht, ht1⟩ := four_cell SB.out hx0 hx1
                refine wpAny_take (i := 5) (v := (.pointer (some ⟨S, x.toNat, none⟩))) rfl (by kernel_rfl) (by kernel_rfl) (by kernel_rfl) (fun _ _ _ h => h) (Or.inl ⟨by kernel_rfl, ?hw3⟩) ?_
                case hw3 => (intro w; go_simp; try with_reducible rfl)
                refine wpAny_ready (rs := [6]) (by kernel_rfl) (by simp) ?_
                refine AllReady.cons rfl (fun K hK => ?_) AllReady.nil
                go_simp
                first | (refine hK _ _ ?_; clear hK K) | skip
                refine wpAny_take (i := 7) (v := (.agg #[.string ⟨#[97]⟩, .string t])) rfl (by kernel_rfl) (by kernel_rfl) (by kernel_rfl) (fun _ _ _ h => h) (Or.inl ⟨by kernel_rfl, ?hw4⟩) ?_
                case hw4 => (intro w; go_simp; try with_reducible rfl)
                refine wpAny_ready (rs := [8]) (by kernel_rfl) (by simp) ?_
                refine AllReady.cons rfl (fun K hK => ?_) AllReady.nil
                go_simp
                first | (refine hK _ _ ?_; clear hK K) | skip
                obtain ⟨v3, hv3⟩ : ∃ v9, v2.alloc (.cells #[.string ⟨#[97]⟩, .string t] AT) = v9 := ⟨_, rfl⟩
                obtain ⟨A1, hA1⟩ : ∃ S, v2.heap.size = S := ⟨_, rfl⟩
                have AB : Hid (v3.heap[A1]? = some (.cells #[.string ⟨#[97]⟩, .string t] AT (0, 0))) := hide (by rw [← hv3, ← hA1]; exact heap_alloc_new v2 _)
                clear ht
                replace HX : Hid (XS G a n cap zs w wX v3 (some ⟨g, 0, none⟩) m c D X z s none 0 0 (fun _ => ⟨#[]⟩) (fun _ => ⟨#[]⟩)) := hide (by rw [← hv3]; exact xs_alloc HX.out _)
                replace hS3 : v3.cell? ⟨X, 3, none⟩ = some (.slice none 0 0) := xs_cell HX.out 3
                rw [hv3, hA1]
                clear hv3 hA1
                refine wpAny_ready (rs := [9]) (by kernel_rfl) (by simp) ?_
                refine AllReady.cons rfl (fun K hK => ?_) AllReady.nil
                simp only [List.getElem_toArray, List.getElem_cons_succ, List.getElem_cons_zero]
                rw [if_pos (by kernel_rfl)]
                have hlv := xs_lt HX.out
                refine wp_append_src (.tmp 43) (.tmp 50) 45 rfl (X + 1) AT j0 _ 2 32 Tryz.underlying45 hj hy0 hy1 hy2 rfl (by decide) (.slice none 0 0) 0 [] (by kernel_rfl) ⟨rfl, .inl ⟨rfl, rfl⟩⟩ (some ⟨A1, 0, none⟩) 1 1 [.string ⟨#[97]⟩, .string t] (by kernel_rfl) rfl (fun _ => ⟨_, rfl, World.news_of_block (cs := #[.string ⟨#[97]⟩, .string t]) (t := AT) (fr := (0, 0)) AB.out⟩) (by simp [Value.oneCell']) (by unfold maxLen; omega) (by omega) hlv ?_
                intro a8 c8 v8 hown8 hgr8
                rw [Nat.zero_add, List.nil_append] at hown8
                rw [Nat.zero_add]
                have HT2 := hide (xs_grown (k := 0) (ys := []) (v := .slice none 0 0) HX.out ⟨rfl, .inl ⟨rfl, rfl⟩⟩ hgr8 hown8 (pairs_putF (k := 0) (ys := []) (N := fun _ => ⟨#[]⟩) (V := fun _ => ⟨#[]⟩) (fun j hj => absurd hj (Nat.not_lt_zero _)) rfl ⟨#[97]⟩ t) (small_putF (k := 0) (fun j hj => absurd hj (Nat.not_lt_zero _)) (by decide) ht1))
                have hfz : v8.frozen? ⟨X, 3, none⟩ = false := (World.frozen?_of_block (hgr8.block X (by omega) (fun e => by simp [Value.ownBlock] at e))).trans (xs_frozen HX.out 3)
                have hcz : v8.cell? ⟨X, 3, none⟩ = some (.slice none 0 0) := (World.cell?_of_block (hgr8.block X (by omega) (fun e => by simp [Value.ownBlock] at e))).trans hS3
                clear hown8 hgr8 hS3
                first | (refine hK _ _ ?_; clear hK K) | skip
                refine wpAny_take (i := 10) (v := (.pointer (some ⟨X, 3, none⟩))) rfl (by kernel_rfl) (by kernel_rfl) (by kernel_rfl) (fun _ _ _ h => h) (Or.inl ⟨by kernel_rfl, ?hw5⟩) ?_
                case hw5 => (intro w; go_simp; try with_reducible rfl)
                refine wpAny_ready (rs := [11]) (by kernel_rfl) (by simp) ?_
                refine AllReady.cons rfl (fun K hK => ?_) AllReady.nil
                go_simp
                first | (refine hK _ _ ?_; clear hK K) | skip
                refine wpAny_done (by kernel_rfl) ?_ _
                go_wp2
                go_meet
                exact ⟨a8, 1, c8, _, _, Nat.le_refl _, HT2.out⟩
              · go_simp
                go_wp2_with (go_at_call 45; refine (d_below G a n cap zs 4 _ (by omega) (by omega) HX.out.1).mono ?_; rintro e v1 ⟨x, hx0, hx1, rfl, hd⟩; replace HX := hide (xs_drew HX.out hd); replace hS3 : v1.cell? ⟨X, 3, none⟩ = some (.slice none 0 0) := xs_cell HX.out 3; clear hd)
                first | (refine hK _ _ ?_; clear hK K) | skip
                refine wpAny_ready (rs := [2]) (by kernel_rfl) (by simp) ?_
                refine AllReady.cons rfl (fun K hK => ?_) AllReady.nil
                go_simp
                first | (refine hK _ _ ?_; clear hK K) | skip
                obtain ⟨v2, hv2⟩ : ∃ v9, v1.alloc (.cells #[.string ⟨#[49]⟩, .string ⟨#[50]⟩, .string ⟨#[32, 49]⟩, .string ⟨#[51]⟩] 9) = v9 := ⟨_, rfl⟩
                obtain ⟨S, hS⟩ : ∃ S, v1.heap.size = S := ⟨_, rfl⟩
                have hSX : X + 1 ≤ S := by rw [← hS]; exact xs_lt HX.out
                have SB : Hid (v2.heap[S]? = some (.cells #[.string ⟨#[49]⟩, .string ⟨#[50]⟩, .string ⟨#[32, 49]⟩, .string ⟨#[51]⟩] 9 (0, 0))) := hide (by rw [← hv2, ← hS]; exact heap_alloc_new v1 _)
                replace HX : Hid (XS G a n cap zs w wX v2 (some ⟨g, 0, none⟩) m c D X z s none 0 0 (fun _ => ⟨#[]⟩) (fun _ => ⟨#[]⟩)) := hide (by rw [← hv2]; exact xs_alloc HX.out _)
                replace hS3 : v2.cell? ⟨X, 3, none⟩ = some (.slice none 0 0) := xs_cell HX.out 3
                rw [hv2, hS]
                clear hv2 hS
                obtain ⟨t, ht, ht1⟩ := four_cell SB.out hx0 hx1
                refine wpAny_take (i := 5) (v := (.pointer (some ⟨S, x.toNat, none⟩))) rfl (by kernel_rfl) (by kernel_rfl) (by kernel_rfl) (fun _ _ _ h => h) (Or.inl ⟨by kernel_rfl, ?hw6⟩) ?_
                case hw6 => (intro w; go_simp; try with_reducible rfl)
                refine wpAny_ready (rs := [6]) (by kernel_rfl) (by simp) ?_
                refine AllReady.cons rfl (fun K hK => ?_) AllReady.nil
                go_simp
                first | (refine hK _ _ ?_; clear hK K) | skip
                refine wpAny_take (i := 7) (v := (.agg #[.string ⟨#[97]⟩, .string t])) rfl (by kernel_rfl) (by kernel_rfl) (by kernel_rfl) (fun _ _ _ h => h) (Or.inl ⟨by kernel_rfl, ?hw7⟩) ?_
                case hw7 => (intro w; go_simp; try with_reducible rfl)
                refine wpAny_ready (rs := [8]) (by kernel_rfl) (by simp) ?_
                refine AllReady.cons rfl (fun K hK => ?_) AllReady.nil
                go_simp
                first | (refine hK _ _ ?_; clear hK K) | skip
                obtain ⟨v3, hv3⟩ : ∃ v9, v2.alloc (.cells #[.string ⟨#[97]⟩, .string t] AT) = v9 := ⟨_, rfl⟩
                obtain ⟨A1, hA1⟩ : ∃ S, v2.heap.size = S := ⟨_, rfl⟩
                have AB : Hid (v3.heap[A1]? = some (.cells #[.string ⟨#[97]⟩, .string t] AT (0, 0))) := hide (by rw [← hv3, ← hA1]; exact heap_alloc_new v2 _)
                clear ht
                replace HX : Hid (XS G a n cap zs w wX v3 (some ⟨g, 0, none⟩) m c D X z s none 0 0 (fun _ => ⟨#[]⟩) (fun _ => ⟨#[]⟩)) := hide (by rw [← hv3]; exact xs_alloc HX.out _)
                replace hS3 : v3.cell? ⟨X, 3, none⟩ = some (.slice none 0 0) := xs_cell HX.out 3
                rw [hv3, hA1]
                clear hv3 hA1
                refine wpAny_ready (rs := [9]) (by kernel_rfl) (by simp) ?_
                refine AllReady.cons rfl (fun K hK => ?_) AllReady.nil
                simp only [List.getElem_toArray, List.getElem_cons_succ, List.getElem_cons_zero]
                rw [if_pos (by kernel_rfl)]
                have hlv := xs_lt HX.out
                refine wp_append_src (.tmp 43) (.tmp 50) 45 rfl (X + 1) AT j0 _ 2 32 Tryz.underlying45 hj hy0 hy1 hy2 rfl (by decide) (.slice none 0 0) 0 [] (by kernel_rfl) ⟨rfl, .inl ⟨rfl, rfl⟩⟩ (some ⟨A1, 0, none⟩) 1 1 [.string ⟨#[97]⟩, .string t] (by kernel_rfl) rfl (fun _ => ⟨_, rfl, World.news_of_block (cs := #[.string ⟨#[97]⟩, .string t]) (t := AT) (fr := (0, 0)) AB.out⟩) (by simp [Value.oneCell']) (by unfold maxLen; omega) (by omega) hlv ?_
                intro a8 c8 v8 hown8 hgr8
                rw [Nat.zero_add, List.nil_append] at hown8
                rw [Nat.zero_add]
                have HT2 := hide (xs_grown (k := 0) (ys := []) (v := .slice none 0 0) HX.out ⟨rfl, .inl ⟨rfl, rfl⟩⟩ hgr8 hown8 (pairs_putF (k := 0) (ys := []) (N := fun _ => ⟨#[]⟩) (V := fun _ => ⟨#[]⟩) (fun j hj => absurd hj (Nat.not_lt_zero _)) rfl ⟨#[97]⟩ t) (small_putF (k := 0) (fun j hj => absurd hj (Nat.not_lt_zero _)) (by decide) ht1))
                have hfz : v8.frozen? ⟨X, 3, none⟩ = false := (World.frozen?_of_block (hgr8.block X (by omega) (fun e => by simp [Value.ownBlock] at e))).trans (xs_frozen HX.out 3)
                have hcz : v8.cell? ⟨X, 3, none⟩ = some (.slice none 0 0) := (World.cell?_of_block (hgr8.block X (by omega) (fun e => by simp [Value.ownBlock] at e))).trans hS3
                clear hown8 hgr8 hS3
                first | (refine hK _ _ ?_; clear hK K) | skip
                refine wpAny_take (i := 10) (v := (.pointer (some ⟨X, 3, none⟩))) rfl (by kernel_rfl) (by kernel_rfl) (by kernel_rfl) (fun _ _ _ h => h) (Or.inl ⟨by kernel_rfl, ?hw8⟩) ?_
                case hw8 => (intro w; go_simp; try with_reducible rfl)
                refine wpAny_ready (rs := [11]) (by kernel_rfl) (by simp) ?_
                refine AllReady.cons rfl (fun K hK => ?_) AllReady.nil
                go_simp
                first | (refine hK _ _ ?_; clear hK K) | skip
                refine wpAny_done (by kernel_rfl) ?_ _
                go_wp2
                go_meet
                exact ⟨a8, 1, c8, _, _, Nat.le_refl _, HT2.out⟩
            · go_simp
              first | (refine hK _ _ ?_; clear hK K) | skip
              obtain ⟨v1, hv1⟩ : ∃ v9, v0.alloc (.cells #[.string ⟨#[49]⟩, .string ⟨#[50]⟩, .string ⟨#[32, 49]⟩, .string ⟨#[51]⟩] 9) = v9 := ⟨_, rfl⟩
              obtain ⟨S, hS⟩ : ∃ S, v0.heap.size = S := ⟨_, rfl⟩
              have hSX : X + 1 ≤ S := by rw [← hS]; exact xs_lt HX.out
              have SB : Hid (v1.heap[S]? = some (.cells #[.string ⟨#[49]⟩, .string ⟨#[50]⟩, .string ⟨#[32, 49]⟩, .string ⟨#[51]⟩] 9 (0, 0))) := hide (by rw [← hv1, ← hS]; exact heap_alloc_new v0 _)
              replace HX : Hid (XS G a n cap zs w wX v1 (some ⟨g, 0, none⟩) m c D X z s none 0 0 (fun _ => ⟨#[]⟩) (fun _ => ⟨#[]⟩)) := hide (by rw [← hv1]; exact xs_alloc HX.out _)
              replace hS3 : v1.cell? ⟨X, 3, none⟩ = some (.slice none 0 0) := xs_cell HX.out 3
              rw [hv1, hS]
              clear hv1 hS
              refine wpAny_ready (rs := [1, 4]) (by kernel_rfl) (by simp) ?_
              refine AllReady.cons rfl (fun K hK => ?_) (AllReady.cons rfl (fun K hK => ?_) AllReady.nil)
              · go_simp
                first | (refine hK _ _ ?_; clear hK K) | skip
                refine wpAny_ready (rs := [4]) (by kernel_rfl) (by simp) ?_
                refine AllReady.cons rfl (fun K hK => ?_) AllReady.nil
                go_simp
                go_wp2_with (go_at_call 45; refine (d_below G a n cap zs 4 _ (by omega) (by omega) HX.out.1).mono ?_; rintro e v2 ⟨x, hx0, hx1, rfl, hd⟩; have SB9 := hide ((hd.2.block S (Array.getElem?_eq_some_iff.1 SB.out).1 (fun e => by cases e; omega)).trans SB.out); clear SB; have SB := SB9; clear SB9; replace HX := hide (xs_drew HX.out hd); replace hS3 : v2.cell? ⟨X, 3, none⟩ = some (.slice none 0 0) := xs_cell HX.out 3; clear hd)
                first | (refine hK _ _ ?_; clear hK K) | skip
                obtain ⟨t, ht, ht1⟩ := four_cell SB.out hx0 hx1
                refine wpAny_take (i := 5) (v := (.pointer (some ⟨S, x.toNat, none⟩))) rfl (by kernel_rfl) (by kernel_rfl) (by kernel_rfl) (fun _ _ _ h => h) (Or.inl ⟨by kernel_rfl, ?hw9⟩) ?_
                case hw9 => (intro w; go_simp; try with_reducible rfl)
                refine wpAny_ready (rs := [6]) (by kernel_rfl) (by simp) ?_
                refine AllReady.cons rfl (fun K hK => ?_) AllReady.nil
                go_simp
                first | (refine hK _ _ ?_; clear hK K) | skip
                refine wpAny_take (i := 7) (v := (.agg #[.string ⟨#[97]⟩, .string t])) rfl (by kernel_rfl) (by kernel_rfl) (by kernel_rfl) (fun _ _ _ h => h) (Or.inl ⟨by kernel_rfl, ?hw10⟩) ?_
                case hw10 => (intro w; go_simp; try with_reducible rfl)
                refine wpAny_ready (rs := [8]) (by kernel_rfl) (by simp) ?_
                refine AllReady.cons rfl (fun K hK => ?_) AllReady.nil
                go_simp
                first | (refine hK _ _ ?_; clear hK K) | skip
                obtain ⟨v3, hv3⟩ : ∃ v9, v2.alloc (.cells #[.string ⟨#[97]⟩, .string t] AT) = v9 := ⟨_, rfl⟩
                obtain ⟨A1, hA1⟩ : ∃ S, v2.heap.size = S := ⟨_, rfl⟩
                have AB : Hid (v3.heap[A1]? = some (.cells #[.string ⟨#[97]⟩, .string t] AT (0, 0))) := hide (by rw [← hv3, ← hA1]; exact heap_alloc_new v2 _)
                clear ht
                replace HX : Hid (XS G a n cap zs w wX v3 (some ⟨g, 0, none⟩) m c D X z s none 0 0 (fun _ => ⟨#[]⟩) (fun _ => ⟨#[]⟩)) := hide (by rw [← hv3]; exact xs_alloc HX.out _)
                replace hS3 : v3.cell? ⟨X, 3, none⟩ = some (.slice none 0 0) := xs_cell HX.out 3
                rw [hv3, hA1]
                clear hv3 hA1
                refine wpAny_ready (rs := [9]) (by kernel_rfl) (by simp) ?_
                refine AllReady.cons rfl (fun K hK => ?_) AllReady.nil
                simp only [List.getElem_toArray, List.getElem_cons_succ, List.getElem_cons_zero]
                rw [if_pos (by kernel_rfl)]
                have hlv := xs_lt HX.out
                refine wp_append_src (.tmp 43) (.tmp 50) 45 rfl (X + 1) AT j0 _ 2 32 Tryz.underlying45 hj hy0 hy1 hy2 rfl (by decide) (.slice none 0 0) 0 [] (by kernel_rfl) ⟨rfl, .inl ⟨rfl, rfl⟩⟩ (some ⟨A1, 0, none⟩) 1 1 [.string ⟨#[97]⟩, .string t] (by kernel_rfl) rfl (fun _ => ⟨_, rfl, World.news_of_block (cs := #[.string ⟨#[97]⟩, .string t]) (t := AT) (fr := (0, 0)) AB.out⟩) (by simp [Value.oneCell']) (by unfold maxLen; omega) (by omega) hlv ?_
                intro a8 c8 v8 hown8 hgr8
                rw [Nat.zero_add, List.nil_append] at hown8
                rw [Nat.zero_add]
                have HT2 := hide (xs_grown (k := 0) (ys := []) (v := .slice none 0 0) HX.out ⟨rfl, .inl ⟨rfl, rfl⟩⟩ hgr8 hown8 (pairs_putF (k := 0) (ys := []) (N := fun _ => ⟨#[]⟩) (V := fun _ => ⟨#[]⟩) (fun j hj => absurd hj (Nat.not_lt_zero _)) rfl ⟨#[97]⟩ t) (small_putF (k := 0) (fun j hj => absurd hj (Nat.not_lt_zero _)) (by decide) ht1))
                have hfz : v8.frozen? ⟨X, 3, none⟩ = false := (World.frozen?_of_block (hgr8.block X (by omega) (fun e => by simp [Value.ownBlock] at e))).trans (xs_frozen HX.out 3)
                have hcz : v8.cell? ⟨X, 3, none⟩ = some (.slice none 0 0) := (World.cell?_of_block (hgr8.block X (by omega) (fun e => by simp [Value.ownBlock] at e))).trans hS3
                clear hown8 hgr8 hS3
                first | (refine hK _ _ ?_; clear hK K) | skip
                refine wpAny_take (i := 10) (v := (.pointer (some ⟨X, 3, none⟩))) rfl (by kernel_rfl) (by kernel_rfl) (by kernel_rfl) (fun _ _ _ h => h) (Or.inl ⟨by kernel_rfl, ?hw11⟩) ?_
                case hw11 => (intro w; go_simp; try with_reducible rfl)
                refine wpAny_ready (rs := [11]) (by kernel_rfl) (by simp) ?_
                refine AllReady.cons rfl (fun K hK => ?_) AllReady.nil
                go_simp
                first | (refine hK _ _ ?_; clear hK K) | skip
                refine wpAny_done (by kernel_rfl) ?_ _
                go_wp2
                go_meet
                exact ⟨a8, 1, c8, _, _, Nat.le_refl _, HT2.out⟩
              · go_simp
                go_wp2_with (go_at_call 45; refine (d_below G a n cap zs 4 _ (by omega) (by omega) HX.out.1).mono ?_; rintro e v2 ⟨x, hx0, hx1, rfl, hd⟩; have SB9 := hide ((hd.2.block S (Array.getElem?_eq_some_iff.1 SB.out).1 (fun e => by cases e; omega)).trans SB.out); clear SB; have SB := SB9; clear SB9; replace HX := hide (xs_drew HX.out hd); replace hS3 : v2.cell? ⟨X, 3, none⟩ = some (.slice none 0 0) := xs_cell HX.out 3; clear hd)
                first | (refine hK _ _ ?_; clear hK K) | skip
                obtain ⟨t, ht, ht1⟩ := four_cell SB.out hx0 hx1
                refine wpAny_take (i := 5) (v := (.pointer (some ⟨S, x.toNat, none⟩))) rfl (by kernel_rfl) (by kernel_rfl) (by kernel_rfl) (fun _ _ _ h => h) (Or.inl ⟨by kernel_rfl, ?hw12⟩) ?_
                case hw12 => (intro w; go_simp; try with_reducible rfl)
                refine wpAny_ready (rs := [1, 6]) (by kernel_rfl) (by simp) ?_
                refine AllReady.cons rfl (fun K hK => ?_) (AllReady.cons rfl (fun K hK => ?_) AllReady.nil)
                · go_simp
                  first | (refine hK _ _ ?_; clear hK K) | skip
                  refine wpAny_ready (rs := [6]) (by kernel_rfl) (by simp) ?_
                  refine AllReady.cons rfl (fun K hK => ?_) AllReady.nil
                  go_simp
                  first | (refine hK _ _ ?_; clear hK K) | skip
                  refine wpAny_take (i := 7) (v := (.agg #[.string ⟨#[97]⟩, .string t])) rfl (by kernel_rfl) (by kernel_rfl) (by kernel_rfl) (fun _ _ _ h => h) (Or.inl ⟨by kernel_rfl, ?hw13⟩) ?_
                  case hw13 => (intro w; go_simp; try with_reducible rfl)
                  refine wpAny_ready (rs := [8]) (by kernel_rfl) (by simp) ?_
                  refine AllReady.cons rfl (fun K hK => ?_) AllReady.nil
                  go_simp
                  first | (refine hK _ _ ?_; clear hK K) | skip
                  obtain ⟨v3, hv3⟩ : ∃ v9, v2.alloc (.cells #[.string ⟨#[97]⟩, .string t] AT) = v9 := ⟨_, rfl⟩
                  obtain ⟨A1, hA1⟩ : ∃ S, v2.heap.size = S := ⟨_, rfl⟩
                  have AB : Hid (v3.heap[A1]? = some (.cells #[.string ⟨#[97]⟩, .string t] AT (0, 0))) := hide (by rw [← hv3, ← hA1]; exact heap_alloc_new v2 _)
                  clear ht
                  replace HX : Hid (XS G a n cap zs w wX v3 (some ⟨g, 0, none⟩) m c D X z s none 0 0 (fun _ => ⟨#[]⟩) (fun _ => ⟨#[]⟩)) := hide (by rw [← hv3]; exact xs_alloc HX.out _)
                  replace hS3 : v3.cell? ⟨X, 3, none⟩ = some (.slice none 0 0) := xs_cell HX.out 3
                  rw [hv3, hA1]
                  clear hv3 hA1
                  refine wpAny_ready (rs := [9]) (by kernel_rfl) (by simp) ?_
                  refine AllReady.cons rfl (fun K hK => ?_) AllReady.nil
                  simp only [List.getElem_toArray, List.getElem_cons_succ, List.getElem_cons_zero]
                  rw [if_pos (by kernel_rfl)]
                  have hlv := xs_lt HX.out
                  refine wp_append_src (.tmp 43) (.tmp 50) 45 rfl (X + 1) AT j0 _ 2 32 Tryz.underlying45 hj hy0 hy1 hy2 rfl (by decide) (.slice none 0 0) 0 [] (by kernel_rfl) ⟨rfl, .inl ⟨rfl, rfl⟩⟩ (some ⟨A1, 0, none⟩) 1 1 [.string ⟨#[97]⟩, .string t] (by kernel_rfl) rfl (fun _ => ⟨_, rfl, World.news_of_block (cs := #[.string ⟨#[97]⟩, .string t]) (t := AT) (fr := (0, 0)) AB.out⟩) (by simp [Value.oneCell']) (by unfold maxLen; omega) (by omega) hlv ?_
                  intro a8 c8 v8 hown8 hgr8
                  rw [Nat.zero_add, List.nil_append] at hown8
                  rw [Nat.zero_add]
                  have HT2 := hide (xs_grown (k := 0) (ys := []) (v := .slice none 0 0) HX.out ⟨rfl, .inl ⟨rfl, rfl⟩⟩ hgr8 hown8 (pairs_putF (k := 0) (ys := []) (N := fun _ => ⟨#[]⟩) (V := fun _ => ⟨#[]⟩) (fun j hj => absurd hj (Nat.not_lt_zero _)) rfl ⟨#[97]⟩ t) (small_putF (k := 0) (fun j hj => absurd hj (Nat.not_lt_zero _)) (by decide) ht1))
                  have hfz : v8.frozen? ⟨X, 3, none⟩ = false := (World.frozen?_of_block (hgr8.block X (by omega) (fun e => by simp [Value.ownBlock] at e))).trans (xs_frozen HX.out 3)
                  have hcz : v8.cell? ⟨X, 3, none⟩ = some (.slice none 0 0) := (World.cell?_of_block (hgr8.block X (by omega) (fun e => by simp [Value.ownBlock] at e))).trans hS3
                  clear hown8 hgr8 hS3
                  first | (refine hK _ _ ?_; clear hK K) | skip
                  refine wpAny_take (i := 10) (v := (.pointer (some ⟨X, 3, none⟩))) rfl (by kernel_rfl) (by kernel_rfl) (by kernel_rfl) (fun _ _ _ h => h) (Or.inl ⟨by kernel_rfl, ?hw14⟩) ?_
                  case hw14 => (intro w; go_simp; try with_reducible rfl)
                  refine wpAny_ready (rs := [11]) (by kernel_rfl) (by simp) ?_
                  refine AllReady.cons rfl (fun K hK => ?_) AllReady.nil
                  go_simp
                  first | (refine hK _ _ ?_; clear hK K) | skip
                  refine wpAny_done (by kernel_rfl) ?_ _
                  go_wp2
                  go_meet
                  exact ⟨a8, 1, c8, _, _, Nat.le_refl _, HT2.out⟩
                · go_simp
                  first | (refine hK _ _ ?_; clear hK K) | skip
                  refine wpAny_take (i := 7) (v := (.agg #[.string ⟨#[97]⟩, .string t])) rfl (by kernel_rfl) (by kernel_rfl) (by kernel_rfl) (fun _ _ _ h => h) (Or.inl ⟨by kernel_rfl, ?hw15⟩) ?_
                  case hw15 => (intro w; go_simp; try with_reducible rfl)
                  refine wpAny_ready (rs := [1, 8]) (by kernel_rfl) (by simp) ?_
                  refine AllReady.cons rfl (fun K hK => ?_) (AllReady.cons rfl (fun K hK => ?_) AllReady.nil)
                  · go_simp
                    first | (refine hK _ _ ?_; clear hK K) | skip
                    refine wpAny_ready (rs := [8]) (by kernel_rfl) (by simp) ?_
                    refine AllReady.cons rfl (fun K hK => ?_) AllReady.nil
                    go_simp
                    first | (refine hK _ _ ?_; clear hK K) | skip
                    obtain ⟨v3, hv3⟩ : ∃ v9, v2.alloc (.cells #[.string ⟨#[97]⟩, .string t] AT) = v9 := ⟨_, rfl⟩
                    obtain ⟨A1, hA1⟩ : ∃ S, v2.heap.size = S := ⟨_, rfl⟩
                    have AB : Hid (v3.heap[A1]? = some (.cells #[.string ⟨#[97]⟩, .string t] AT (0, 0))) := hide (by rw [← hv3, ← hA1]; exact heap_alloc_new v2 _)
                    clear ht
                    replace HX : Hid (XS G a n cap zs w wX v3 (some ⟨g, 0, none⟩) m c D X z s none 0 0 (fun _ => ⟨#[]⟩) (fun _ => ⟨#[]⟩)) := hide (by rw [← hv3]; exact xs_alloc HX.out _)
                    replace hS3 : v3.cell? ⟨X, 3, none⟩ = some (.slice none 0 0) := xs_cell HX.out 3
                    rw [hv3, hA1]
                    clear hv3 hA1
                    refine wpAny_ready (rs := [9]) (by kernel_rfl) (by simp) ?_
                    refine AllReady.cons rfl (fun K hK => ?_) AllReady.nil
                    simp only [List.getElem_toArray, List.getElem_cons_succ, List.getElem_cons_zero]
                    rw [if_pos (by kernel_rfl)]
                    have hlv := xs_lt HX.out
                    refine wp_append_src (.tmp 43) (.tmp 50) 45 rfl (X + 1) AT j0 _ 2 32 Tryz.underlying45 hj hy0 hy1 hy2 rfl (by decide) (.slice none 0 0) 0 [] (by kernel_rfl) ⟨rfl, .inl ⟨rfl, rfl⟩⟩ (some ⟨A1, 0, none⟩) 1 1 [.string ⟨#[97]⟩, .string t] (by kernel_rfl) rfl (fun _ => ⟨_, rfl, World.news_of_block (cs := #[.string ⟨#[97]⟩, .string t]) (t := AT) (fr := (0, 0)) AB.out⟩) (by simp [Value.oneCell']) (by unfold maxLen; omega) (by omega) hlv ?_
                    intro a8 c8 v8 hown8 hgr8
                    rw [Nat.zero_add, List.nil_append] at hown8
                    rw [Nat.zero_add]
                    have HT2 := hide (xs_grown (k := 0) (ys := []) (v := .slice none 0 0) HX.out ⟨rfl, .inl ⟨rfl, rfl⟩⟩ hgr8 hown8 (pairs_putF (k := 0) (ys := []) (N := fun _ => ⟨#[]⟩) (V := fun _ => ⟨#[]⟩) (fun j hj => absurd hj (Nat.not_lt_zero _)) rfl ⟨#[97]⟩ t) (small_putF (k := 0) (fun j hj => absurd hj (Nat.not_lt_zero _)) (by decide) ht1))
                    have hfz : v8.frozen? ⟨X, 3, none⟩ = false := (World.frozen?_of_block (hgr8.block X (by omega) (fun e => by simp [Value.ownBlock] at e))).trans (xs_frozen HX.out 3)
                    have hcz : v8.cell? ⟨X, 3, none⟩ = some (.slice none 0 0) := (World.cell?_of_block (hgr8.block X (by omega) (fun e => by simp [Value.ownBlock] at e))).trans hS3
                    clear hown8 hgr8 hS3
                    first | (refine hK _ _ ?_; clear hK K) | skip
                    refine wpAny_take (i := 10) (v := (.pointer (some ⟨X, 3, none⟩))) rfl (by kernel_rfl) (by kernel_rfl) (by kernel_rfl) (fun _ _ _ h => h) (Or.inl ⟨by kernel_rfl, ?hw16⟩) ?_
                    case hw16 => (intro w; go_simp; try with_reducible rfl)
                    refine wpAny_ready (rs := [11]) (by kernel_rfl) (by simp) ?_
                    refine AllReady.cons rfl (fun K hK => ?_) AllReady.nil
                    go_simp
                    first | (refine hK _ _ ?_; clear hK K) | skip
                    refine wpAny_done (by kernel_rfl) ?_ _
                    go_wp2
                    go_meet
                    exact ⟨a8, 1, c8, _, _, Nat.le_refl _, HT2.out⟩
                  · go_simp
                    first | (refine hK _ _ ?_; clear hK K) | skip
                    obtain ⟨v3, hv3⟩ : ∃ v9, v2.alloc (.cells #[.string ⟨#[97]⟩, .string t] AT) = v9 := ⟨_, rfl⟩
                    obtain ⟨A1, hA1⟩ : ∃ S, v2.heap.size = S := ⟨_, rfl⟩
                    have AB : Hid (v3.heap[A1]? = some (.cells #[.string ⟨#[97]⟩, .string t] AT (0, 0))) := hide (by rw [← hv3, ← hA1]; exact heap_alloc_new v2 _)
                    clear ht
                    replace HX : Hid (XS G a n cap zs w wX v3 (some ⟨g, 0, none⟩) m c D X z s none 0 0 (fun _ => ⟨#[]⟩) (fun _ => ⟨#[]⟩)) := hide (by rw [← hv3]; exact xs_alloc HX.out _)
                    replace hS3 : v3.cell? ⟨X, 3, none⟩ = some (.slice none 0 0) := xs_cell HX.out 3
                    rw [hv3, hA1]
                    clear hv3 hA1
                    refine wpAny_ready (rs := [1]) (by kernel_rfl) (by simp) ?_
                    refine AllReady.cons rfl (fun K hK => ?_) AllReady.nil
                    go_simp
                    first | (refine hK _ _ ?_; clear hK K) | skip
                    refine wpAny_ready (rs := [9]) (by kernel_rfl) (by simp) ?_
                    refine AllReady.cons rfl (fun K hK => ?_) AllReady.nil
                    simp only [List.getElem_toArray, List.getElem_cons_succ, List.getElem_cons_zero]
                    rw [if_pos (by kernel_rfl)]
                    have hlv := xs_lt HX.out
                    refine wp_append_src (.tmp 43) (.tmp 50) 45 rfl (X + 1) AT j0 _ 2 32 Tryz.underlying45 hj hy0 hy1 hy2 rfl (by decide) (.slice none 0 0) 0 [] (by kernel_rfl) ⟨rfl, .inl ⟨rfl, rfl⟩⟩ (some ⟨A1, 0, none⟩) 1 1 [.string ⟨#[97]⟩, .string t] (by kernel_rfl) rfl (fun _ => ⟨_, rfl, World.news_of_block (cs := #[.string ⟨#[97]⟩, .string t]) (t := AT) (fr := (0, 0)) AB.out⟩) (by simp [Value.oneCell']) (by unfold maxLen; omega) (by omega) hlv ?_
                    intro a8 c8 v8 hown8 hgr8
                    rw [Nat.zero_add, List.nil_append] at hown8
                    rw [Nat.zero_add]
                    have HT2 := hide (xs_grown (k := 0) (ys := []) (v := .slice none 0 0) HX.out ⟨rfl, .inl ⟨rfl, rfl⟩⟩ hgr8 hown8 (pairs_putF (k := 0) (ys := []) (N := fun _ => ⟨#[]⟩) (V := fun _ => ⟨#[]⟩) (fun j hj => absurd hj (Nat.not_lt_zero _)) rfl ⟨#[97]⟩ t) (small_putF (k := 0) (fun j hj => absurd hj (Nat.not_lt_zero _)) (by decide) ht1))
                    have hfz : v8.frozen? ⟨X, 3, none⟩ = false := (World.frozen?_of_block (hgr8.block X (by omega) (fun e => by simp [Value.ownBlock] at e))).trans (xs_frozen HX.out 3)
                    have hcz : v8.cell? ⟨X, 3, none⟩ = some (.slice none 0 0) := (World.cell?_of_block (hgr8.block X (by omega) (fun e => by simp [Value.ownBlock] at e))).trans hS3
                    clear hown8 hgr8 hS3
                    first | (refine hK _ _ ?_; clear hK K) | skip
                    refine wpAny_take (i := 10) (v := (.pointer (some ⟨X, 3, none⟩))) rfl (by kernel_rfl) (by kernel_rfl) (by kernel_rfl) (fun _ _ _ h => h) (Or.inl ⟨by kernel_rfl, ?hw17⟩) ?_
                    case hw17 => (intro w; go_simp; try with_reducible rfl)
                    refine wpAny_ready (rs := [11]) (by kernel_rfl) (by simp) ?_
                    refine AllReady.cons rfl (fun K hK => ?_) AllReady.nil
                    go_simp
                    first | (refine hK _ _ ?_; clear hK K) | skip
                    refine wpAny_done (by kernel_rfl) ?_ _
                    go_wp2
                    go_meet
                    exact ⟨a8, 1, c8, _, _, Nat.le_refl _, HT2.out⟩
            · go_simp
              go_wp2_with (go_at_call 45; refine (d_below G a n cap zs 4 _ (by omega) (by omega) HX.out.1).mono ?_; rintro e v1 ⟨x, hx0, hx1, rfl, hd⟩; replace HX := hide (xs_drew HX.out hd); replace hS3 : v1.cell? ⟨X, 3, none⟩ = some (.slice none 0 0) := xs_cell HX.out 3; clear hd)
              first | (refine hK _ _ ?_; clear hK K) | skip
              refine wpAny_ready (rs := [1, 2]) (by kernel_rfl) (by simp) ?_
              refine AllReady.cons rfl (fun K hK => ?_) (AllReady.cons rfl (fun K hK => ?_) AllReady.nil)
              · go_simp
                first | (refine hK _ _ ?_; clear hK K) | skip
                refine wpAny_ready (rs := [2]) (by kernel_rfl) (by simp) ?_
                refine AllReady.cons rfl (fun K hK => ?_) AllReady.nil
                go_simp
                first | (refine hK _ _ ?_; clear hK K) | skip
                obtain ⟨v2, hv2⟩ : ∃ v9, v1.alloc (.cells #[.string ⟨#[49]⟩, .string ⟨#[50]⟩, .string ⟨#[32, 49]⟩, .string ⟨#[51]⟩] 9) = v9 := ⟨_, rfl⟩
                obtain ⟨S, hS⟩ : ∃ S, v1.heap.size = S := ⟨_, rfl⟩
                have hSX : X + 1 ≤ S := by rw [← hS]; exact xs_lt HX.out
                have SB : Hid (v2.heap[S]? = some (.cells #[.string ⟨#[49]⟩, .string ⟨#[50]⟩, .string ⟨#[32, 49]⟩, .string ⟨#[51]⟩] 9 (0, 0))) := hide (by rw [← hv2, ← hS]; exact heap_alloc_new v1 _)
                replace HX : Hid (XS G a n cap zs w wX v2 (some ⟨g, 0, none⟩) m c D X z s none 0 0 (fun _ => ⟨#[]⟩) (fun _ => ⟨#[]⟩)) := hide (by rw [← hv2]; exact xs_alloc HX.out _)
                replace hS3 : v2.cell? ⟨X, 3, none⟩ = some (.slice none 0 0) := xs_cell HX.out 3
                rw [hv2, hS]
                clear hv2 hS
                obtain ⟨t, ht, ht1⟩ := four_cell SB.out hx0 hx1
                refine wpAny_take (i := 5) (v := (.pointer (some ⟨S, x.toNat, none⟩))) rfl (by kernel_rfl) (by kernel_rfl) (by kernel_rfl) (fun _ _ _ h => h) (Or.inl ⟨by kernel_rfl, ?hw18⟩) ?_
                case hw18 => (intro w; go_simp; try with_reducible rfl)
                refine wpAny_ready (rs := [6]) (by kernel_rfl) (by simp) ?_
                refine AllReady.cons rfl (fun K hK => ?_) AllReady.nil
                go_simp
                first | (refine hK _ _ ?_; clear hK K) | skip
                refine wpAny_take (i := 7) (v := (.agg #[.string ⟨#[97]⟩, .string t])) rfl (by kernel_rfl) (by kernel_rfl) (by kernel_rfl) (fun _ _ _ h => h) (Or.inl ⟨by kernel_rfl, ?hw19⟩) ?_
                case hw19 => (intro w; go_simp; try with_reducible rfl)
                refine wpAny_ready (rs := [8]) (by kernel_rfl) (by simp) ?_
                refine AllReady.cons rfl (fun K hK => ?_) AllReady.nil
                go_simp
                first | (refine hK _ _ ?_; clear hK K) | skip
                obtain ⟨v3, hv3⟩ : ∃ v9, v2.alloc (.cells #[.string ⟨#[97]⟩, .string t] AT) = v9 := ⟨_, rfl⟩
                obtain ⟨A1, hA1⟩ : ∃ S, v2.heap.size = S := ⟨_, rfl⟩
                have AB : Hid (v3.heap[A1]? = some (.cells #[.string ⟨#[97]⟩, .string t] AT (0, 0))) := hide (by rw [← hv3, ← hA1]; exact heap_alloc_new v2 _)
                clear ht
                replace HX : Hid (XS G a n cap zs w wX v3 (some ⟨g, 0, none⟩) m c D X z s none 0 0 (fun _ => ⟨#[]⟩) (fun _ => ⟨#[]⟩)) := hide (by rw [← hv3]; exact xs_alloc HX.out _)
                replace hS3 : v3.cell? ⟨X, 3, none⟩ = some (.slice none 0 0) := xs_cell HX.out 3
                rw [hv3, hA1]
                clear hv3 hA1
                refine wpAny_ready (rs := [9]) (by kernel_rfl) (by simp) ?_
                refine AllReady.cons rfl (fun K hK => ?_) AllReady.nil
                simp only [List.getElem_toArray, List.getElem_cons_succ, List.getElem_cons_zero]
                rw [if_pos (by kernel_rfl)]
                have hlv := xs_lt HX.out
                refine wp_append_src (.tmp 43) (.tmp 50) 45 rfl (X + 1) AT j0 _ 2 32 Tryz.underlying45 hj hy0 hy1 hy2 rfl (by decide) (.slice none 0 0) 0 [] (by kernel_rfl) ⟨rfl, .inl ⟨rfl, rfl⟩⟩ (some ⟨A1, 0, none⟩) 1 1 [.string ⟨#[97]⟩, .string t] (by kernel_rfl) rfl (fun _ => ⟨_, rfl, World.news_of_block (cs := #[.string ⟨#[97]⟩, .string t]) (t := AT) (fr := (0, 0)) AB.out⟩) (by simp [Value.oneCell']) (by unfold maxLen; omega) (by omega) hlv ?_
                intro a8 c8 v8 hown8 hgr8
                rw [Nat.zero_add, List.nil_append] at hown8
                rw [Nat.zero_add]
                have HT2 := hide (xs_grown (k := 0) (ys := []) (v := .slice none 0 0) HX.out ⟨rfl, .inl ⟨rfl, rfl⟩⟩ hgr8 hown8 (pairs_putF (k := 0) (ys := []) (N := fun _ => ⟨#[]⟩) (V := fun _ => ⟨#[]⟩) (fun j hj => absurd hj (Nat.not_lt_zero _)) rfl ⟨#[97]⟩ t) (small_putF (k := 0) (fun j hj => absurd hj (Nat.not_lt_zero _)) (by decide) ht1))
                have hfz : v8.frozen? ⟨X, 3, none⟩ = false := (World.frozen?_of_block (hgr8.block X (by omega) (fun e => by simp [Value.ownBlock] at e))).trans (xs_frozen HX.out 3)
                have hcz : v8.cell? ⟨X, 3, none⟩ = some (.slice none 0 0) := (World.cell?_of_block (hgr8.block X (by omega) (fun e => by simp [Value.ownBlock] at e))).trans hS3
                clear hown8 hgr8 hS3
                first | (refine hK _ _ ?_; clear hK K) | skip
                refine wpAny_take (i := 10) (v := (.pointer (some ⟨X, 3, none⟩))) rfl (by kernel_rfl) (by kernel_rfl) (by kernel_rfl) (fun _ _ _ h => h) (Or.inl ⟨by kernel_rfl, ?hw20⟩) ?_
                case hw20 => (intro w; go_simp; try with_reducible rfl)
                refine wpAny_ready (rs := [11]) (by kernel_rfl) (by simp) ?_
                refine AllReady.cons rfl (fun K hK => ?_) AllReady.nil
                go_simp
                first | (refine hK _ _ ?_; clear hK K) | skip
                refine wpAny_done (by kernel_rfl) ?_ _
                go_wp2
                go_meet
                exact ⟨a8, 1, c8, _, _, Nat.le_refl _, HT2.out⟩
              · go_simp
                first | (refine hK _ _ ?_; clear hK K) | skip
                obtain ⟨v2, hv2⟩ : ∃ v9, v1.alloc (.cells #[.string ⟨#[49]⟩, .string ⟨#[50]⟩, .string ⟨#[32, 49]⟩, .string ⟨#[51]⟩] 9) = v9 := ⟨_, rfl⟩
                obtain ⟨S, hS⟩ : ∃ S, v1.heap.size = S := ⟨_, rfl⟩
                have hSX : X + 1 ≤ S := by rw [← hS]; exact xs_lt HX.out
                have SB : Hid (v2.heap[S]? = some (.cells #[.string ⟨#[49]⟩, .string ⟨#[50]⟩, .string ⟨#[32, 49]⟩, .string ⟨#[51]⟩] 9 (0, 0))) := hide (by rw [← hv2, ← hS]; exact heap_alloc_new v1 _)
                replace HX : Hid (XS G a n cap zs w wX v2 (some ⟨g, 0, none⟩) m c D X z s none 0 0 (fun _ => ⟨#[]⟩) (fun _ => ⟨#[]⟩)) := hide (by rw [← hv2]; exact xs_alloc HX.out _)
                replace hS3 : v2.cell? ⟨X, 3, none⟩ = some (.slice none 0 0) := xs_cell HX.out 3
                rw [hv2, hS]
                clear hv2 hS
                obtain ⟨t, ht, ht1⟩ := four_cell SB.out hx0 hx1
                refine wpAny_take (i := 5) (v := (.pointer (some ⟨S, x.toNat, none⟩))) rfl (by kernel_rfl) (by kernel_rfl) (by kernel_rfl) (fun _ _ _ h => h) (Or.inl ⟨by kernel_rfl, ?hw21⟩) ?_
                case hw21 => (intro w; go_simp; try with_reducible rfl)
                refine wpAny_ready (rs := [1, 6]) (by kernel_rfl) (by simp) ?_
                refine AllReady.cons rfl (fun K hK => ?_) (AllReady.cons rfl (fun K hK => ?_) AllReady.nil)
                · go_simp
                  first | (refine hK _ _ ?_; clear hK K) | skip
                  refine wpAny_ready (rs := [6]) (by kernel_rfl) (by simp) ?_
                  refine AllReady.cons rfl (fun K hK => ?_) AllReady.nil
                  go_simp
                  first | (refine hK _ _ ?_; clear hK K) | skip
                  refine wpAny_take (i := 7) (v := (.agg #[.string ⟨#[97]⟩, .string t])) rfl (by kernel_rfl) (by kernel_rfl) (by kernel_rfl) (fun _ _ _ h => h) (Or.inl ⟨by kernel_rfl, ?hw22⟩) ?_
                  case hw22 => (intro w; go_simp; try with_reducible rfl)
                  refine wpAny_ready (rs := [8]) (by kernel_rfl) (by simp) ?_
                  refine AllReady.cons rfl (fun K hK => ?_) AllReady.nil
                  go_simp
                  first | (refine hK _ _ ?_; clear hK K) | skip
                  obtain ⟨v3, hv3⟩ : ∃ v9, v2.alloc (.cells #[.string ⟨#[97]⟩, .string t] AT) = v9 := ⟨_, rfl⟩
                  obtain ⟨A1, hA1⟩ : ∃ S, v2.heap.size = S := ⟨_, rfl⟩
                  have AB : Hid (v3.heap[A1]? = some (.cells #[.string ⟨#[97]⟩, .string t] AT (0, 0))) := hide (by rw [← hv3, ← hA1]; exact heap_alloc_new v2 _)
                  clear ht
                  replace HX : Hid (XS G a n cap zs w wX v3 (some ⟨g, 0, none⟩) m c D X z s none 0 0 (fun _ => ⟨#[]⟩) (fun _ => ⟨#[]⟩)) := hide (by rw [← hv3]; exact xs_alloc HX.out _)
                  replace hS3 : v3.cell? ⟨X, 3, none⟩ = some (.slice none 0 0) := xs_cell HX.out 3
                  rw [hv3, hA1]
                  clear hv3 hA1
                  refine wpAny_ready (rs := [9]) (by kernel_rfl) (by simp) ?_
                  refine AllReady.cons rfl (fun K hK => ?_) AllReady.nil
                  simp only [List.getElem_toArray, List.getElem_cons_succ, List.getElem_cons_zero]
                  rw [if_pos (by kernel_rfl)]
                  have hlv := xs_lt HX.out
                  refine wp_append_src (.tmp 43) (.tmp 50) 45 rfl (X + 1) AT j0 _ 2 32 Tryz.underlying45 hj hy0 hy1 hy2 rfl (by decide) (.slice none 0 0) 0 [] (by kernel_rfl) ⟨rfl, .inl ⟨rfl, rfl⟩⟩ (some ⟨A1, 0, none⟩) 1 1 [.string ⟨#[97]⟩, .string t] (by kernel_rfl) rfl (fun _ => ⟨_, rfl, World.news_of_block (cs := #[.string ⟨#[97]⟩, .string t]) (t := AT) (fr := (0, 0)) AB.out⟩) (by simp [Value.oneCell']) (by unfold maxLen; omega) (by omega) hlv ?_
                  intro a8 c8 v8 hown8 hgr8
                  rw [Nat.zero_add, List.nil_append] at hown8
                  rw [Nat.zero_add]
                  have HT2 := hide (xs_grown (k := 0) (ys := []) (v := .slice none 0 0) HX.out ⟨rfl, .inl ⟨rfl, rfl⟩⟩ hgr8 hown8 (pairs_putF (k := 0) (ys := []) (N := fun _ => ⟨#[]⟩) (V := fun _ => ⟨#[]⟩) (fun j hj => absurd hj (Nat.not_lt_zero _)) rfl ⟨#[97]⟩ t) (small_putF (k := 0) (fun j hj => absurd hj (Nat.not_lt_zero _)) (by decide) ht1))
                  have hfz : v8.frozen? ⟨X, 3, none⟩ = false := (World.frozen?_of_block (hgr8.block X (by omega) (fun e => by simp [Value.ownBlock] at e))).trans (xs_frozen HX.out 3)
                  have hcz : v8.cell? ⟨X, 3, none⟩ = some (.slice none 0 0) := (World.cell?_of_block (hgr8.block X (by omega) (fun e => by simp [Value.ownBlock] at e))).trans hS3
                  clear hown8 hgr8 hS3
                  first | (refine hK _ _ ?_; clear hK K) | skip
                  refine wpAny_take (i := 10) (v := (.pointer (some ⟨X, 3, none⟩))) rfl (by kernel_rfl) (by kernel_rfl) (by kernel_rfl) (fun _ _ _ h => h) (Or.inl ⟨by kernel_rfl, ?hw23⟩) ?_
                  case hw23 => (intro w; go_simp; try with_reducible rfl)
                  refine wpAny_ready (rs := [11]) (by kernel_rfl) (by simp) ?_
                  refine AllReady.cons rfl (fun K hK => ?_) AllReady.nil
                  go_simp
                  first | (refine hK _ _ ?_; clear hK K) | skip
                  refine wpAny_done (by kernel_rfl) ?_ _
                  go_wp2
                  go_meet
                  exact ⟨a8, 1, c8, _, _, Nat.le_refl _, HT2.out⟩
                · go_simp
                  first | (refine hK _ _ ?_; clear hK K) | skip
                  refine wpAny_take (i := 7) (v := (.agg #[.string ⟨#[97]⟩, .string t])) rfl (by kernel_rfl) (by kernel_rfl) (by kernel_rfl) (fun _ _ _ h => h) (Or.inl ⟨by kernel_rfl, ?hw24⟩) ?_
                  case hw24 => (intro w; go_simp; try with_reducible rfl)
                  refine wpAny_ready (rs := [1, 8]) (by kernel_rfl) (by simp) ?_
                  refine AllReady.cons rfl (fun K hK => ?_) (AllReady.cons rfl (fun K hK => ?_) AllReady.nil)
                  · go_simp
                    first | (refine hK _ _ ?_; clear hK K) | skip
                    refine wpAny_ready (rs := [8]) (by kernel_rfl) (by simp) ?_
                    refine AllReady.cons rfl (fun K hK => ?_) AllReady.nil
                    go_simp
                    first | (refine hK _ _ ?_; clear hK K) | skip
                    obtain ⟨v3, hv3⟩ : ∃ v9, v2.alloc (.cells #[.string ⟨#[97]⟩, .string t] AT) = v9 := ⟨_, rfl⟩
                    obtain ⟨A1, hA1⟩ : ∃ S, v2.heap.size = S := ⟨_, rfl⟩
                    have AB : Hid (v3.heap[A1]? = some (.cells #[.string ⟨#[97]⟩, .string t] AT (0, 0))) := hide (by rw [← hv3, ← hA1]; exact heap_alloc_new v2 _)
                    clear ht
                    replace HX : Hid (XS G a n cap zs w wX v3 (some ⟨g, 0, none⟩) m c D X z s none 0 0 (fun _ => ⟨#[]⟩) (fun _ => ⟨#[]⟩)) := hide (by rw [← hv3]; exact xs_alloc HX.out _)
                    replace hS3 : v3.cell? ⟨X, 3, none⟩ = some (.slice none 0 0) := xs_cell HX.out 3
                    rw [hv3, hA1]
                    clear hv3 hA1
                    refine wpAny_ready (rs := [9]) (by kernel_rfl) (by simp) ?_
                    refine AllReady.cons rfl (fun K hK => ?_) AllReady.nil
                    simp only [List.getElem_toArray, List.getElem_cons_succ, List.getElem_cons_zero]
                    rw [if_pos (by kernel_rfl)]
                    have hlv := xs_lt HX.out
                    refine wp_append_src (.tmp 43) (.tmp 50) 45 rfl (X + 1) AT j0 _ 2 32 Tryz.underlying45 hj hy0 hy1 hy2 rfl (by decide) (.slice none 0 0) 0 [] (by kernel_rfl) ⟨rfl, .inl ⟨rfl, rfl⟩⟩ (some ⟨A1, 0, none⟩) 1 1 [.string ⟨#[97]⟩, .string t] (by kernel_rfl) rfl (fun _ => ⟨_, rfl, World.news_of_block (cs := #[.string ⟨#[97]⟩, .string t]) (t := AT) (fr := (0, 0)) AB.out⟩) (by simp [Value.oneCell']) (by unfold maxLen; omega) (by omega) hlv ?_
                    intro a8 c8 v8 hown8 hgr8
                    rw [Nat.zero_add, List.nil_append] at hown8
                    rw [Nat.zero_add]
                    have HT2 := hide (xs_grown (k := 0) (ys := []) (v := .slice none 0 0) HX.out ⟨rfl, .inl ⟨rfl, rfl⟩⟩ hgr8 hown8 (pairs_putF (k := 0) (ys := []) (N := fun _ => ⟨#[]⟩) (V := fun _ => ⟨#[]⟩) (fun j hj => absurd hj (Nat.not_lt_zero _)) rfl ⟨#[97]⟩ t) (small_putF (k := 0) (fun j hj => absurd hj (Nat.not_lt_zero _)) (by decide) ht1))
                    have hfz : v8.frozen? ⟨X, 3, none⟩ = false := (World.frozen?_of_block (hgr8.block X (by omega) (fun e => by simp [Value.ownBlock] at e))).trans (xs_frozen HX.out 3)
                    have hcz : v8.cell? ⟨X, 3, none⟩ = some (.slice none 0 0) := (World.cell?_of_block (hgr8.block X (by omega) (fun e => by simp [Value.ownBlock] at e))).trans hS3
                    clear hown8 hgr8 hS3
                    first | (refine hK _ _ ?_; clear hK K) | skip
                    refine wpAny_take (i := 10) (v := (.pointer (some ⟨X, 3, none⟩))) rfl (by kernel_rfl) (by kernel_rfl) (by kernel_rfl) (fun _ _ _ h => h) (Or.inl ⟨by kernel_rfl, ?hw25⟩) ?_
                    case hw25 => (intro w; go_simp; try with_reducible rfl)
                    refine wpAny_ready (rs := [11]) (by kernel_rfl) (by simp) ?_
                    refine AllReady.cons rfl (fun K hK => ?_) AllReady.nil
                    go_simp
                    first | (refine hK _ _ ?_; clear hK K) | skip
                    refine wpAny_done (by kernel_rfl) ?_ _
                    go_wp2
                    go_meet
                    exact ⟨a8, 1, c8, _, _, Nat.le_refl _, HT2.out⟩
                  · go_simp
                    first | (refine hK _ _ ?_; clear hK K) | skip
                    obtain ⟨v3, hv3⟩ : ∃ v9, v2.alloc (.cells #[.string ⟨#[97]⟩, .string t] AT) = v9 := ⟨_, rfl⟩
                    obtain ⟨A1, hA1⟩ : ∃ S, v2.heap.size = S := ⟨_, rfl⟩
                    have AB : Hid (v3.heap[A1]? = some (.cells #[.string ⟨#[97]⟩, .string t] AT (0, 0))) := hide (by rw [← hv3, ← hA1]; exact heap_alloc_new v2 _)
                    clear ht
                    replace HX : Hid (XS G a n cap zs w wX v3 (some ⟨g, 0, none⟩) m c D X z s none 0 0 (fun _ => ⟨#[]⟩) (fun _ => ⟨#[]⟩)) := hide (by rw [← hv3]; exact xs_alloc HX.out _)
                    replace hS3 : v3.cell? ⟨X, 3, none⟩ = some (.slice none 0 0) := xs_cell HX.out 3
                    rw [hv3, hA1]
                    clear hv3 hA1
                    refine wpAny_ready (rs := [1]) (by kernel_rfl) (by simp) ?_
                    refine AllReady.cons rfl (fun K hK => ?_) AllReady.nil
                    go_simp
                    first | (refine hK _ _ ?_; clear hK K) | skip
                    refine wpAny_ready (rs := [9]) (by kernel_rfl) (by simp) ?_
                    refine AllReady.cons rfl (fun K hK => ?_) AllReady.nil
                    simp only [List.getElem_toArray, List.getElem_cons_succ, List.getElem_cons_zero]
                    rw [if_pos (by kernel_rfl)]
                    have hlv := xs_lt HX.out
                    refine wp_append_src (.tmp 43) (.tmp 50) 45 rfl (X + 1) AT j0 _ 2 32 Tryz.underlying45 hj hy0 hy1 hy2 rfl (by decide) (.slice none 0 0) 0 [] (by kernel_rfl) ⟨rfl, .inl ⟨rfl, rfl⟩⟩ (some ⟨A1, 0, none⟩) 1 1 [.string ⟨#[97]⟩, .string t] (by kernel_rfl) rfl (fun _ => ⟨_, rfl, World.news_of_block (cs := #[.string ⟨#[97]⟩, .string t]) (t := AT) (fr := (0, 0)) AB.out⟩) (by simp [Value.oneCell']) (by unfold maxLen; omega) (by omega) hlv ?_
                    intro a8 c8 v8 hown8 hgr8
                    rw [Nat.zero_add, List.nil_append] at hown8
                    rw [Nat.zero_add]
                    have HT2 := hide (xs_grown (k := 0) (ys := []) (v := .slice none 0 0) HX.out ⟨rfl, .inl ⟨rfl, rfl⟩⟩ hgr8 hown8 (pairs_putF (k := 0) (ys := []) (N := fun _ => ⟨#[]⟩) (V := fun _ => ⟨#[]⟩) (fun j hj => absurd hj (Nat.not_lt_zero _)) rfl ⟨#[97]⟩ t) (small_putF (k := 0) (fun j hj => absurd hj (Nat.not_lt_zero _)) (by decide) ht1))
                    have hfz : v8.frozen? ⟨X, 3, none⟩ = false := (World.frozen?_of_block (hgr8.block X (by omega) (fun e => by simp [Value.ownBlock] at e))).trans (xs_frozen HX.out 3)
                    have hcz : v8.cell? ⟨X, 3, none⟩ = some (.slice none 0 0) := (World.cell?_of_block (hgr8.block X (by omega) (fun e => by simp [Value.ownBlock] at e))).trans hS3
                    clear hown8 hgr8 hS3
                    first | (refine hK _ _ ?_; clear hK K) | skip
                    refine wpAny_take (i := 10) (v := (.pointer (some ⟨X, 3, none⟩))) rfl (by kernel_rfl) (by kernel_rfl) (by kernel_rfl) (fun _ _ _ h => h) (Or.inl ⟨by kernel_rfl, ?hw26⟩) ?_
                    case hw26 => (intro w; go_simp; try with_reducible rfl)
                    refine wpAny_ready (rs := [11]) (by kernel_rfl) (by simp) ?_
                    refine AllReady.cons rfl (fun K hK => ?_) AllReady.nil
                    go_simp
                    first | (refine hK _ _ ?_; clear hK K) | skip
                    refine wpAny_done (by kernel_rfl) ?_ _
                    go_wp2
                    go_meet
                    exact ⟨a8, 1, c8, _, _, Nat.le_refl _, HT2.out⟩
          · go_wp2
            go_meet
            exact ⟨none, 0, 0, _, _, by omega, HXS.out⟩
        case rest =>
          clear HXS
          obtain ⟨sa, ka, ca, N, V, hka, hXs⟩ := hcut
          have HXS := hide hXs
          clear hXs
          have x0 : wc.cell? ⟨X, 0, none⟩ = some (.int .i64 z) := xs_cell HXS.out 0
          have x1 : wc.cell? ⟨X, 1, none⟩ = some (.string s) := xs_cell HXS.out 1
          have x2 : wc.cell? ⟨X, 2, none⟩ = some (.string ⟨#[]⟩) := xs_cell HXS.out 2
          have x3 : wc.cell? ⟨X, 3, none⟩ = some (.slice sa ka ca) := xs_cell HXS.out 3
          obtain ⟨xs, hox, hix⟩ := HXS.out.2.1
          have HOX := hide hox
          have HIX := hide (its_keep hix HXS.out.2.2.2.1)
          obtain ⟨ys, hoy, hpy⟩ := HXS.out.2.2.2.2.2.1
          have HAD := hide (atD_own hoy hpy)
          have hca : ka ≤ ca := own_cap hoy
          have hlw := xs_lt HXS.out
          clear hox hix hoy hpy
          go_wp2_with (at_builtin; refine wpList_append_own _ rfl (.tmp 55) (.tmp 57) 24 rfl (G + 1) IT i0 (.agg #[.int .i64 0, .string ⟨#[]⟩, .string ⟨#[]⟩, .slice none 0 0]) 4 64 Tryz.underlying24 hi hz0 hz1 hz2 rfl (by decide) _ _ _ rfl (HOX.out.alloc _) ⟨wc.heap.size, 0, none⟩ 1 1 [.int .i64 z, .string s, .string ⟨#[]⟩, .slice sa ka ca] rfl rfl (fun j u hj => gFour_new wc _ _ _ _ _ j u hj) (gItem_list _ _ _ _ _ _) (by unfold maxLen; omega) (by omega) (by simp; omega) ?_; intro v2 w9 hown2 hgrow2 _; obtain ⟨ad2, c2', hv2⟩ := gOwn_shape hown2; rw [hv2] at hown2 ⊢; clear hv2; have HO9 := hide hown2; have HG9 := hide hgrow2; clear hown2 hgrow2)
          have HG := hide (gs_put HXS.out.1 HOX.out HIX.out HXS.out.2.2.1 (keepA_trans HXS.out.2.2.2.2.2.2.2.2.2.1 HXS.out.2.2.2.1) HO9.out HG9.out HAD.out hca hs8 (by decide) (by omega) (fun j hj => HXS.out.2.2.2.2.2.2.1 j hj))
          have HFL2 : Hid (FlOk (D.put z s ⟨#[]⟩ ka N V)) := hide (flok_put HFL.out (fun h => by rw [hse] at h; cases h))
          obtain ⟨D2, hD2⟩ : ∃ D2, D.put z s ⟨#[]⟩ ka N V = D2 := ⟨_, rfl⟩
          rw [hD2] at HG HFL2
          clear hD2 HO9 HG9 HOX HIX HAD HXS HFL x0 x1 x2 x3
          refine (d_once G a n cap zs 3 _ (by omega) (by omega) HG.out.1).mono ?_
          rintro e w5 ⟨b4, rfl, hd⟩
          replace HG := hide (gs_drew HG.out hd)
          have hs5 := gs_size HG.out
          clear hd
          cases b4
          · go_wp2
            go_roundw
            case rel => exact ⟨i - 1, m + 1, c2', ad2, D2, rfl, by congr 1; omega, by omega, by omega, HFL2, HG⟩
            case measure => simp [intOf]; omega
          · go_wp2_with fail
            refine (d_below G a n cap zs 3 _ (by omega) (by omega) (rd_alloc HG.out.1 _)).mono ?_
            rintro e w6 ⟨y, hy0', hy1', rfl, hd⟩
            obtain ⟨u, hu, hu8⟩ := str_cell 8 hd.2 hy0' hy1' rfl hs5 (fun k hk => by
              have hk' : k < 3 := hk
              rcases (show k = 0 ∨ k = 1 ∨ k = 2 by omega) with e | e | e <;> subst e <;> exact ⟨_, rfl, by decide⟩)
            replace HG := hide (gs_drew (gs_alloc HG.out _) hd)
            have hs6 := gs_size HG.out
            clear hd
            obtain ⟨xs, hox, hix⟩ := HG.out.2.1
            have HOX := hide hox
            have HIX := hide hix
            have HDn2 := hide (drIt_dc HG.out.2.1).1
            clear hox hix
            go_wp2_with (at_builtin; refine wpList_append_own _ rfl (.tmp 61) (.tmp 69) 24 rfl (G + 1) IT i0 (.agg #[.int .i64 0, .string ⟨#[]⟩, .string ⟨#[]⟩, .slice none 0 0]) 4 64 Tryz.underlying24 hi hz0 hz1 hz2 rfl (by decide) _ _ _ rfl (HOX.out.alloc _) ⟨w6.heap.size, 0, none⟩ 1 1 [.int .i64 (m : Int), .string ⟨#[]⟩, .string u, .slice none 0 0] rfl rfl (fun j u hj => gFour_new w6 _ _ _ _ _ j u hj) (gItem_list _ _ _ _ _ _) (by unfold maxLen; omega) (by omega) (by simp; omega) ?_; intro v2 w9 hown2 hgrow2 _; obtain ⟨ad2, c2', hv2⟩ := gOwn_shape hown2; rw [hv2] at hown2 ⊢; clear hv2; have HO9 := hide hown2; have HG9 := hide hgrow2; clear hown2 hgrow2)
            have HG7 := hide (gs_put HG.out.1 HOX.out HIX.out HG.out.2.2.1 HG.out.2.2.2 HO9.out HG9.out (an := fun _ => ⟨#[]⟩) (av := fun _ => ⟨#[]⟩) (fun h => absurd h (Nat.lt_irrefl _)) (Nat.le_refl _) (by decide) hu8 (by omega) (fun k hk => by omega))
            have HFL3 := hide (flok_put (u := (m : Int)) (nm := ⟨#[]⟩) (tx := u) (ac := 0) (an := fun _ => ⟨#[]⟩) (av := fun _ => ⟨#[]⟩) HFL2.out (fun _ => ⟨m, by rw [HDn2.out]; omega, rfl⟩))
            go_roundw
            case rel => exact ⟨i - 1, m + 1 + 1, c2', ad2, _, rfl, by congr 1; omega, by omega, by omega, HFL3, HG7⟩
            case measure => simp [intOf]; omega
    · go_wp2_with fail
      refine (d_once G a n cap zs 24 _ (by omega) (by omega) HGS.out.1).mono ?_
      rintro e w2 ⟨bo, rfl, hd⟩
      replace HGS := hide (gs_drew HGS.out hd)
      clear hd
      cases bo
      · go_wp2
        go_ret
        exact ⟨ad, m, c, D, rfl, HGS.out, hm1, by omega⟩
      · obtain ⟨g, hag, -⟩ := drIt_cells HGS.out.2.1 (by omega)
        subst hag
        obtain ⟨⟨v0, hv0⟩, hf0⟩ := gs_cell HGS.out 1 (by omega)
        have hm0 : (0 : Int) < (m : Int) := by omega
        go_wp2
        go_ret
        exact ⟨some ⟨g, 0, none⟩, m, c, _, rfl, gs_store HGS.out 1 (.string ⟨#[]⟩) (fun W xs => its_N (k := 0) ⟨#[]⟩ (by decide) hm1 W xs), hm1, by omega⟩
end Go.Proofs.YtdepgkpfibmbgaaGreatDoor
