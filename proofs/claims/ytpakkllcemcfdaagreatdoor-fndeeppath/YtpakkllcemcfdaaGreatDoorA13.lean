/-
  Texts put together: KdMath, KdS, TxI, Gen.
-/
import Derived.Test.YtpakkllcemcfdaaGreatDoorA12
import Derived.Test.YtpakkllcemcfdaaGreatDoorA1
import Derived.Below
import Derived.OwnWalk
import Derived.Laws.OwnMore
/-
  Plain facts on documents as rows of items, of no program: the kids of an item, the text right below it.
-/
namespace Go.Proofs.YtpakkllcemcfdaaGreatDoor
set_option linter.unusedVariables false
/-- The kids of x among the first m items. -/
def kd (D : Dc) (x : Int) : Nat → List Int
  | 0 => []
  | m + 1 => if D.U m = x then kd D x m ++ [(m : Int)] else kd D x m
theorem kd_yes {D : Dc} {x : Int} {m : Nat} (h : D.U m = x) : kd D x (m + 1) = kd D x m ++ [(m : Int)] := by rw [kd, if_pos h]
theorem kd_no {D : Dc} {x : Int} {m : Nat} (h : ¬ D.U m = x) : kd D x (m + 1) = kd D x m := by rw [kd, if_neg h]
theorem kd_len (D : Dc) (x : Int) : ∀ m, (kd D x m).length ≤ m
  | 0 => Nat.le_refl _
  | m + 1 => by
    have := kd_len D x m
    rw [kd]
    split
    · simp; omega
    · omega
theorem kd_mem {D : Dc} {x : Int} : ∀ (m : Nat) (j : Int), j ∈ kd D x m → 0 ≤ j ∧ j < m
  | 0, j, h => by cases h
  | m + 1, j, h => by
    rw [kd] at h
    split at h
    · rcases List.mem_append.1 h with h | h
      · have := kd_mem m j h; omega
      · simp at h; omega
    · have := kd_mem m j h; omega
/-- None of the items up to x is below x. -/
theorem kd_start {D : Dc} {x : Nat} (hd : ∀ j, j ≤ x → D.U j < j) : ∀ m, m ≤ x + 1 → kd D x m = []
  | 0, h => rfl
  | m + 1, h => by
    have := hd m (by omega)
    rw [kd_no (by omega), kd_start hd m (by omega)]
/-- The text right below x among the first m items. -/
def txF (D : Dc) (x : Int) : Nat → ByteArray
  | 0 => ⟨#[]⟩
  | m + 1 => if D.U m = x then txF D x m ++ D.TX m else txF D x m
theorem txF_yes {D : Dc} {x : Int} {m : Nat} (h : D.U m = x) : txF D x (m + 1) = txF D x m ++ D.TX m := by rw [txF, if_pos h]
theorem txF_no {D : Dc} {x : Int} {m : Nat} (h : ¬ D.U m = x) : txF D x (m + 1) = txF D x m := by rw [txF, if_neg h]
theorem txF_size (D : Dc) (x : Int) : ∀ m, (txF D x m).size ≤ sumN (szD D) m
  | 0 => Nat.le_refl _
  | m + 1 => by
    have := txF_size D x m
    have h2 : sumN (szD D) (m + 1) = sumN (szD D) m + szD D m := rfl
    have h3 : (D.TX m).size ≤ szD D m := by unfold szD; omega
    rw [txF]
    split
    · rw [ByteArray.size_append]; omega
    · omega
/-- The texts of some places, one behind the other. -/
def catT (D : Dc) : List Int → ByteArray
  | [] => ⟨#[]⟩
  | j :: l => D.TX j.toNat ++ catT D l
theorem catT_snoc (D : Dc) : ∀ (l : List Int) (j : Int), catT D (l ++ [j]) = catT D l ++ D.TX j.toNat
  | [], j => by show D.TX j.toNat ++ ByteArray.empty = ByteArray.empty ++ D.TX j.toNat; rw [ByteArray.append_empty, ByteArray.empty_append]
  | i :: l, j => by show D.TX i.toNat ++ catT D (l ++ [j]) = D.TX i.toNat ++ catT D l ++ D.TX j.toNat; rw [catT_snoc D l j, ByteArray.append_assoc]
theorem cat_kd (D : Dc) (x : Int) : ∀ m, catT D (kd D x m) = txF D x m
  | 0 => rfl
  | m + 1 => by
    rw [kd, txF]
    split
    · rw [catT_snoc, cat_kd D x m]; rfl
    · exact cat_kd D x m
theorem docok_facts {D : Dc} (h : docokB D = true) : (1 ≤ D.n ∧ D.n ≤ 200) ∧ (∀ j, j < D.n → itB D j = true) ∧ sumN (szD D) D.n ≤ 2500 := by
  unfold docokB at h
  simp only [Bool.and_eq_true, decide_eq_true_eq, List.all_eq_true, List.mem_range] at h
  exact ⟨h.1, h.2.1, h.2.2⟩
theorem docok_dec {D : Dc} (h : docokB D = true) : ∀ j, j < D.n → -1 ≤ D.U j ∧ D.U j < j := good_dec D.n (itB_good (docok_facts h).2.1)
def txOk (D : Dc) (x : Int) : Bool := docokB D && (decide (0 ≤ x ∧ x ≤ (D.n : Int) - 1) && !(D.NM x.toNat).toList.isEmpty)
def txV (D : Dc) (x : Int) : ByteArray := if txOk D x = true then txF D x D.n else ⟨#[]⟩
end Go.Proofs.YtpakkllcemcfdaaGreatDoor

/-
  Contracts: the kids of an item, and the text right below it, by the specification.
-/
namespace Go.Proofs.YtpakkllcemcfdaaGreatDoor
open Go.RowKit Go.Joins
set_option linter.unusedVariables false
set_option linter.unusedSimpArgs false
theorem catT_take (D : Dc) (L : List Int) (j : Nat) (h : j < L.length) : catT D (L.take (j + 1)) = catT D (L.take j) ++ D.TX (L[j]?.getD 0).toNat := by
  rw [List.take_succ_eq_append_getElem h, catT_snoc, List.getElem?_eq_getElem h]
  rfl
theorem catT_app (D : Dc) : ∀ a b : List Int, catT D (a ++ b) = catT D a ++ catT D b
  | [], b => by show catT D b = ByteArray.empty ++ catT D b; rw [ByteArray.empty_append]
  | i :: l, b => by show D.TX i.toNat ++ catT D (l ++ b) = D.TX i.toNat ++ catT D l ++ catT D b; rw [catT_app D l b, ByteArray.append_assoc]
theorem catT_le (D : Dc) (L : List Int) (j : Nat) : (catT D (L.take j)).size ≤ (catT D L).size := by
  have h := catT_app D (L.take j) (L.drop j)
  rw [List.take_append_drop] at h
  rw [h, ByteArray.size_append]
  omega
set_option maxHeartbeats 2000000 in
theorem s_kids (D : Dc) (n b off cap : Nat) (w : World) (x : Nat) (hD : D.n = n) (hn : n ≤ 200) (hx : x < n) (hbs : b < w.heap.size) (hr : DcRow w b off D w.heap.size) (hdec : ∀ j, j < n → D.U j < j) :
    Calls Tryz.prog 60 #[.slice (some ⟨b, off, none⟩) n cap, .int .i64 x] w fun e w' => ∃ ad c, e = .returned (.slice ad (kd D x n).length c) ∧ w'.ownsRow w.heap.size 2 1 (.slice ad (kd D x n).length c) (kd D x n).length ((kd D x n).map (Value.int .i64)) ∧ Below w.heap.size w w' := by
  obtain ⟨i0, hi, hz0, hz1, hz2⟩ := info_parts info64
  have HD := hide hD
  have HR := hide hr
  have HC := hide hdec
  have hxn : (x : Int) < (n : Int) := by omega
  clear hr hD hdec
  go_enter Tryz.func60, Tryz.ntmps60
  go_wp2
  go_loopw [5, 6] (fun v iv wr => ∃ (i : Nat) (ad : Option Addr) (c : Nat), x + 1 ≤ i ∧ i ≤ n ∧ iv = .int .i64 i ∧ v = .slice ad (kd D x i).length c ∧ wr.ownsRow w.heap.size 2 1 (.slice ad (kd D x i).length c) (kd D x i).length ((kd D x i).map (Value.int .i64)) ∧ Below w.heap.size w wr) (fun _ iv _ => n - (intOf iv).toNat)
  case atStart =>
    have e : kd D x (x + 1) = [] := kd_start (fun j hj => HC.out j (by omega)) (x + 1) (Nat.le_refl _)
    refine ⟨x + 1, some ⟨w.heap.size, 0, none⟩, 0, Nat.le_refl _, by omega, by go_num, by rw [e]; rfl, ?_, (Below.refl _ _).alloc (Nat.le_refl _) _⟩
    rw [e]
    exact World.ownsRow_made (base := w.heap.size) (e := 2) (size := 1) w #[] 0 (Nat.le_refl _) (Nat.zero_le _) rfl
  case round =>
    obtain ⟨i, ad, c, hi1, hi2, rfl, rfl, ho, hb⟩ := hrel
    have HO := hide ho
    have HB := hide hb
    have hkl := kd_len D x i
    have hsz : w.heap.size ≤ wr.heap.size := hb.size
    by_cases hlt : i < n
    · obtain ⟨ad9, cp9, hc9, -⟩ := HR.out i (by rw [HD.out]; omega)
      obtain ⟨c0, c1, c2, c3⟩ := dcCells_go hc9 hbs hb
      have hin : (i : Int) < (n : Int) := by omega
      clear hc9 ho hb
      by_cases hu : D.U i = x
      · have e : kd D x (i + 1) = kd D x i ++ [(i : Int)] := kd_yes hu
        obtain ⟨L, hL⟩ : ∃ L, kd D x i = L := ⟨_, rfl⟩
        rw [hL] at e HO hkl ⊢
        have HE := hide e
        have hub : (D.U i == (x : Int)) = true := by simpa using hu
        clear e hL hu
        go_wp2_with (at_builtin; refine wpList_append_own _ rfl (.tmp 23) (.tmp 25) 27 rfl w.heap.size 2 i0 (.int .i64 0) 1 8 Tryz.underlying27 hi hz0 hz1 hz2 rfl (by decide) _ _ _ rfl (HO.out.alloc _) ⟨_, 0, none⟩ 1 1 [.int .i64 (i : Int)] rfl rfl (fun j u hj => one_new _ _ _ j u hj) (one_list _ _) (by unfold maxLen; omega) (by omega) (by simp; omega) ?_; intro v2 w2 hown2 hgrow2 _; obtain ⟨ad2, c2', hv2⟩ := own_shape hown2; rw [hv2] at hown2 ⊢; clear hv2; have HB2 := hide (below_step' HB.out HO.out hgrow2); have HO2 := hide hown2; clear hown2 hgrow2)
        go_roundw
        case rel =>
          refine ⟨i + 1, ad2, c2', by omega, by omega, by go_num, ?_, ?_, HB2.out⟩
          · rw [HE.out]; simp
          · have := HO2.out
            rw [HE.out]
            simpa using this
        case measure => simp [intOf]; omega
      · have e : kd D x (i + 1) = kd D x i := kd_no hu
        have HE := hide e
        have hub : (D.U i == (x : Int)) = false := by simpa using hu
        clear e hu
        go_wp2
        go_roundw
        case rel => exact ⟨i + 1, ad, c, by omega, by omega, by go_num, by rw [HE.out], by rw [HE.out]; exact HO.out, HB.out⟩
        case measure => simp [intOf]; omega
    · have hin : i = n := by omega
      subst hin
      go_wp2
      go_ret
      exact ⟨ad, c, rfl, ho, hb⟩
set_option maxHeartbeats 2000000 in
theorem s_text2 (D : Dc) (n b off cap : Nat) (w : World) (x : Nat) (hD : D.n = n) (hn : n ≤ 200) (hx : x < n) (hbs : b < w.heap.size) (hr : DcRow w b off D w.heap.size) (hdec : ∀ j, j < n → D.U j < j) (hsz : sumN (szD D) n ≤ 2500) :
    Calls Tryz.prog 71 #[.slice (some ⟨b, off, none⟩) n cap, .int .i64 x] w fun e w' => e = .returned (.string (txF D x n)) ∧ Below w.heap.size w w' := by
  have HD := hide hD
  have HR := hide hr
  have CK := hide (s_kids D n b off cap w x hD hn hx hbs hr hdec)
  have htx := txF_size D x n
  have hcat := cat_kd D x n
  have hmem := kd_mem (D := D) (x := (x : Int)) n
  have hlen := kd_len D x n
  obtain ⟨L, hL⟩ : ∃ L, kd D x n = L := ⟨_, rfl⟩
  rw [hL] at CK hcat hmem hlen
  rw [← hcat] at htx ⊢
  have HT : Hid ((catT D L).size ≤ 2500) := hide (by omega)
  have HM := hide hmem
  clear hr hdec htx hcat hmem hL hD
  go_enter Tryz.func71, Tryz.ntmps71
  go_wp2_with fail
  refine CK.out.mono ?_
  rintro e w1 ⟨ad, c, rfl, ho, hb⟩
  have hra := own_rowAt' rfl ho
  have HRA := hide hra
  have HB := hide hb
  clear ho hra hb
  go_wp2
  go_loop [5, 7] (fun s i => ∃ j : Nat, j ≤ L.length ∧ s = .string (catT D (L.take j)) ∧ i = .int .i64 j) (fun _ i => L.length - (intOf i).toNat)
  case atStart => exact ⟨0, Nat.zero_le _, rfl, rfl⟩
  case round =>
    obtain ⟨j, hj, rfl, rfl⟩ := hrel
    by_cases hlt : j < L.length
    · obtain ⟨b9, off9, rfl, hb9, hc9⟩ := HRA.out (fun h => by rw [h] at hlt; exact absurd hlt (Nat.not_lt_zero _))
      have k0 := hc9 j hlt
      obtain ⟨v, hv⟩ : ∃ v, L[j]?.getD 0 = v := ⟨_, rfl⟩
      have hvm := HM.out v (by rw [← hv, List.getElem?_eq_getElem hlt]; exact List.getElem_mem hlt)
      rw [hv] at k0
      obtain ⟨ad8, cp8, hc8, -⟩ := HR.out v.toNat (by rw [HD.out]; omega)
      obtain ⟨c0, c1, c2, c3⟩ := dcCells_go hc8 hbs HB.out
      have HTK := hide (catT_take D L j hlt)
      rw [hv] at HTK
      have hle := catT_le D L (j + 1)
      rw [HTK.out, ByteArray.size_append] at hle
      have hT := HT.out
      obtain ⟨S, hS⟩ : ∃ S, catT D (L.take j) = S := ⟨_, rfl⟩
      rw [hS] at HTK hle ⊢
      have hS1 : ¬ 9223372036854775807 < S.size + (D.TX v.toNat).size := by omega
      have hjl : (j : Int) < (L.length : Int) := by omega
      have hvn : v < (n : Int) := by omega
      have hv0 : 0 ≤ v := by omega
      clear hc9 hv hc8 hS hle hT
      go_wp2
      go_round
      case rel => exact ⟨j + 1, by omega, by rw [HTK.out], by go_num⟩
      case measure => simp [intOf]; omega
    · have hjn : j = L.length := by omega
      subst hjn
      go_wp2
      go_ret
      exact ⟨by first | rfl | rw [List.take_length], HB.out⟩
end Go.Proofs.YtpakkllcemcfdaaGreatDoor

/-
  Contracts: the text of an element, by the program.
-/
namespace Go.Proofs.YtpakkllcemcfdaaGreatDoor
open Go.RowKit Go.Joins
set_option linter.unusedVariables false
set_option linter.unusedSimpArgs false
def hasB' (D : Dc) (x : Int) : Bool := docokB D && decide (0 ≤ x ∧ x ≤ (D.n : Int) - 1)
set_option maxHeartbeats 2000000 in
theorem i_hasItem (D : Dc) (n : Nat) (a : Option Addr) (cap : Nat) (x : Int) (w : World) (hD : D.n = n) (hz : dcTot D ≤ 1048576) (hr : DcAt w a D w.heap.size) (hT : Tabs w) :
    Calls Tryz.prog 56 #[.slice a n cap, .int .i64 x] w fun e w' => e = .returned (.bool (hasB' D x)) ∧ Below w.heap.size w w' := by
  have HD := hide hD
  have hn : n ≤ 1048576 := by rw [← hD]; exact (dc_sz hz).1
  have CD := hide (i_docok D n a cap w hD hz hr hT)
  clear hr hD hz hT
  cases hd : docokB D
  · have HW : Hid (hasB' D x = false) := hide (by unfold hasB'; rw [hd]; rfl)
    rw [hd] at CD
    go_enter Tryz.func56, Tryz.ntmps56
    go_wp2_with (first | (go_at_call 85; refine CD.out.mono ?_; rintro e w1 ⟨rfl, hb1⟩; have HB := hide hb1; clear hb1))
    go_ret
    exact ⟨ret_bool HW.out.symm, HB.out⟩
  · rw [hd] at CD
    by_cases h0 : 0 ≤ x
    · by_cases h1 : x < (n : Int)
      · have HW : Hid (hasB' D x = true) := hide (by unfold hasB'; rw [hd, HD.out, decide_eq_true ⟨h0, by omega⟩]; rfl)
        go_enter Tryz.func56, Tryz.ntmps56
        go_wp2_with (first | (go_at_call 85; refine CD.out.mono ?_; rintro e w1 ⟨rfl, hb1⟩; have HB := hide hb1; clear hb1))
        go_ret
        exact ⟨ret_bool (by rw [HW.out]; try simp_all), HB.out⟩
      · have HW : Hid (hasB' D x = false) := hide (by unfold hasB'; rw [hd, HD.out, decide_eq_false (by omega)]; rfl)
        go_enter Tryz.func56, Tryz.ntmps56
        go_wp2_with (first | (go_at_call 85; refine CD.out.mono ?_; rintro e w1 ⟨rfl, hb1⟩; have HB := hide hb1; clear hb1))
        go_ret
        exact ⟨ret_bool (by rw [HW.out]; try simp_all), HB.out⟩
    · have HW : Hid (hasB' D x = false) := hide (by unfold hasB'; rw [hd, HD.out, decide_eq_false (by omega)]; rfl)
      go_enter Tryz.func56, Tryz.ntmps56
      go_wp2_with (first | (go_at_call 85; refine CD.out.mono ?_; rintro e w1 ⟨rfl, hb1⟩; have HB := hide hb1; clear hb1))
      go_ret
      exact ⟨ret_bool (by rw [HW.out]; try simp_all), HB.out⟩
theorem txI_no {D : Dc} {x : Int} (h : txOk D x = false) : txV D x = ⟨#[]⟩ := by unfold txV; rw [h]; rfl
theorem txI_yes {D : Dc} {x : Int} (h : txOk D x = true) : txV D x = txF D x D.n := by unfold txV; rw [h]; rfl
theorem txI_ret {a a' : ByteArray} {b b' : Bool} (h1 : a = a') (h2 : b = b') : Ending.returned (.tuple #[.string a, .bool b]) = .returned (.tuple #[.string a', .bool b']) := by rw [h1, h2]
end Go.Proofs.YtpakkllcemcfdaaGreatDoor

/-
  Plain laws on rows of the call's own, of no program: their shape, what stays of them, what one more cell makes of the world.
-/
namespace Go.Proofs.YtpakkllcemcfdaaGreatDoor
open Go.RowKit
set_option linter.unusedVariables false
theorem gOwn_shape {w : World} {B : Nat} {e : TypeId} {z : Nat} {v : Value} {n : Nat} {xs : List Value} (h : w.ownsRow B e z v n xs) : ∃ ad cap, v = .slice ad n cap := by
  rcases h.2 with ⟨rfl, rfl⟩ | ⟨g, cap, cur, rfl, _⟩
  · exact ⟨_, _, rfl⟩
  · exact ⟨_, _, rfl⟩
theorem gOwn_after {w w' : World} {B e size n : Nat} {v : Value} {xs : List Value} (h : w.ownsRow B e size v n xs) (hb : Below w.heap.size w w') : w'.ownsRow B e size v n xs := by
  obtain ⟨hl, h⟩ := h
  refine ⟨hl, ?_⟩
  rcases h with h | ⟨g, cap, cur, hv, hg, hh, h1, h2, h3, h4⟩
  · exact .inl h
  · have hlt : g < w.heap.size := (Array.getElem?_eq_some_iff.1 hh).1
    exact .inr ⟨g, cap, cur, hv, hg, (hb.block g hlt).trans hh, h1, h2, h3, h4⟩
theorem gOne_new (w : World) (v : Value) (t : TypeId) (j : Nat) (u : Value) (hj : [v][j]? = some u) : (w.alloc (.cells #[v] t)).cell? ((⟨w.heap.size, 0, none⟩ : Addr).add j) = some u := by
  have h0 : j = 0 := by
    rcases Nat.eq_zero_or_pos j with h | h
    · exact h
    · rw [List.getElem?_eq_none (by simp; omega)] at hj; simp at hj
  subst h0
  simp at hj
  subst hj
  simp [Addr.add]
theorem gStr_list (s : ByteArray) : ∀ u ∈ [Value.string s], u.oneCell' = true := by
  intro u hu
  simp at hu
  subst hu
  rfl
theorem gBelow_one {w wr w2 : World} {o : Obj} {e : TypeId} {z : Nat} {ad : Option Addr} {n c : Nat} {xs : List Value} (hb : Below w.heap.size w wr) (hown : wr.ownsRow w.heap.size e z (.slice ad n c) n xs)
    (hg : (wr.alloc o).grownBy w2 (Value.slice ad n c).ownBlock) : Below w.heap.size w w2 := by
  have h2 : Below w.heap.size w (wr.alloc o) := hb.alloc hb.size o
  refine h2.grown hg h2.size fun j hj => ?_
  rcases hown.2 with ⟨hv, h0⟩ | ⟨g, cap, cur, hv, hB, rest⟩
  · rw [hv] at hj
    simp [Value.ownBlock] at hj
  · rw [hv] at hj
    simp [Value.ownBlock] at hj
    omega
/-- A block of the call's own, with these cells. -/
def CellsAt (w : World) (G : Nat) (cs : Array Value) : Prop := ∃ T, w.heap[G]? = some (.cells cs T (0, 0))
theorem cellsAt_new (w : World) (cs : Array Value) (T : TypeId) : CellsAt (w.alloc (.cells cs T)) w.heap.size cs := ⟨T, heap_alloc_new w _⟩
theorem cellsAt_lt {w : World} {G : Nat} {cs : Array Value} (h : CellsAt w G cs) : G < w.heap.size := by
  obtain ⟨T, h⟩ := h
  exact (Array.getElem?_eq_some_iff.1 h).1
theorem cellsAt_go {w w' : World} {G B : Nat} {cs : Array Value} (h : CellsAt w G cs) (hb : Below B w w') (hB : G < B) : CellsAt w' G cs := by
  obtain ⟨T, h⟩ := h
  exact ⟨T, (hb.block G hB).trans h⟩
theorem cellsAt_cell {w : World} {G : Nat} {cs : Array Value} (h : CellsAt w G cs) (i : Nat) : w.cell? ⟨G, i, none⟩ = cs[i]? := by
  obtain ⟨T, h⟩ := h
  rw [cell_of_row w G i _ T (0, 0) h]
theorem cellsAt_frozen {w : World} {G : Nat} {cs : Array Value} (h : CellsAt w G cs) (i : Nat) : w.frozen? ⟨G, i, none⟩ = false := by
  obtain ⟨T, h⟩ := h
  simp [World.frozen?, h]
theorem cellsAt_set {w : World} {G i : Nat} {cs : Array Value} (h : CellsAt w G cs) (v : Value) : CellsAt (w.setCell ⟨G, i, none⟩ v) G (cs.setIfInBounds i v) := by
  obtain ⟨T, h⟩ := h
  have hl := (Array.getElem?_eq_some_iff.1 h).1
  refine ⟨T, ?_⟩
  simp [World.setCell, Array.getElem?_modify, h]
theorem cellsAt_far {w : World} {G : Nat} {p : Addr} {cs : Array Value} (h : CellsAt w G cs) (v : Value) (hne : p.block ≠ G) : CellsAt (w.setCell p v) G cs := by
  obtain ⟨T, h⟩ := h
  refine ⟨T, ?_⟩
  simp [World.setCell, Array.getElem?_modify, hne, h]
theorem gOwn_set {w : World} {B : Nat} {e : TypeId} {z : Nat} {v : Value} {n : Nat} {xs : List Value} (h : w.ownsRow B e z v n xs) (p : Addr) (u : Value) (hne : v.ownBlock ≠ some p.block) : (w.setCell p u).ownsRow B e z v n xs := by
  obtain ⟨hl, h⟩ := h
  refine ⟨hl, ?_⟩
  rcases h with h | ⟨g, cap, cur, hv, hg, hh, h1, h2, h3, h4⟩
  · exact .inl h
  · have hne2 : p.block ≠ g := fun e => hne (by rw [hv, e]; rfl)
    exact .inr ⟨g, cap, cur, hv, hg, by rw [← hh]; simp [World.setCell, Array.getElem?_modify, hne2], h1, h2, h3, h4⟩
theorem gBox_below {w w2 : World} {o : Obj} (k : Below (w.alloc o).heap.size (w.alloc o) w2) : Below w.heap.size w w2 :=
  ((Below.refl _ _).alloc (Nat.le_refl _) _).trans (k.mono (by simp))
theorem gOwn_lower {w : World} {B B' : Nat} {e : TypeId} {z : Nat} {v : Value} {n : Nat} {xs : List Value} (h : w.ownsRow B e z v n xs) (hB : B' ≤ B) : w.ownsRow B' e z v n xs := by
  obtain ⟨hl, h⟩ := h
  refine ⟨hl, ?_⟩
  rcases h with h | ⟨g, cap, cur, hv, hg, hh, h1, h2, h3, h4⟩
  · exact .inl h
  · exact .inr ⟨g, cap, cur, hv, Nat.le_trans hB hg, hh, h1, h2, h3, h4⟩
theorem gTwo_new (w : World) (x y : Value) (T : TypeId) (j : Nat) (u : Value) (hj : [x, y][j]? = some u) : (w.alloc (.cells #[x, y] T)).cell? ((⟨w.heap.size, 0, none⟩ : Addr).add j) = some u := by
  match j, hj with
  | 0, hj => simp at hj; subst hj; simp [Addr.add]
  | 1, hj => simp at hj; subst hj; simp [Addr.add]
theorem gStr_two (x y : ByteArray) : ∀ u ∈ [Value.string x, Value.string y], u.oneCell' = true := by
  intro u hu
  simp at hu
  rcases hu with rfl | rfl <;> rfl
end Go.Proofs.YtpakkllcemcfdaaGreatDoor
