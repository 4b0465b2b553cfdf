/-
  Texts put together: RiB, RiC, RjF.
-/
import Derived.Test.YtfohfljdgmlibaaW37
import Derived.Deep.RegionLaw
import Derived.Deep.DeepCutAuto
import Derived.Test.YtfohfljdgmlibaaW7
import Derived.Test.YtfohfljdgmlibaaW38
import Derived.Test.YtfohfljdgmlibaaW33
import Derived.Test.YtfohfljdgmlibaaW10
/-
  Contracts of the program's reader of models: a sign that must stand there, the sign behind a node.
-/
namespace Go.Proofs.Ytfohfljdgmlibaa
open Go.RowKit Go.Joins
set_option linter.unusedVariables false
set_option linter.unusedSimpArgs false
set_option maxHeartbeats 2000000 in
theorem i_must (R : Nat) (u : ByteArray) (ad : Option Addr) (m c : Nat) (ch : UInt8) (w : World) (h : MR w R u ad m c) :
    Calls Try.prog 84 #[.pointer (some ⟨R, 0, none⟩), .string ⟨#[ch]⟩] w fun e w' =>
      (∃ u', e = .returned (.tuple #[]) ∧ MR w' R u' ad m c ∧ Kp (fun k => k = R) w w' ∧ u.data.toList = ch :: u'.data.toList) ∨ (GivU w e w' (fun k => k = R) ∧ u.data.toList.head? ≠ some ch) := by
  have HH := hide h
  clear h
  go_enter Try.func84, Try.ntmps84
  go_wp2_with fail
  refine (i_takes R u ad m c ch _ HH.out).mono ?_
  rintro e w1 ⟨b, u', rfl, h1, k1, o1⟩
  have H1 := hide h1
  have K1 := hide k1
  clear h1 k1
  cases b
  · have O1 : Hid (u.data.toList.head? ≠ some ch) := hide (by rcases o1 with ⟨h, -⟩ | ⟨-, -, h⟩; cases h; exact h)
    clear o1
    go_wp2_with fail
    refine (i_want_no _ (fun k => k = R) _).mono ?_
    rintro e w2 ⟨⟨tv, v, rfl⟩, k2⟩
    have K2 := hide k2
    clear k2
    go_wp2
    exact ⟨rfl, .inr ⟨⟨⟨tv, v, rfl⟩, K1.out.trans K2.out (fun j _ hj => hj)⟩, O1.out⟩⟩
  · have O1 : Hid (u.data.toList = ch :: u'.data.toList) := hide (by rcases o1 with ⟨-, h⟩ | ⟨h, -⟩; exact h; cases h)
    clear o1
    go_wp2_with fail
    refine (i_want_yes _ _).mono ?_
    rintro e w2 ⟨rfl, hw2⟩
    rw [hw2]
    clear hw2
    go_wp2
    go_end0
    exact .inl ⟨u', rfl, H1.out, K1.out, O1.out⟩
def sgN (k : Nat) : UInt8 := if k = 0 then 63 else if k = 1 then 42 else 43
set_option maxRecDepth 100000 in
set_option maxHeartbeats 4000000 in
theorem i_occur (R : Nat) (u : ByteArray) (ad : Option Addr) (m c : Nat) (w : World) (h : MR w R u ad m c) :
    Calls Try.prog 73 #[.pointer (some ⟨R, 0, none⟩)] w fun e w' =>
      ∃ (oc : Int) (u' : ByteArray), e = .returned (.int .i64 oc) ∧ MR w' R u' ad m c ∧ Kp (fun k => k = R) w w' ∧ ocP oc u.data.toList u'.data.toList := by
  have H0 : Hid (MR w R u ad m c ∧ Kp (fun k => k = R) w w) := hide ⟨h, Kp.refl _ _⟩
  clear h
  go_enter Try.func73, Try.ntmps73
  go_wp2_with fail
  go_loopw [4] (fun v4 wr => ∃ k : Nat, k ≤ 3 ∧ v4 = .int .i64 k ∧ Hid (MR wr R u ad m c ∧ Kp (fun k => k = R) w wr) ∧ Hid (∀ j, j < k → u.data.toList.head? ≠ some (sgN j))) (fun v4 _ => 3 - (intOf v4).toNat)
  case atStart => exact ⟨0, by omega, rfl, H0, hide (fun j hj => absurd hj (Nat.not_lt_zero _))⟩
  case round =>
    clear H0
    obtain ⟨k, hk, rfl, H, HJ⟩ := hrel
    by_cases hlt : k < 3
    · have hki : (k : Int) < 3 := by omega
      have hw1 : IntKind.i64.wrap 1 = 1 := by decide
      have hw2 : IntKind.i64.wrap 2 = 2 := by decide
      have hw3 : IntKind.i64.wrap 3 = 3 := by decide
      have hs1 : ∀ W : World, (Instr.slice 9 (.string ⟨#[63, 42, 43]⟩) (some (.int .i64 0)) (some (.int .i64 1)) none).run Try.prog W = .ok (.string ⟨#[63]⟩) W := fun W => by rfl
      have hs2 : ∀ W : World, (Instr.slice 9 (.string ⟨#[63, 42, 43]⟩) (some (.int .i64 1)) (some (.int .i64 2)) none).run Try.prog W = .ok (.string ⟨#[42]⟩) W := fun W => by rfl
      have hs3 : ∀ W : World, (Instr.slice 9 (.string ⟨#[63, 42, 43]⟩) (some (.int .i64 2)) (some (.int .i64 3)) none).run Try.prog W = .ok (.string ⟨#[43]⟩) W := fun W => by rfl
      have HM := hide H.out.1
      have HK := hide H.out.2
      have : k = 0 ∨ k = 1 ∨ k = 2 := by omega
      rcases this with rfl | rfl | rfl
      · go_wp2_with fail
        go_region_with (first | (go_at_call 69; refine (i_takes R u ad m c 63 _ (mr_kp HM.out (kp_drew (S := fun _ => False) _) (fun h => h))).mono ?_; rintro e w1 ⟨b, u', rfl, h1, k1, o1⟩; have H1 := hide h1; have K1 := hide (HK.out.trans ((kp_drew (S := fun k => k = R) _).trans k1 (fun j _ hj => hj)) (fun j _ hj => hj)); have O1 := hide o1; clear h1 k1 o1))
        all_goals
          cases b
          · go_wp2
            go_roundw
            case rel =>
              refine ⟨1, by omega, by go_num, hide ?_, hide (fun j hj => ?_)⟩
              · rcases O1.out with ⟨h, -⟩ | ⟨-, h, -⟩
                · cases h
                · rw [← h]; exact ⟨H1.out, K1.out⟩
              · by_cases e : j = 0
                · subst e
                  rcases O1.out with ⟨h, -⟩ | ⟨-, -, h⟩
                  · cases h
                  · exact h
                · exact HJ.out j (by omega)
            case measure => simp [intOf]
          · go_wp2
            go_ret
            first | refine ⟨1, u', rfl, H1.out, K1.out, ?_⟩ | refine ⟨1, rfl, u', H1.out, K1.out, ?_⟩
            rcases O1.out with ⟨-, h⟩ | ⟨h, -⟩
            · exact .inl ⟨rfl, h⟩
            · cases h
      · go_wp2_with fail
        go_region_with (first | (go_at_call 69; refine (i_takes R u ad m c 42 _ (mr_kp HM.out (kp_drew (S := fun _ => False) _) (fun h => h))).mono ?_; rintro e w1 ⟨b, u', rfl, h1, k1, o1⟩; have H1 := hide h1; have K1 := hide (HK.out.trans ((kp_drew (S := fun k => k = R) _).trans k1 (fun j _ hj => hj)) (fun j _ hj => hj)); have O1 := hide o1; clear h1 k1 o1))
        all_goals
          cases b
          · go_wp2
            go_roundw
            case rel =>
              refine ⟨2, by omega, by go_num, hide ?_, hide (fun j hj => ?_)⟩
              · rcases O1.out with ⟨h, -⟩ | ⟨-, h, -⟩
                · cases h
                · rw [← h]; exact ⟨H1.out, K1.out⟩
              · by_cases e : j = 1
                · subst e
                  rcases O1.out with ⟨h, -⟩ | ⟨-, -, h⟩
                  · cases h
                  · exact h
                · exact HJ.out j (by omega)
            case measure => simp [intOf]
          · go_wp2
            go_ret
            first | refine ⟨2, u', rfl, H1.out, K1.out, ?_⟩ | refine ⟨2, rfl, u', H1.out, K1.out, ?_⟩
            rcases O1.out with ⟨-, h⟩ | ⟨h, -⟩
            · exact .inr (.inl ⟨rfl, h⟩)
            · cases h
      · go_wp2_with fail
        go_region_with (first | (go_at_call 69; refine (i_takes R u ad m c 43 _ (mr_kp HM.out (kp_drew (S := fun _ => False) _) (fun h => h))).mono ?_; rintro e w1 ⟨b, u', rfl, h1, k1, o1⟩; have H1 := hide h1; have K1 := hide (HK.out.trans ((kp_drew (S := fun k => k = R) _).trans k1 (fun j _ hj => hj)) (fun j _ hj => hj)); have O1 := hide o1; clear h1 k1 o1))
        all_goals
          cases b
          · go_wp2
            go_roundw
            case rel =>
              refine ⟨3, by omega, by go_num, hide ?_, hide (fun j hj => ?_)⟩
              · rcases O1.out with ⟨h, -⟩ | ⟨-, h, -⟩
                · cases h
                · rw [← h]; exact ⟨H1.out, K1.out⟩
              · by_cases e : j = 2
                · subst e
                  rcases O1.out with ⟨h, -⟩ | ⟨-, -, h⟩
                  · cases h
                  · exact h
                · exact HJ.out j (by omega)
            case measure => simp [intOf]
          · go_wp2
            go_ret
            first | refine ⟨3, u', rfl, H1.out, K1.out, ?_⟩ | refine ⟨3, rfl, u', H1.out, K1.out, ?_⟩
            rcases O1.out with ⟨-, h⟩ | ⟨h, -⟩
            · exact .inr (.inr (.inl ⟨rfl, h⟩))
            · cases h
    · have hk3 : k = 3 := by omega
      subst hk3
      go_wp2
      go_ret
      exact ⟨0, u, rfl, H.out.1, H.out.2, .inr (.inr (.inr ⟨rfl, rfl, HJ.out 0 (by omega), HJ.out 1 (by omega), HJ.out 2 (by omega)⟩))⟩
end Go.Proofs.Ytfohfljdgmlibaa

/-
  Contract of the program's reader of models: a run of a name's bytes.
-/
namespace Go.Proofs.Ytfohfljdgmlibaa
open Go.RowKit Go.Joins
set_option linter.unusedVariables false
set_option linter.unusedSimpArgs false
theorem run_tw {l : List UInt8} {k : Nat} (hk : k ≤ l.length) (h : ∀ j, j < k → ∀ c, l[j]? = some c → nmC c = true) (he : ∀ c, l[k]? = some c → nmC c = false) : l.takeWhile nmC = l.take k ∧ l.dropWhile nmC = l.drop k := by
  induction l generalizing k with
  | nil => simp
  | cons d l ih =>
    cases k with
    | zero =>
      have := he d rfl
      simp [List.takeWhile_cons, List.dropWhile_cons, this]
    | succ k =>
      have h0 := h 0 (by omega) d rfl
      obtain ⟨h1, h2⟩ := ih (k := k) (by simpa using hk) (fun j hj c hc => h (j + 1) (by omega) c (by simpa using hc)) (fun c hc => he c (by simpa using hc))
      simp [List.takeWhile_cons, List.dropWhile_cons, h0, h1, h2]
theorem at_ba (u : ByteArray) (k : Nat) (h : k < u.size) : u.data.toList[k]? = some u[k] := by
  rw [List.getElem?_eq_getElem (by simpa using h)]
  rfl
theorem ri_exl (s : ByteArray) (a b : Nat) : (s.extract a b).data.toList = (s.data.toList.take b).drop a := by
  rw [ByteArray.data_extract, Array.toList_extract]
  simp [List.extract_eq_take_drop, List.drop_take]
set_option maxRecDepth 100000 in
set_option maxHeartbeats 4000000 in
theorem i_runOf (R : Nat) (u : ByteArray) (ad : Option Addr) (m c : Nat) (w : World) (h : MR w R u ad m c) (hu : u.size ≤ 1048576) :
    Calls Try.prog 71 #[.pointer (some ⟨R, 0, none⟩), .func (.func 72) #[] #[]] w fun e w' =>
      ∃ (nm u' : ByteArray), e = .returned (.string nm) ∧ MR w' R u' ad m c ∧ Kp (fun k => k = R) w w' ∧ nm.data.toList = u.data.toList.takeWhile nmC ∧ u'.data.toList = u.data.toList.dropWhile nmC := by
  have HH := hide h
  obtain ⟨c0, c1⟩ := mr_cells h
  have f0 := mr_frozen h 0
  clear h
  go_enter Try.func71, Try.ntmps71
  go_wp2_with fail
  go_loopw [5] (fun v5 wr => ∃ k : Nat, k ≤ u.size ∧ v5 = .int .i64 k ∧ wr = w ∧ Hid (∀ j, j < k → ∀ c, u.data.toList[j]? = some c → nmC c = true)) (fun v5 _ => u.size - (intOf v5).toNat)
  case atStart => exact ⟨0, Nat.zero_le _, rfl, rfl, hide (fun j hj => absurd hj (Nat.not_lt_zero _))⟩
  case round =>
    obtain ⟨k, hk, rfl, rfl, HJ⟩ := hrel
    by_cases hlt : k < u.size
    · have hki : (k : Int) < (u.size : Int) := by omega
      have hk0 : (0 : Int) ≤ (k : Int) := by omega
      have HAT := hide (at_ba u k hlt)
      go_wp2_with fail
      refine (i_more _ _).mono ?_
      rintro e w1 ⟨rfl, hw1⟩
      rw [hw1]
      clear hw1
      cases hm : moreB (u[k].toNat : Int)
      · have HE : Hid (u.data.toList.takeWhile nmC = u.data.toList.take k ∧ u.data.toList.dropWhile nmC = u.data.toList.drop k) := hide (run_tw (by simpa using hk) HJ.out (fun c hc => by rw [HAT.out] at hc; rw [← Option.some.inj hc]; exact hm))
        clear hm
        go_wp2
        go_ret
        first
          | exact ⟨u.extract 0 k, u.extract k u.size, rfl, mr_u HH.out _, kp_set (S := fun k => k = R) _ _ _ rfl, by rw [ri_exl, HE.out.1, List.drop_zero], by rw [ri_exl, HE.out.2, List.take_of_length_le (by simp)]⟩
          | exact ⟨u.extract 0 k, rfl, u.extract k u.size, mr_u HH.out _, kp_set (S := fun k => k = R) _ _ _ rfl, by rw [ri_exl, HE.out.1, List.drop_zero], by rw [ri_exl, HE.out.2, List.take_of_length_le (by simp)]⟩
      · have HM := hide hm
        clear hm
        go_wp2
        go_roundw
        case rel =>
          refine ⟨k + 1, by omega, by go_num, trivial, hide (fun j hj c hc => ?_)⟩
          by_cases e : j = k
          · subst e
            rw [HAT.out] at hc
            rw [← Option.some.inj hc]
            exact HM.out
          · exact HJ.out j (by omega) c hc
        case measure => simp [intOf]; omega
    · have hkn : k = u.size := by omega
      have HE : Hid (u.data.toList.takeWhile nmC = u.data.toList.take k ∧ u.data.toList.dropWhile nmC = u.data.toList.drop k) := hide (run_tw (by simpa using hk) HJ.out (fun c hc => by rw [List.getElem?_eq_none (by simp; omega)] at hc; cases hc))
      have hkn2 : ¬ (k : Int) < (u.size : Int) := by omega
      clear hkn
      go_wp2
      go_ret
      first
        | exact ⟨u.extract 0 k, u.extract k u.size, rfl, mr_u HH.out _, kp_set (S := fun k => k = R) _ _ _ rfl, by rw [ri_exl, HE.out.1, List.drop_zero], by rw [ri_exl, HE.out.2, List.take_of_length_le (by simp)]⟩
        | exact ⟨u.extract 0 k, rfl, u.extract k u.size, mr_u HH.out _, kp_set (S := fun k => k = R) _ _ _ rfl, by rw [ri_exl, HE.out.1, List.drop_zero], by rw [ri_exl, HE.out.2, List.take_of_length_le (by simp)]⟩
end Go.Proofs.Ytfohfljdgmlibaa

/-
  Plain facts on the program's reader of models: what a node and a row of kids leave.
-/
namespace Go.Proofs.Ytfohfljdgmlibaa
open Go.RowKit Go.Joins
set_option linter.unusedVariables false
set_option linter.unusedSimpArgs false
/-- What one node leaves: a tree that stands there, or the reader gives up and none does. -/
def RpAns (R B : Nat) (u : ByteArray) (v : Value) (S : Nat → Prop) (D : Pn) (dd : Nat) (w : World) (e : Ending) (w' : World) : Prop :=
  (∃ (t : Tr) (u' : ByteArray) (ad : Option Addr) (m c : Nat), e = .returned (.int .i64 ((m : Int) - 1)) ∧ MR w' R u' ad m c ∧ rdP t u.data.toList u'.data.toList ∧ u'.size ≤ u.size ∧ (m = (fl t D).n ∧ m + dd ≤ 49) ∧
    POZ 1048576 B (fun j => S j ∨ w.heap.size ≤ j) w' ad m c (fl t D) ∧ Kp (fun j => j = R ∨ v.ownBlock = some j) w w' ∧ (∀ j, (Value.slice ad m c).ownBlock = some j → v.ownBlock = some j ∨ w.heap.size ≤ j)) ∨
  (GivU w e w' (fun j => j = R ∨ v.ownBlock = some j) ∧ NoT u.data.toList D dd)
/-- What a row of kids leaves. -/
def RkAns (R B : Nat) (u : ByteArray) (v : Value) (S : Nat → Prop) (D : Pn) (dd : Nat) (w : World) (e : Ending) (w' : World) : Prop :=
  (∃ (ks : List Tr) (k : Int) (u' : ByteArray) (ad : Option Addr) (m c : Nat) (kad : Option Addr) (L : List Int) (kc : Nat), e = .returned (.agg #[.int .i64 k, .string ⟨#[]⟩, .slice kad L.length kc, .int .i64 0]) ∧ MR w' R u' ad m c ∧ KdP k ks u.data.toList (41 :: u'.data.toList) ∧ L = (flF ks D []).2 ∧ u'.size ≤ u.size ∧ (m = (flF ks D []).1.n ∧ m + dd ≤ 48) ∧
    POZ 1048576 B (fun j => (S j ∨ w.heap.size ≤ j) ∧ (Value.slice kad L.length kc).ownBlock ≠ some j) w' ad m c (flF ks D []).1 ∧ w'.ownsRow 0 2 1 (.slice kad L.length kc) L.length (L.map (Value.int .i64)) ∧ (∀ j, (Value.slice kad L.length kc).ownBlock = some j → w.heap.size ≤ j) ∧
    Kp (fun j => j = R ∨ v.ownBlock = some j) w w' ∧ (∀ j, (Value.slice ad m c).ownBlock = some j → v.ownBlock = some j ∨ w.heap.size ≤ j)) ∨
  (GivU w e w' (fun j => j = R ∨ v.ownBlock = some j) ∧ NoT (40 :: u.data.toList) D dd)
theorem rd_len {t : Tr} {u v : List UInt8} (h : rdP t u v) : v.length ≤ u.length := by
  rw [tx_rd t u v h, List.length_append]; omega
theorem ba_len (u : ByteArray) : u.data.toList.length = u.size := by simp
theorem flF_cnt : ∀ (ts : List Tr) (O : Pn) (L : List Int), ts.length + O.n ≤ (flF ts O L).1.n
  | [], O, L => by rw [flF]; simp
  | t :: ts, O, L => by
    rw [flF]
    have h1 := flF_cnt ts (fl t O) (L ++ [((fl t O).n : Int) - 1])
    have h2 := (ext_fl t O).2
    simp
    omega
theorem flF_lenP : ∀ (ts : List Tr) (O : Pn) (L : List Int), (flF ts O L).2.length = L.length + ts.length
  | [], O, L => by rw [flF]; simp
  | t :: ts, O, L => by rw [flF, flF_lenP ts]; simp; omega
theorem tw_len (l : List UInt8) : (l.takeWhile nmC).length ≤ l.length := (List.takeWhile_sublist _).length_le
theorem dw_len (l : List UInt8) : (l.dropWhile nmC).length ≤ l.length := (List.dropWhile_sublist _).length_le
theorem oc_len {oc : Int} {x v : List UInt8} (h : ocP oc x v) : v.length ≤ x.length := by
  rcases h with ⟨-, rfl⟩ | ⟨-, rfl⟩ | ⟨-, rfl⟩ | ⟨-, rfl, -⟩ <;> simp
/-- What is known of the node when its body is read. -/
def RpB (u : ByteArray) (D D1 : Pn) (k : Int) (nm : ByteArray) (L : List Int) (u1 : ByteArray) : Prop := ∃ ks, D1 = (flF ks D []).1 ∧ L = (flF ks D []).2 ∧ ∀ oc v, ocP oc u1.data.toList v → rdP (.nd k nm oc ks) u.data.toList v
theorem rpb_any {u u1 : ByteArray} {D : Pn} (h : u.data.toList = 35 :: u1.data.toList) : RpB u D D 4 ⟨#[]⟩ [] u1 := by
  refine ⟨[], by rw [flF], by rw [flF], fun oc v ho => ?_⟩
  rw [h, rdP]
  exact ⟨_, ho, .inr (.inr (.inl ⟨rfl, rfl, rfl, rfl⟩))⟩
theorem rpb_name {u u1 nm : ByteArray} {D : Pn} (h1 : u.data.toList.head? ≠ some 40) (h2 : u.data.toList.head? ≠ some 35) (h3 : nm.data.toList = u.data.toList.takeWhile nmC) (h4 : u1.data.toList = u.data.toList.dropWhile nmC) : RpB u D D 1 nm [] u1 := by
  refine ⟨[], by rw [flF], by rw [flF], fun oc v ho => ?_⟩
  rw [rdP]
  exact ⟨_, ho, .inr (.inr (.inr ⟨rfl, rfl, h1, h2, h3, h4⟩))⟩
theorem rpb_kids {u y u1 : ByteArray} {D : Pn} {k : Int} {ks : List Tr} {L : List Int} (h : u.data.toList = 40 :: y.data.toList) (hk : KdP k ks y.data.toList (41 :: u1.data.toList)) (hL : L = (flF ks D []).2) : RpB u D (flF ks D []).1 k ⟨#[]⟩ L u1 := by
  refine ⟨ks, rfl, hL, fun oc v ho => ?_⟩
  rw [h]
  exact kd_done hk ho
theorem rpb_done {u u1 u2 nm : ByteArray} {D D1 : Pn} {k oc : Int} {L : List Int} (h : RpB u D D1 k nm L u1) (ho : ocP oc u1.data.toList u2.data.toList) : ∃ t, rdP t u.data.toList u2.data.toList ∧ pushN D1 k nm L oc = fl t D := by
  obtain ⟨ks, h1, h2, h3⟩ := h
  exact ⟨.nd k nm oc ks, h3 _ _ ho, by rw [fl, ← h1, ← h2]⟩
end Go.Proofs.Ytfohfljdgmlibaa
