/-
  Texts put together: FsM, Draw.
-/
import Derived.Test.YtpakkllcemcfdaaGreatDoorZ22
import Derived.Test.YtpakkllcemcfdaaGreatDoorZ23
import Derived.Test.YtpakkllcemcfdaaGreatDoorZ1
import Derived.Test.YtpakkllcemcfdaaGreatDoorChecked
import Derived.WalkKit
import Derived.WalkLawsBesides
import Derived.Below
import Derived.OwnWalk
import Derived.Laws.OwnMore
import Derived.RegionTactic
import Derived.Deep.QuietTactic
import Derived.BigQuiet
import Derived.Deep.Draws
import Derived.KernelRfl
/-
  What a path selects, looked at from the law's side: below the element, by the path's last name. No step of the program in this text.
-/
namespace Go.Proofs.YtpakkllcemcfdaaGreatDoor
open Go.RowKit
set_option linter.unusedVariables false
set_option linter.unusedSimpArgs false
/-- From a place on upwards the element X is met. -/
inductive Rc (D : Dc) (X : Nat) : Int → Prop
  | here : Rc D X (X : Int)
  | up {j : Int} : (X : Int) < j → Rc D X (D.U j.toNat) → Rc D X j
theorem rc_ge {D : Dc} {X : Nat} {j : Int} (h : Rc D X j) : (X : Int) ≤ j := by
  cases h with
  | here => exact Int.le_refl _
  | up h1 _ => exact Int.le_of_lt h1
theorem rc_more {D : Dc} {X : Nat} {j : Int} (h : Rc D X j) (hj : (X : Int) < j) : Rc D X (D.U j.toNat) := by
  cases h with
  | here => exact absurd hj (Int.lt_irrefl _)
  | up _ h2 => exact h2
theorem rc_end {D : Dc} {X : Nat} {j : Int} (h : Rc D X j) (hj : ¬ (X : Int) < j) : j = X := by
  have := rc_ge h
  omega
theorem rcF_Rc {D : Dc} {X : Nat} (hd : ∀ j, j < D.n → -1 ≤ D.U j ∧ D.U j < j) : ∀ (f : Nat) (a : Int), a < D.n → rcF D.U X f a = true → Rc D X a
  | 0, a, ha, h => by cases h
  | f + 1, a, ha, h => by
    rw [rcF] at h
    split at h
    · cases h
    · split at h
      · rename_i h1 h2
        rw [h2]
        exact Rc.here
      · rename_i h1 h2
        have hx := hd a.toNat (by omega)
        have ih := rcF_Rc hd f (D.U a.toNat) (by omega) h
        have := rc_ge ih
        exact Rc.up (by omega) ih
theorem el_Rc {D : Dc} {X : Nat} (hd : ∀ j, j < D.n → -1 ≤ D.U j ∧ D.U j < j) : ∀ (m : Nat), m ≤ D.n → ∀ j ∈ el D X m, Rc D X j
  | 0, hm, j, h => by cases h
  | m + 1, hm, j, h => by
    rw [el] at h
    split at h
    · rename_i hc
      rcases List.mem_append.1 h with h | h
      · exact el_Rc hd m (by omega) j h
      · rw [List.mem_singleton] at h
        subst h
        exact rcF_Rc hd _ _ (by omega) hc.2.1
    · exact el_Rc hd m (by omega) j h
theorem st_Rc {D : Dc} {X : Nat} {dp : Bool} (hd : ∀ j, j < D.n → -1 ≤ D.U j ∧ D.U j < j) : ∀ j ∈ st D X D.n dp, Rc D X j := fun j hj => by
  unfold st at hj
  split at hj
  · rcases List.mem_cons.1 hj with rfl | h
    · exact Rc.here
    · exact el_Rc hd D.n (Nat.le_refl _) j h
  · rw [List.mem_singleton] at hj
    subst hj
    exact Rc.here
theorem step_of {D : Dc} {L : List Int} {nm : List UInt8} {j : Int} (h : j ∈ stepS D L nm) : ∃ y ∈ L, (0 ≤ j ∧ j < D.n) ∧ D.U j.toNat = y ∧ (D.NM j.toNat).data.toList = nm := by
  unfold stepS at h
  obtain ⟨y, hy, hj⟩ := List.mem_flatMap.1 h
  obtain ⟨h1, h2⟩ := kn_mem hj
  refine ⟨y, hy, h1, h2, ?_⟩
  unfold kn at hj
  have := (List.mem_filter.1 hj).2
  simpa using this
theorem sel_Rc {D : Dc} {X : Nat} (hd : ∀ j, j < D.n → -1 ≤ D.U j ∧ D.U j < j) : ∀ (ps : List (List UInt8)) (L : List Int), (∀ j ∈ L, Rc D X j) → ∀ j ∈ sel D L ps, Rc D X j
  | [], L, hL, j, h => hL j h
  | p :: ps, L, hL, j, h => by
    refine sel_Rc hd ps (stepS D L p) (fun k hk => ?_) j h
    obtain ⟨y, hy, hr, hu, -⟩ := step_of hk
    have h1 := hL y hy
    have h2 := rc_ge h1
    have h3 := hd k.toNat (by omega)
    rw [hu] at h3
    exact Rc.up (by omega) (by rw [hu]; exact h1)
theorem sel_last {D : Dc} {L : List Int} {ps : List (List UInt8)} {nm : List UInt8} : sel D L (ps ++ [nm]) = stepS D (sel D L ps) nm := by
  unfold sel
  rw [List.foldl_append]
  rfl
theorem sg_last : ∀ (t cur : List UInt8), ∃ ps nm pre, sg cur t = ps ++ [nm] ∧ cur ++ t = pre ++ nm
  | [], cur => ⟨[], cur, [], rfl, by simp⟩
  | c :: t, cur => by
    by_cases h : c = 47
    · subst h
      obtain ⟨ps, nm, pre, h1, h2⟩ := sg_last t []
      refine ⟨cur :: ps, nm, cur ++ 47 :: pre, by rw [sg_sign, h1]; rfl, ?_⟩
      rw [List.nil_append] at h2
      rw [h2]
      simp
    · obtain ⟨ps, nm, pre, h1, h2⟩ := sg_last t (cur ++ [c])
      exact ⟨ps, nm, pre, by rw [sg_more h, h1], by rw [← h2]; simp⟩
theorem sg_plain : ∀ (t cur : List UInt8), (∀ b ∈ t, b ≠ 47) → sg cur t = [cur ++ t]
  | [], cur, _ => by simp [sg]
  | c :: t, cur, h => by
    rw [sg_more (h c (List.mem_cons_self ..)), sg_plain t (cur ++ [c]) (fun b hb => h b (List.mem_cons_of_mem _ hb))]
    simp
theorem rest_suffix (l : List UInt8) : ∃ pre, l = pre ++ restL l := by
  unfold restL Lib.trimPrefix
  split
  · exact ⟨_, (List.take_append_drop _ l).symm⟩
  · exact ⟨[], rfl⟩
theorem name_no47 {l : List UInt8} (h : (47 : UInt8) ∈ l) : nameL l = false := by
  unfold nameL
  obtain ⟨k, hk, e⟩ := List.mem_iff_getElem.1 h
  have hs : k < (⟨l.toArray⟩ : ByteArray).size := by show k < l.toArray.size; simpa using hk
  have e2 : ((⟨l.toArray⟩ : ByteArray)[k]) = 47 := by
    show (l.toArray)[k]'(by simpa using hk) = 47
    simpa using e
  by_cases h0 : k = 0
  · subst h0
    exact nameB_first _ (by omega) (by rw [e2]; decide)
  · exact nameB_more _ k (by omega) hs (by rw [e2]; decide)
theorem name_plain {s : ByteArray} (h : nameB s = true) : deepL s.data.toList = false ∧ restL s.data.toList = s.data.toList ∧ sg [] s.data.toList = [s.data.toList] := by
  have hno : ∀ b ∈ s.data.toList, b ≠ 47 := fun b hb e => by
    subst e
    have h9 := name_no47 hb
    rw [nameL_data, h] at h9
    cases h9
  have hd : deepL s.data.toList = false := by
    cases hd : deepL s.data.toList
    · rfl
    · unfold deepL at hd
      have h1 := List.isPrefixOf_iff_prefix.1 hd
      obtain ⟨t, ht⟩ := h1
      exact absurd rfl (hno 47 (by rw [← ht]; simp))
  refine ⟨hd, ?_, by rw [sg_plain _ _ hno]; rfl⟩
  unfold restL Lib.trimPrefix
  have hd2 : Lib.hasPrefix s.data.toList [47, 47] = false := hd
  rw [hd2]
  rfl
/-- What is known of a place that a path selects. -/
theorem se_facts {D : Dc} {x j : Int} {s : ByteArray} (h : j ∈ selV D x s) : txOk D x = true ∧ routeB s = true ∧ (0 ≤ j ∧ j < D.n) ∧ Rc D x.toNat (D.U j.toNat) ∧ (D.NM j.toNat).toList.isEmpty = false ∧ (∃ pre, s.data.toList = pre ++ (D.NM j.toNat).data.toList) ∧ (nameB s = true → D.U j.toNat = x) := by
  cases hr : routeB s
  · rw [selV_no (.inl hr)] at h; cases h
  cases ht : txOk D x
  · rw [selV_no (.inr ht)] at h; cases h
  obtain ⟨hdk, hn, -, hx0, hx1⟩ := tx_facts ht
  have hd := docok_dec hdk
  rw [selV_yes hr ht, srt_mem] at h
  obtain ⟨ps, nm, pre, h1, h2⟩ := sg_last (restL s.data.toList) []
  rw [h1, sel_last] at h
  obtain ⟨y, hy, hj, hu, hnm⟩ := step_of h
  have hname : nameL nm = true := by
    unfold routeB allN at hr
    rw [h1] at hr
    simp at hr
    exact hr.2.2.2
  refine ⟨rfl, rfl, hj, ?_, ?_, ?_, fun hN => ?_⟩
  · rw [hu]
    exact sel_Rc hd ps _ (st_Rc hd) y hy
  · rw [ByteArray.toList_eq, hnm]
    cases nm with
    | nil => exact absurd hname (by decide)
    | cons => rfl
  · obtain ⟨p0, hp0⟩ := rest_suffix s.data.toList
    rw [List.nil_append] at h2
    rw [hnm]
    exact ⟨p0 ++ pre, by rw [List.append_assoc, ← h2]; exact hp0⟩
  · obtain ⟨q1, q2, q3⟩ := name_plain hN
    rw [q2, q3] at h1
    have hps : ps = [] := by
      cases ps with
      | nil => rfl
      | cons a b =>
        have h9 := congrArg List.length h1
        simp at h9
    rw [hps, q1] at hy
    have : y = ((x.toNat : Nat) : Int) := by simpa [sel, st] using hy
    rw [hu, this]
    omega
theorem se_sorted (D : Dc) (x : Int) (s : ByteArray) : (selV D x s).Pairwise (· < ·) := by
  unfold selV
  split
  · exact srt_sorted _
  · exact List.Pairwise.nil
theorem se_next {D : Dc} {x : Int} {s : ByteArray} {i : Nat} (h0 : 0 < i) (hi : i < (selV D x s).length) : (selV D x s)[i - 1]?.getD 0 < (selV D x s)[i]?.getD 0 := by
  have h := List.pairwise_iff_getElem.1 (se_sorted D x s) (i - 1) i (by omega) hi (by omega)
  rw [List.getElem?_eq_getElem (by omega), List.getElem?_eq_getElem hi]
  exact h
theorem ext_suffix {s nm : ByteArray} {pre : List UInt8} (h : s.data.toList = pre ++ nm.data.toList) : nm.size ≤ s.size ∧ s.extract (s.size - nm.size) s.size = nm := by
  have h1 : s.data.toList.length = s.size := Array.length_toList
  have h2 : nm.data.toList.length = nm.size := Array.length_toList
  rw [h, List.length_append] at h1
  refine ⟨by omega, ?_⟩
  apply Go.WideShapes.bytes_inj
  rw [ByteArray.data_extract, Array.toList_extract, h]
  show ((pre ++ nm.data.toList).drop (s.size - nm.size)).take (s.size - (s.size - nm.size)) = nm.data.toList
  rw [show s.size - nm.size = pre.length by omega, List.drop_left, List.take_of_length_le (by omega)]
end Go.Proofs.YtpakkllcemcfdaaGreatDoor

/-
  Contracts of the drawing reader: whatever the code is, each draw answers a number in its range and writes the reader's own place alone.
-/
namespace Go.Proofs.YtpakkllcemcfdaaGreatDoor
open Go.RowKit
set_option linter.unusedVariables false
set_option linter.unusedSimpArgs false

/-- A row's first cells hold 'zs', in a block below 'B'. -/
def SrcAt (w : World) (a : Option Addr) (zs : List Int) (B : Nat) : Prop :=
  zs ≠ [] → ∃ b off, a = some ⟨b, off, none⟩ ∧ b < B ∧ ∀ j, j < zs.length → w.cell? ⟨b, off + j, none⟩ = some (.int .u8 (zs[j]?.getD 0))
/-- The reader lies in block 'G', over the code 'zs', somewhere in it. -/
def RdAt (w : World) (G : Nat) (a : Option Addr) (n cap : Nat) (zs : List Int) : Prop :=
  (∃ p : Nat, p ≤ n ∧ w.heap[G]? = some (.cells #[.slice a n cap, .int .i64 p] 76 (0, 0))) ∧ SrcAt w a zs G ∧ zs.length = n ∧ (∀ x ∈ zs, 0 ≤ x ∧ x ≤ 255) ∧ n ≤ 1048576
theorem grown_trans {w w1 w2 : World} {row : Option Nat} (h1 : w.grownBy w1 row) (h2 : w1.grownBy w2 row) : w.grownBy w2 row :=
  ⟨h2.os.trans h1.os, h2.tape.trans h1.tape, h2.output.trans h1.output, Nat.le_trans h1.size h2.size, fun k hk hne => (h2.block k (Nat.lt_of_lt_of_le hk h1.size) hne).trans (h1.block k hk hne)⟩
theorem grown_refl (w : World) (row : Option Nat) : w.grownBy w row := ⟨rfl, rfl, rfl, Nat.le_refl _, fun _ _ _ => rfl⟩
theorem src_grown {w w' : World} {a : Option Addr} {zs : List Int} {B : Nat} {row : Option Nat} (h : SrcAt w a zs B) (hB : B ≤ w.heap.size) (hg : w.grownBy w' row) (hr : ∀ k, row = some k → B ≤ k) : SrcAt w' a zs B := by
  intro hne
  obtain ⟨b, off, rfl, hb, hc⟩ := h hne
  refine ⟨b, off, rfl, hb, fun j hj => ?_⟩
  exact (World.cell?_of_block (hg.block b (by omega) (fun e => by have := hr b e.symm; omega))).trans (hc j hj)
theorem rd_lt {w : World} {G : Nat} {a : Option Addr} {n cap : Nat} {zs : List Int} (h : RdAt w G a n cap zs) : G < w.heap.size := by
  obtain ⟨⟨p, _, hg⟩, _⟩ := h
  exact (Array.getElem?_eq_some_iff.1 hg).1
/-- What is written behind the reader leaves it as it was. -/
theorem rd_grown {w w' : World} {G : Nat} {a : Option Addr} {n cap : Nat} {zs : List Int} {row : Option Nat} (h : RdAt w G a n cap zs) (hg : w.grownBy w' row) (hr : ∀ k, row = some k → G < k) : RdAt w' G a n cap zs := by
  have hlt := rd_lt h
  obtain ⟨⟨p, hp, hG⟩, hs, hl, hz, hn⟩ := h
  refine ⟨⟨p, hp, ?_⟩, src_grown hs (by omega) hg (fun k hk => by have := hr k hk; omega), hl, hz, hn⟩
  rw [hg.block G hlt (fun e => by have := hr G e.symm; omega)]; exact hG
theorem rd_alloc {w : World} {G : Nat} {a : Option Addr} {n cap : Nat} {zs : List Int} (h : RdAt w G a n cap zs) (o : Obj) : RdAt (w.alloc o) G a n cap zs :=
  rd_grown h (World.grownBy_alloc w o none) (fun k hk => by cases hk)
theorem rd_drewN {w : World} {G : Nat} {a : Option Addr} {n cap : Nat} {zs : List Int} (h : RdAt w G a n cap zs) (q : Nat) : RdAt (w.drewN q) G a n cap zs := h
/-- What one draw leaves. -/
def Drew (G : Nat) (a : Option Addr) (n cap : Nat) (zs : List Int) (w w' : World) : Prop := RdAt w' G a n cap zs ∧ w.grownBy w' (some G)
theorem drew_trans {G : Nat} {a : Option Addr} {n cap : Nat} {zs : List Int} {w w1 w2 : World} (h1 : Drew G a n cap zs w w1) (h2 : Drew G a n cap zs w1 w2) : Drew G a n cap zs w w2 := ⟨h2.1, grown_trans h1.2 h2.2⟩

theorem drew_step {w : World} {G : Nat} {a : Option Addr} {n cap : Nat} {zs : List Int} (h : RdAt w G a n cap zs) {p : Nat} (hp : p < n) (hG : w.heap[G]? = some (.cells #[.slice a n cap, .int .i64 p] 76 (0, 0))) (q1 q2 : Nat) :
    Drew G a n cap zs w (((w.drewN q1).setCell ⟨G, 1, none⟩ (.int .i64 ((p : Int) + 1))).drewN q2) := by
  have hlt := rd_lt h
  have hset := heap_setCell_same (w.drewN q1) G 1 _ 76 (.int .i64 ((p : Int) + 1)) hG
  have hgr : w.grownBy (((w.drewN q1).setCell ⟨G, 1, none⟩ (.int .i64 ((p : Int) + 1))).drewN q2) (some G) := by
    refine ⟨rfl, rfl, rfl, ?_, fun k hk hne => ?_⟩
    · simp
    · exact Below.heap_setCell (w.drewN q1) ⟨G, 1, none⟩ _ k (fun e => hne (by rw [e]))
  obtain ⟨_, hs, hl, hz, hn⟩ := h
  refine ⟨⟨⟨p + 1, by omega, ?_⟩, src_grown hs (by omega) hgr (fun k hk => by cases hk; exact Nat.le_refl _), hl, hz, hn⟩, hgr⟩
  exact hset

set_option maxHeartbeats 1000000 in
theorem d_next (G : Nat) (a : Option Addr) (n cap : Nat) (zs : List Int) (w : World) (h : RdAt w G a n cap zs) :
    Calls Tryz.prog 81 #[.pointer (some ⟨G, 0, none⟩)] w fun e w' => ∃ x : Int, 0 ≤ x ∧ x ≤ 255 ∧ e = .returned (.int .i64 x) ∧ Drew G a n cap zs w w' := by
  have HH := hide h
  obtain ⟨⟨p, hp, hG⟩, hs, hl, hz, hn⟩ := h
  have c0 : w.cell? ⟨G, 0, none⟩ = some (.slice a n cap) := by rw [cell_of_row w G 0 _ 76 (0, 0) hG]; rfl
  have c1 : w.cell? ⟨G, 1, none⟩ = some (.int .i64 p) := by rw [cell_of_row w G 1 _ 76 (0, 0) hG]; rfl
  have hf : w.frozen? ⟨G, 1, none⟩ = false := frozen_of_row w G 1 _ 76 hG
  have HG := hide hG
  have HS := hide hs
  have HL := hide hl
  have HZ := hide hz
  clear hG hs hl hz
  by_cases hlt : p < n
  · have hlt' : ¬ (n : Int) ≤ (p : Int) := by omega
    obtain ⟨b, off, rfl, hbG, hc⟩ := HS.out (fun e => by have := HL.out; rw [e] at this; simp at this; omega)
    have hcb := hc p (by rw [HL.out]; exact hlt)
    have hmem : 0 ≤ zs[p]?.getD 0 ∧ zs[p]?.getD 0 ≤ 255 := by
      have hpl : p < zs.length := by rw [HL.out]; exact hlt
      rw [List.getElem?_eq_getElem hpl]
      exact HZ.out _ (List.getElem_mem hpl)
    obtain ⟨x, hx⟩ : ∃ x, zs[p]?.getD 0 = x := ⟨_, rfl⟩
    rw [hx] at hcb hmem
    obtain ⟨hx0, hx1⟩ := hmem
    have hset := heap_setCell_same w G 1 _ 76 (.int .i64 ((p : Int) + 1)) HG.out
    have s2 : ∀ q, ((w.drewN q).setCell ⟨G, 1, none⟩ (.int .i64 ((p : Int) + 1))).cell? ⟨b, off + p, none⟩ = some (.int .u8 x) := fun q =>
      (World.cell?_of_block (Below.heap_setCell w ⟨G, 1, none⟩ _ b (by show b ≠ G; omega))).trans hcb
    have hwr : IntKind.i64.wrap (p : Int) = (p : Int) := by rw [IntKind.wrap_i64]; omega
    have hi0 : (0 : Int) ≤ (p : Int) := by omega
    have hi1 : (p : Int) < (n : Int) := by omega
    have HSET := hide hset
    clear hset hx hc
    go_enter Tryz.func81, Tryz.ntmps81
    go_wp2
    go_quiet (fail)
    go_wp2
    go_quiet (fail)
    go_wp2
    go_ret
    exact ⟨x, hx0, hx1, rfl, drew_step HH.out hlt HG.out _ _⟩
  · have hlt' : (n : Int) ≤ (p : Int) := by omega
    go_enter Tryz.func81, Tryz.ntmps81
    go_wp2
    go_quiet (fail)
    go_wp2
    go_ret
    exact ⟨0, by omega, by omega, rfl, HH.out, ⟨rfl, rfl, rfl, Nat.le_refl _, fun _ _ _ => rfl⟩⟩

set_option maxHeartbeats 1000000 in
theorem d_below (G : Nat) (a : Option Addr) (n cap : Nat) (zs : List Int) (m : Int) (w : World) (hm : 2 ≤ m) (hm' : m ≤ 256) (h : RdAt w G a n cap zs) :
    Calls Tryz.prog 49 #[.pointer (some ⟨G, 0, none⟩), .int .i64 m] w fun e w' => ∃ x : Int, 0 ≤ x ∧ x < m ∧ e = .returned (.int .i64 x) ∧ Drew G a n cap zs w w' := by
  have HH := hide h
  clear h
  have hm1 : ¬ m ≤ 1 := by omega
  go_enter Tryz.func49, Tryz.ntmps49
  go_wp2_with fail
  refine (d_next G a n cap zs _ HH.out).mono ?_
  rintro e w1 ⟨x, hx0, hx1, rfl, hd⟩
  have HD := hide hd
  clear hd
  go_wp2
  go_ret
  exact ⟨x % m, Int.emod_nonneg _ (by omega), Int.emod_lt_of_pos _ (by omega), rfl, HD.out⟩

set_option maxHeartbeats 1000000 in
theorem d_once (G : Nat) (a : Option Addr) (n cap : Nat) (zs : List Int) (m : Int) (w : World) (hm : 2 ≤ m) (hm' : m ≤ 256) (h : RdAt w G a n cap zs) :
    Calls Tryz.prog 23 #[.pointer (some ⟨G, 0, none⟩), .int .i64 m] w fun e w' => ∃ x : Bool, e = .returned (.bool x) ∧ Drew G a n cap zs w w' := by
  have HH := hide h
  clear h
  go_enter Tryz.func23, Tryz.ntmps23
  go_wp2_with fail
  refine (d_below G a n cap zs m _ hm hm' HH.out).mono ?_
  rintro e w1 ⟨x, hx0, hx1, rfl, hd⟩
  have HD := hide hd
  clear hd
  go_wp2
  go_ret
  exact ⟨_, rfl, HD.out⟩

set_option maxHeartbeats 1000000 in
theorem d_open (a : Option Addr) (n cap : Nat) (zs : List Int) (w : World) (hl : zs.length = n) (hz : ∀ x ∈ zs, 0 ≤ x ∧ x ≤ 255) (hn : n ≤ 1048576) (hs : SrcAt w a zs w.heap.size) :
    Calls Tryz.prog 21 #[.slice a n cap] w fun e w' => e = .returned (.pointer (some ⟨w.heap.size, 0, none⟩)) ∧ RdAt w' w.heap.size a n cap zs ∧ Below w.heap.size w w' := by
  have HS := hide hs
  have HL := hide hl
  have HZ := hide hz
  clear hs hl hz
  go_enter Tryz.func21, Tryz.ntmps21
  go_wp2
  go_ret
  exact ⟨rfl, ⟨⟨0, Nat.zero_le _, heap_alloc_new w _⟩, src_grown HS.out (Nat.le_refl _) (World.grownBy_alloc w _ none) (fun k hk => by cases hk), HL.out, HZ.out, hn⟩, (Below.refl _ _).alloc (Nat.le_refl _) _⟩

/-- What a draw leaves that also laid new blocks. -/
def Drawn (G : Nat) (a : Option Addr) (n cap : Nat) (zs : List Int) (w w' : World) : Prop := Drew G a n cap zs w w'
theorem drew_alloc {G : Nat} {a : Option Addr} {n cap : Nat} {zs : List Int} {w w1 : World} (o : Obj) (h : Drew G a n cap zs (w.alloc o) w1) : Drew G a n cap zs w w1 :=
  ⟨h.1, grown_trans (World.grownBy_alloc w o (some G)) h.2⟩
theorem name_cell (w w1 : World) (G : Nat) (x : Int) (h0 : 0 ≤ x) (h7 : x < 7) (hG : G < w.heap.size)
    (hg : (w.alloc (.cells #[.string ⟨#[97]⟩, .string ⟨#[98]⟩, .string ⟨#[99]⟩, .string ⟨#[100]⟩, .string ⟨#[120, 49]⟩, .string ⟨#[95, 121]⟩, .string ⟨#[97, 46, 98, 45, 99]⟩] 9)).grownBy w1 (some G)) :
    ∃ s : ByteArray, w1.cell? ⟨w.heap.size, x.toNat, none⟩ = some (.string s) ∧ 1 ≤ s.size ∧ s.size ≤ 5 := by
  have hb := hg.block w.heap.size (by simp) (fun e => by cases e; omega)
  rw [World.cell?_of_block (a := ⟨w.heap.size, x.toNat, none⟩) hb, cell_of_row _ w.heap.size x.toNat _ 9 (0, 0) (heap_alloc_new w _)]
  have hx : x.toNat = 0 ∨ x.toNat = 1 ∨ x.toNat = 2 ∨ x.toNat = 3 ∨ x.toNat = 4 ∨ x.toNat = 5 ∨ x.toNat = 6 := by omega
  rcases hx with e | e | e | e | e | e | e <;> rw [e] <;> exact ⟨_, rfl, by decide, by decide⟩

set_option maxHeartbeats 1000000 in
theorem d_name (G : Nat) (a : Option Addr) (n cap : Nat) (zs : List Int) (w : World) (h : RdAt w G a n cap zs) :
    Calls Tryz.prog 51 #[.pointer (some ⟨G, 0, none⟩)] w fun e w' => ∃ s : ByteArray, 1 ≤ s.size ∧ s.size ≤ 5 ∧ e = .returned (.string s) ∧ Drew G a n cap zs w w' := by
  have HH := hide h
  have hG := rd_lt h
  clear h
  go_enter Tryz.func51, Tryz.ntmps51
  go_wp2_with fail
  refine (d_below G a n cap zs 7 _ (by omega) (by omega) (rd_alloc HH.out _)).mono ?_
  rintro e w1 ⟨x, hx0, hx1, rfl, hd⟩
  obtain ⟨s, hs, hs1, hs2⟩ := name_cell w w1 G x hx0 hx1 hG hd.2
  have HD := hide (drew_alloc _ hd)
  clear hd
  go_wp2
  go_ret
  exact ⟨s, hs1, hs2, rfl, HD.out⟩
end Go.Proofs.YtpakkllcemcfdaaGreatDoor
