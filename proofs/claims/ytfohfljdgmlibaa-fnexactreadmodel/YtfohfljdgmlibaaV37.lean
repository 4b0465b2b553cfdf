/-
  Texts put together: RjF, RjP.
-/
import Derived.Test.YtfohfljdgmlibaaV35
import Derived.Test.YtfohfljdgmlibaaV36
import Derived.Test.YtfohfljdgmlibaaV30
import Derived.Test.YtfohfljdgmlibaaV12
import Derived.Deep.CutBlock
import Derived.Deep.DeepCutAuto
import Derived.Deep.RegionLaw
import Derived.Deep.RegionWith
/-
  Plain facts on the program's reader of models: what a node and a row of kids leave.
-/
namespace Go.Proofs.Ytfohfljdgmlibaa
open Go.RowKit Go.Joins
set_option linter.unusedVariables false
set_option linter.unusedSimpArgs false
/-- What one node leaves: a tree that stands there, or the reader gives up and none does. -/
def RpAns (R B : Nat) (u : ByteArray) (v : Value) (S : Nat → Prop) (D : Pn) (dd : Nat) (w : World) (e : Ending) (w' : World) : Prop :=
  (∃ (t : Tr) (u' : ByteArray) (ad : Option Addr) (m c : Nat), e = .returned (.int .i64 ((m : Int) - 1)) ∧ MR w' R u' ad m c ∧ rdP t u.data.toList u'.data.toList ∧ u'.size ≤ u.size ∧ (m = (fl t D).n ∧ m + dd ≤ 49) ∧
    POZ 1048576 B (fun j => S j ∨ w.heap.size ≤ j) w' ad m c (fl t D) ∧ Kp (fun j => j = R ∨ v.ownBlock = some j) w w' ∧ (∀ j, (Value.slice ad m c).ownBlock = some j → v.ownBlock = some j ∨ w.heap.size ≤ j)) ∨
  (GivU w e w' (fun j => j = R ∨ v.ownBlock = some j) ∧ NoT u.data.toList D dd)
/-- What a row of kids leaves. -/
def RkAns (R B : Nat) (u : ByteArray) (v : Value) (S : Nat → Prop) (D : Pn) (dd : Nat) (w : World) (e : Ending) (w' : World) : Prop :=
  (∃ (ks : List Tr) (k : Int) (u' : ByteArray) (ad : Option Addr) (m c : Nat) (kad : Option Addr) (L : List Int) (kc : Nat), e = .returned (.agg #[.int .i64 k, .string ⟨#[]⟩, .slice kad L.length kc, .int .i64 0]) ∧ MR w' R u' ad m c ∧ KdP k ks u.data.toList (41 :: u'.data.toList) ∧ L = (flF ks D []).2 ∧ u'.size ≤ u.size ∧ (m = (flF ks D []).1.n ∧ m + dd ≤ 48) ∧
    POZ 1048576 B (fun j => (S j ∨ w.heap.size ≤ j) ∧ (Value.slice kad L.length kc).ownBlock ≠ some j) w' ad m c (flF ks D []).1 ∧ w'.ownsRow 0 2 1 (.slice kad L.length kc) L.length (L.map (Value.int .i64)) ∧ (∀ j, (Value.slice kad L.length kc).ownBlock = some j → w.heap.size ≤ j) ∧
    Kp (fun j => j = R ∨ v.ownBlock = some j) w w' ∧ (∀ j, (Value.slice ad m c).ownBlock = some j → v.ownBlock = some j ∨ w.heap.size ≤ j)) ∨
  (GivU w e w' (fun j => j = R ∨ v.ownBlock = some j) ∧ NoT (40 :: u.data.toList) D dd)
theorem rd_len {t : Tr} {u v : List UInt8} (h : rdP t u v) : v.length ≤ u.length := by
  rw [tx_rd t u v h, List.length_append]; omega
theorem ba_len (u : ByteArray) : u.data.toList.length = u.size := by simp
theorem flF_cnt : ∀ (ts : List Tr) (O : Pn) (L : List Int), ts.length + O.n ≤ (flF ts O L).1.n
  | [], O, L => by rw [flF]; simp
  | t :: ts, O, L => by
    rw [flF]
    have h1 := flF_cnt ts (fl t O) (L ++ [((fl t O).n : Int) - 1])
    have h2 := (ext_fl t O).2
    simp
    omega
theorem flF_lenP : ∀ (ts : List Tr) (O : Pn) (L : List Int), (flF ts O L).2.length = L.length + ts.length
  | [], O, L => by rw [flF]; simp
  | t :: ts, O, L => by rw [flF, flF_lenP ts]; simp; omega
theorem tw_len (l : List UInt8) : (l.takeWhile nmC).length ≤ l.length := (List.takeWhile_sublist _).length_le
theorem dw_len (l : List UInt8) : (l.dropWhile nmC).length ≤ l.length := (List.dropWhile_sublist _).length_le
theorem oc_len {oc : Int} {x v : List UInt8} (h : ocP oc x v) : v.length ≤ x.length := by
  rcases h with ⟨-, rfl⟩ | ⟨-, rfl⟩ | ⟨-, rfl⟩ | ⟨-, rfl, -⟩ <;> simp
/-- What is known of the node when its body is read. -/
def RpB (u : ByteArray) (D D1 : Pn) (k : Int) (nm : ByteArray) (L : List Int) (u1 : ByteArray) : Prop := ∃ ks, D1 = (flF ks D []).1 ∧ L = (flF ks D []).2 ∧ ∀ oc v, ocP oc u1.data.toList v → rdP (.nd k nm oc ks) u.data.toList v
theorem rpb_any {u u1 : ByteArray} {D : Pn} (h : u.data.toList = 35 :: u1.data.toList) : RpB u D D 4 ⟨#[]⟩ [] u1 := by
  refine ⟨[], by rw [flF], by rw [flF], fun oc v ho => ?_⟩
  rw [h, rdP]
  exact ⟨_, ho, .inr (.inr (.inl ⟨rfl, rfl, rfl, rfl⟩))⟩
theorem rpb_name {u u1 nm : ByteArray} {D : Pn} (h1 : u.data.toList.head? ≠ some 40) (h2 : u.data.toList.head? ≠ some 35) (h3 : nm.data.toList = u.data.toList.takeWhile nmC) (h4 : u1.data.toList = u.data.toList.dropWhile nmC) : RpB u D D 1 nm [] u1 := by
  refine ⟨[], by rw [flF], by rw [flF], fun oc v ho => ?_⟩
  rw [rdP]
  exact ⟨_, ho, .inr (.inr (.inr ⟨rfl, rfl, h1, h2, h3, h4⟩))⟩
theorem rpb_kids {u y u1 : ByteArray} {D : Pn} {k : Int} {ks : List Tr} {L : List Int} (h : u.data.toList = 40 :: y.data.toList) (hk : KdP k ks y.data.toList (41 :: u1.data.toList)) (hL : L = (flF ks D []).2) : RpB u D (flF ks D []).1 k ⟨#[]⟩ L u1 := by
  refine ⟨ks, rfl, hL, fun oc v ho => ?_⟩
  rw [h]
  exact kd_done hk ho
theorem rpb_done {u u1 u2 nm : ByteArray} {D D1 : Pn} {k oc : Int} {L : List Int} (h : RpB u D D1 k nm L u1) (ho : ocP oc u1.data.toList u2.data.toList) : ∃ t, rdP t u.data.toList u2.data.toList ∧ pushN D1 k nm L oc = fl t D := by
  obtain ⟨ks, h1, h2, h3⟩ := h
  exact ⟨.nd k nm oc ks, h3 _ _ ho, by rw [fl, ← h1, ← h2]⟩
end Go.Proofs.Ytfohfljdgmlibaa

/-
  Contracts of the program's reader of models: where it gives up at once.
-/
namespace Go.Proofs.Ytfohfljdgmlibaa
open Go.RowKit Go.Joins
set_option linter.unusedVariables false
set_option linter.unusedSimpArgs false
/-- It asks for too much. -/
theorem rp_no {R B dd : Nat} {u : ByteArray} {v : Value} {S : Nat → Prop} {D : Pn} {w w' : World} {e : Ending} {T : Nat → Prop} (h : GivU w e w' T) (hT : ∀ j, j < w.heap.size → T j → (j = R ∨ v.ownBlock = some j)) (hn : NoT u.data.toList D dd) : RpAns R B u v S D dd w e w' :=
  .inr ⟨⟨h.1, (Kp.refl (fun j => j = R ∨ v.ownBlock = some j) w).trans h.2 hT⟩, hn⟩
set_option maxRecDepth 100000 in
set_option maxHeartbeats 8000000 in
theorem i_partT (R B : Nat) (u : ByteArray) (m : Nat) (ad : Option Addr) (c : Nat) (D : Pn) (S : Nat → Prop) (w : World) (h : MR w R u ad m c) :
    Calls Try.prog 49 #[.pointer (some ⟨R, 0, none⟩), .int .i64 10] w (RpAns R B u (.slice ad m c) S D 10 w) := by
  have HH := hide h
  obtain ⟨c0, c1⟩ := mr_cells h
  clear h
  go_enter Try.func49, Try.ntmps49
  go_wp2_with fail
  refine wp_region_any (by kernel_rfl) ?_
  try (change wpAny _ _ _ _ _ _ _ (World.drew _))
  refine wpAny_take (i := 0) (v := (.pointer (some ⟨R, 0, none⟩))) rfl (by kernel_rfl) (by kernel_rfl) (by kernel_rfl) (fun _ _ _ h => h) (Or.inl ⟨by kernel_rfl, ?hy⟩) ?_
  case hy => (intro w; go_simp; try with_reducible rfl)
  refine wpAny_take (i := 1) (v := (.pointer (some ⟨R, 0, none⟩))) rfl (by kernel_rfl) (by kernel_rfl) (by kernel_rfl) (fun _ _ _ h => h) (Or.inl ⟨by kernel_rfl, ?hy⟩) ?_
  case hy => (intro w; go_simp; try with_reducible rfl)
  refine wpAny_take (i := 2) (v := (.pointer (some ⟨R, 0, none⟩))) rfl (by kernel_rfl) (by kernel_rfl) (by kernel_rfl) (fun _ _ _ h => h) (Or.inl ⟨by kernel_rfl, ?hy⟩) ?_
  case hy => (intro w; go_simp; try with_reducible rfl)
  refine wpAny_take (i := 3) (v := (.int .i64 10)) rfl (by kernel_rfl) (by kernel_rfl) (by kernel_rfl) (fun _ _ _ h => h) (Or.inl ⟨by kernel_rfl, ?hy⟩) ?_
  case hy => (intro w; go_simp; try with_reducible rfl)
  refine wpAny_take (i := 4) (v := (.bool false)) rfl (by kernel_rfl) (by kernel_rfl) (by kernel_rfl) (fun _ _ _ h => h) (Or.inl ⟨by kernel_rfl, ?hy⟩) ?_
  case hy => (intro w; go_simp; try with_reducible rfl)
  refine wpAny_take (i := 5) (v := (.bool false)) rfl (by kernel_rfl) (by kernel_rfl) (by kernel_rfl) (fun _ _ _ h => h) (Or.inl ⟨by kernel_rfl, ?hy⟩) ?_
  case hy => (intro w; go_simp; try with_reducible rfl)
  refine wpAny_take (i := 6) (v := undef) rfl (by kernel_rfl) (by kernel_rfl) (by kernel_rfl) (fun _ _ _ h => h) (Or.inr ⟨by kernel_rfl, rfl⟩) ?_
  refine wpAny_take (i := 7) (v := undef) rfl (by kernel_rfl) (by kernel_rfl) (by kernel_rfl) (fun _ _ _ h => h) (Or.inr ⟨by kernel_rfl, rfl⟩) ?_
  refine wpAny_take (i := 8) (v := undef) rfl (by kernel_rfl) (by kernel_rfl) (by kernel_rfl) (fun _ _ _ h => h) (Or.inr ⟨by kernel_rfl, rfl⟩) ?_
  refine wpAny_take (i := 9) (v := undef) rfl (by kernel_rfl) (by kernel_rfl) (by kernel_rfl) (fun _ _ _ h => h) (Or.inr ⟨by kernel_rfl, rfl⟩) ?_
  refine wpAny_take (i := 10) (v := undef) rfl (by kernel_rfl) (by kernel_rfl) (by kernel_rfl) (fun _ _ _ h => h) (Or.inr ⟨by kernel_rfl, rfl⟩) ?_
  refine wpAny_take (i := 11) (v := undef) rfl (by kernel_rfl) (by kernel_rfl) (by kernel_rfl) (fun _ _ _ h => h) (Or.inr ⟨by kernel_rfl, rfl⟩) ?_
  refine wpAny_take (i := 12) (v := (.bool false)) rfl (by kernel_rfl) (by kernel_rfl) (by kernel_rfl) (fun _ _ _ h => h) (Or.inl ⟨by kernel_rfl, ?hy⟩) ?_
  case hy => (intro w; go_simp; try with_reducible rfl)
  refine wpAny_ready (rs := [13]) (by kernel_rfl) (by simp) ?_
  refine AllReady.cons rfl (fun K hK => ?_) AllReady.nil
  go_simp
  refine (i_want_no _ (fun _ => False) _).mono ?_
  rintro e w2 ⟨⟨tv, v, rfl⟩, k2⟩
  have K2 := hide k2
  clear k2
  go_wp2
  exact ⟨rfl, rp_no ⟨⟨tv, v, rfl⟩, (kp_drew (S := fun _ => False) w).trans K2.out (fun j _ hj => hj)⟩ (fun j _ hj => hj.elim) (noT_deep (Nat.le_refl _))⟩
set_option maxRecDepth 100000 in
set_option maxHeartbeats 8000000 in
theorem i_partM (R B dd : Nat) (u : ByteArray) (m : Nat) (ad : Option Addr) (c : Nat) (D : Pn) (S : Nat → Prop) (w : World) (hu : u.size ≤ 1048576) (hdd : dd ≤ 9) (h40 : ¬ m < 40) (hB : B ≤ w.heap.size) (h : MR w R u ad m c) (hpo : POZ 1048576 B S w ad m c D) :
    Calls Try.prog 49 #[.pointer (some ⟨R, 0, none⟩), .int .i64 (dd : Int)] w (RpAns R B u (.slice ad m c) S D dd w) := by
  obtain ⟨i1, hi1, hy0, hy1, hy2⟩ := info_parts infoPN
  have HH := hide h
  have HP := hide hpo
  obtain ⟨c0, c1⟩ := mr_cells h
  have hd9 : (dd : Int) ≤ 9 := by omega
  have hd9d : decide ((dd : Int) ≤ 9) = true := decide_eq_true hd9
  clear h hpo
  have hm4 : ¬ (m : Int) < 40 := by omega
  have hm4d : decide ((m : Int) < 40) = false := decide_eq_false hm4
  have HMN : Hid (40 ≤ D.n) := hide (by rw [(po_at HP.out).1]; omega)
  go_enter Try.func49, Try.ntmps49
  go_wp2_with fail
  refine wp_region_any (by kernel_rfl) ?_
  try (change wpAny _ _ _ _ _ _ _ (World.drew _))
  refine wpAny_take (i := 0) (v := (.pointer (some ⟨R, 0, none⟩))) rfl (by kernel_rfl) (by kernel_rfl) (by kernel_rfl) (fun _ _ _ h => h) (Or.inl ⟨by kernel_rfl, ?hy0⟩) ?_
  case hy0 => (intro w; go_simp; try with_reducible rfl)
  refine wpAny_take (i := 1) (v := (.pointer (some ⟨R, 0, none⟩))) rfl (by kernel_rfl) (by kernel_rfl) (by kernel_rfl) (fun _ _ _ h => h) (Or.inl ⟨by kernel_rfl, ?hy1⟩) ?_
  case hy1 => (intro w; go_simp; try with_reducible rfl)
  refine wpAny_take (i := 2) (v := (.pointer (some ⟨R, 0, none⟩))) rfl (by kernel_rfl) (by kernel_rfl) (by kernel_rfl) (fun _ _ _ h => h) (Or.inl ⟨by kernel_rfl, ?hy2⟩) ?_
  case hy2 => (intro w; go_simp; try with_reducible rfl)
  refine wpAny_take (i := 3) (v := (.int .i64 (dd : Int))) rfl (by kernel_rfl) (by kernel_rfl) (by kernel_rfl) (fun _ _ _ h => h) (Or.inl ⟨by kernel_rfl, ?hy3⟩) ?_
  case hy3 => (intro w; go_simp; try with_reducible rfl)
  refine wpAny_take (i := 4) (v := (.bool true)) rfl (by kernel_rfl) (by kernel_rfl) (by kernel_rfl) (fun _ _ _ h => h) (Or.inl ⟨by kernel_rfl, ?hy4⟩) ?_
  case hy4 => (intro w; go_simp; try with_reducible rfl)
  refine wpAny_take (i := 5) (v := (.bool true)) rfl (by kernel_rfl) (by kernel_rfl) (by kernel_rfl) (fun _ _ _ h => h) (Or.inl ⟨by kernel_rfl, ?hy5⟩) ?_
  case hy5 => (intro w; go_simp; try with_reducible rfl)
  refine wpAny_take (i := 6) (v := (.pointer (some ⟨R, 0, none⟩))) rfl (by kernel_rfl) (by kernel_rfl) (by kernel_rfl) (fun _ _ _ h => h) (Or.inl ⟨by kernel_rfl, ?hy6⟩) ?_
  case hy6 => (intro w; go_simp; try with_reducible rfl)
  refine wpAny_take (i := 7) (v := (.pointer (some ⟨R, 0, none⟩))) rfl (by kernel_rfl) (by kernel_rfl) (by kernel_rfl) (fun _ _ _ h => h) (Or.inl ⟨by kernel_rfl, ?hy7⟩) ?_
  case hy7 => (intro w; go_simp; try with_reducible rfl)
  refine wpAny_take (i := 8) (v := (.pointer (some ⟨R, 1, none⟩))) rfl (by kernel_rfl) (by kernel_rfl) (by kernel_rfl) (fun _ _ _ h => h) (Or.inl ⟨by kernel_rfl, ?hy8⟩) ?_
  case hy8 => (intro w; go_simp; try with_reducible rfl)
  refine wpAny_ready (rs := [9]) (by kernel_rfl) (by simp) ?_
  refine AllReady.cons rfl (fun K hK => ?_) AllReady.nil
  go_simp
  first | (refine hK _ _ ?_; clear hK K) | skip
  refine wpAny_take (i := 10) (v := (.int .i64 (m : Int))) rfl (by kernel_rfl) (by kernel_rfl) (by kernel_rfl) (fun _ _ _ h => h) (Or.inl ⟨by kernel_rfl, ?hy10⟩) ?_
  case hy10 => (intro w; go_simp; try with_reducible rfl)
  refine wpAny_take (i := 11) (v := (.bool false)) rfl (by kernel_rfl) (by kernel_rfl) (by kernel_rfl) (fun _ _ _ h => h) (Or.inl ⟨by kernel_rfl, ?hy11⟩) ?_
  case hy11 => (intro w; go_simp; try with_reducible rfl)
  refine wpAny_take (i := 12) (v := (.bool false)) rfl (by kernel_rfl) (by kernel_rfl) (by kernel_rfl) (fun _ _ _ h => h) (Or.inl ⟨by kernel_rfl, ?hy12⟩) ?_
  case hy12 => (intro w; go_simp; try with_reducible rfl)
  refine wpAny_ready (rs := [13]) (by kernel_rfl) (by simp) ?_
  refine AllReady.cons rfl (fun K hK => ?_) AllReady.nil
  go_simp
  refine (i_want_no _ (fun _ => False) _).mono ?_
  rintro e w2 ⟨⟨tv, v, rfl⟩, k2⟩
  have K2 := hide k2
  clear k2
  all_goals
    go_wp2
    exact ⟨rfl, rp_no ⟨⟨tv, v, rfl⟩, (kp_drew (S := fun _ => False) w).trans K2.out (fun j _ hj => hj)⟩ (fun j _ hj => hj.elim) (noT_many HMN.out)⟩
end Go.Proofs.Ytfohfljdgmlibaa
