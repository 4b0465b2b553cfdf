/-
  Contracts of the program's reader of models: where it gives up at once.
-/
import Derived.Test.YtfohfljdgmlibaaW39
import Derived.Deep.CutBlock
import Derived.Deep.DeepCutAuto
import Derived.Deep.RegionLaw
import Derived.Deep.RegionWith
namespace Go.Proofs.Ytfohfljdgmlibaa
open Go.RowKit Go.Joins
set_option linter.unusedVariables false
set_option linter.unusedSimpArgs false
/-- It asks for too much. -/
theorem rp_no {R B dd : Nat} {u : ByteArray} {v : Value} {S : Nat → Prop} {D : Pn} {w w' : World} {e : Ending} {T : Nat → Prop} (h : GivU w e w' T) (hT : ∀ j, j < w.heap.size → T j → (j = R ∨ v.ownBlock = some j)) (hn : NoT u.data.toList D dd) : RpAns R B u v S D dd w e w' :=
  .inr ⟨⟨h.1, (Kp.refl (fun j => j = R ∨ v.ownBlock = some j) w).trans h.2 hT⟩, hn⟩
set_option maxRecDepth 100000 in
set_option maxHeartbeats 8000000 in
theorem i_partT (R B : Nat) (u : ByteArray) (m : Nat) (ad : Option Addr) (c : Nat) (D : Pn) (S : Nat → Prop) (w : World) (h : MR w R u ad m c) :
    Calls Try.prog 49 #[.pointer (some ⟨R, 0, none⟩), .int .i64 10] w (RpAns R B u (.slice ad m c) S D 10 w) := by
  have HH := hide h
  obtain ⟨c0, c1⟩ := mr_cells h
  clear h
  go_enter Try.func49, Try.ntmps49
  go_wp2_with fail
  refine wp_region_any (by kernel_rfl) ?_
  try (change wpAny _ _ _ _ _ _ _ (World.drew _))
  refine wpAny_take (i := 0) (v := (.pointer (some ⟨R, 0, none⟩))) rfl (by kernel_rfl) (by kernel_rfl) (by kernel_rfl) (fun _ _ _ h => h) (Or.inl ⟨by kernel_rfl, ?hy⟩) ?_
  case hy => (intro w; go_simp; try with_reducible rfl)
  refine wpAny_take (i := 1) (v := (.pointer (some ⟨R, 0, none⟩))) rfl (by kernel_rfl) (by kernel_rfl) (by kernel_rfl) (fun _ _ _ h => h) (Or.inl ⟨by kernel_rfl, ?hy⟩) ?_
  case hy => (intro w; go_simp; try with_reducible rfl)
  refine wpAny_take (i := 2) (v := (.pointer (some ⟨R, 0, none⟩))) rfl (by kernel_rfl) (by kernel_rfl) (by kernel_rfl) (fun _ _ _ h => h) (Or.inl ⟨by kernel_rfl, ?hy⟩) ?_
  case hy => (intro w; go_simp; try with_reducible rfl)
  refine wpAny_take (i := 3) (v := (.int .i64 10)) rfl (by kernel_rfl) (by kernel_rfl) (by kernel_rfl) (fun _ _ _ h => h) (Or.inl ⟨by kernel_rfl, ?hy⟩) ?_
  case hy => (intro w; go_simp; try with_reducible rfl)
  refine wpAny_take (i := 4) (v := (.bool false)) rfl (by kernel_rfl) (by kernel_rfl) (by kernel_rfl) (fun _ _ _ h => h) (Or.inl ⟨by kernel_rfl, ?hy⟩) ?_
  case hy => (intro w; go_simp; try with_reducible rfl)
  refine wpAny_take (i := 5) (v := (.bool false)) rfl (by kernel_rfl) (by kernel_rfl) (by kernel_rfl) (fun _ _ _ h => h) (Or.inl ⟨by kernel_rfl, ?hy⟩) ?_
  case hy => (intro w; go_simp; try with_reducible rfl)
  refine wpAny_take (i := 6) (v := undef) rfl (by kernel_rfl) (by kernel_rfl) (by kernel_rfl) (fun _ _ _ h => h) (Or.inr ⟨by kernel_rfl, rfl⟩) ?_
  refine wpAny_take (i := 7) (v := undef) rfl (by kernel_rfl) (by kernel_rfl) (by kernel_rfl) (fun _ _ _ h => h) (Or.inr ⟨by kernel_rfl, rfl⟩) ?_
  refine wpAny_take (i := 8) (v := undef) rfl (by kernel_rfl) (by kernel_rfl) (by kernel_rfl) (fun _ _ _ h => h) (Or.inr ⟨by kernel_rfl, rfl⟩) ?_
  refine wpAny_take (i := 9) (v := undef) rfl (by kernel_rfl) (by kernel_rfl) (by kernel_rfl) (fun _ _ _ h => h) (Or.inr ⟨by kernel_rfl, rfl⟩) ?_
  refine wpAny_take (i := 10) (v := undef) rfl (by kernel_rfl) (by kernel_rfl) (by kernel_rfl) (fun _ _ _ h => h) (Or.inr ⟨by kernel_rfl, rfl⟩) ?_
  refine wpAny_take (i := 11) (v := undef) rfl (by kernel_rfl) (by kernel_rfl) (by kernel_rfl) (fun _ _ _ h => h) (Or.inr ⟨by kernel_rfl, rfl⟩) ?_
  refine wpAny_take (i := 12) (v := (.bool false)) rfl (by kernel_rfl) (by kernel_rfl) (by kernel_rfl) (fun _ _ _ h => h) (Or.inl ⟨by kernel_rfl, ?hy⟩) ?_
  case hy => (intro w; go_simp; try with_reducible rfl)
  refine wpAny_ready (rs := [13]) (by kernel_rfl) (by simp) ?_
  refine AllReady.cons rfl (fun K hK => ?_) AllReady.nil
  go_simp
  refine (i_want_no _ (fun _ => False) _).mono ?_
  rintro e w2 ⟨⟨tv, v, rfl⟩, k2⟩
  have K2 := hide k2
  clear k2
  go_wp2
  exact ⟨rfl, rp_no ⟨⟨tv, v, rfl⟩, (kp_drew (S := fun _ => False) w).trans K2.out (fun j _ hj => hj)⟩ (fun j _ hj => hj.elim) (noT_deep (Nat.le_refl _))⟩
set_option maxRecDepth 100000 in
set_option maxHeartbeats 8000000 in
theorem i_partM (R B dd : Nat) (u : ByteArray) (m : Nat) (ad : Option Addr) (c : Nat) (D : Pn) (S : Nat → Prop) (w : World) (hu : u.size ≤ 1048576) (hdd : dd ≤ 9) (h40 : ¬ m < 40) (hB : B ≤ w.heap.size) (h : MR w R u ad m c) (hpo : POZ 1048576 B S w ad m c D) :
    Calls Try.prog 49 #[.pointer (some ⟨R, 0, none⟩), .int .i64 (dd : Int)] w (RpAns R B u (.slice ad m c) S D dd w) := by
  obtain ⟨i1, hi1, hy0, hy1, hy2⟩ := info_parts infoPN
  have HH := hide h
  have HP := hide hpo
  obtain ⟨c0, c1⟩ := mr_cells h
  have hd9 : (dd : Int) ≤ 9 := by omega
  have hd9d : decide ((dd : Int) ≤ 9) = true := decide_eq_true hd9
  clear h hpo
  have hm4 : ¬ (m : Int) < 40 := by omega
  have hm4d : decide ((m : Int) < 40) = false := decide_eq_false hm4
  have HMN : Hid (40 ≤ D.n) := hide (by rw [(po_at HP.out).1]; omega)
  go_enter Try.func49, Try.ntmps49
  go_wp2_with fail
  refine wp_region_any (by kernel_rfl) ?_
  try (change wpAny _ _ _ _ _ _ _ (World.drew _))
  refine wpAny_take (i := 0) (v := (.pointer (some ⟨R, 0, none⟩))) rfl (by kernel_rfl) (by kernel_rfl) (by kernel_rfl) (fun _ _ _ h => h) (Or.inl ⟨by kernel_rfl, ?hy0⟩) ?_
  case hy0 => (intro w; go_simp; try with_reducible rfl)
  refine wpAny_take (i := 1) (v := (.pointer (some ⟨R, 0, none⟩))) rfl (by kernel_rfl) (by kernel_rfl) (by kernel_rfl) (fun _ _ _ h => h) (Or.inl ⟨by kernel_rfl, ?hy1⟩) ?_
  case hy1 => (intro w; go_simp; try with_reducible rfl)
  refine wpAny_take (i := 2) (v := (.pointer (some ⟨R, 0, none⟩))) rfl (by kernel_rfl) (by kernel_rfl) (by kernel_rfl) (fun _ _ _ h => h) (Or.inl ⟨by kernel_rfl, ?hy2⟩) ?_
  case hy2 => (intro w; go_simp; try with_reducible rfl)
  refine wpAny_take (i := 3) (v := (.int .i64 (dd : Int))) rfl (by kernel_rfl) (by kernel_rfl) (by kernel_rfl) (fun _ _ _ h => h) (Or.inl ⟨by kernel_rfl, ?hy3⟩) ?_
  case hy3 => (intro w; go_simp; try with_reducible rfl)
  refine wpAny_take (i := 4) (v := (.bool true)) rfl (by kernel_rfl) (by kernel_rfl) (by kernel_rfl) (fun _ _ _ h => h) (Or.inl ⟨by kernel_rfl, ?hy4⟩) ?_
  case hy4 => (intro w; go_simp; try with_reducible rfl)
  refine wpAny_take (i := 5) (v := (.bool true)) rfl (by kernel_rfl) (by kernel_rfl) (by kernel_rfl) (fun _ _ _ h => h) (Or.inl ⟨by kernel_rfl, ?hy5⟩) ?_
  case hy5 => (intro w; go_simp; try with_reducible rfl)
  refine wpAny_take (i := 6) (v := (.pointer (some ⟨R, 0, none⟩))) rfl (by kernel_rfl) (by kernel_rfl) (by kernel_rfl) (fun _ _ _ h => h) (Or.inl ⟨by kernel_rfl, ?hy6⟩) ?_
  case hy6 => (intro w; go_simp; try with_reducible rfl)
  refine wpAny_take (i := 7) (v := (.pointer (some ⟨R, 0, none⟩))) rfl (by kernel_rfl) (by kernel_rfl) (by kernel_rfl) (fun _ _ _ h => h) (Or.inl ⟨by kernel_rfl, ?hy7⟩) ?_
  case hy7 => (intro w; go_simp; try with_reducible rfl)
  refine wpAny_take (i := 8) (v := (.pointer (some ⟨R, 1, none⟩))) rfl (by kernel_rfl) (by kernel_rfl) (by kernel_rfl) (fun _ _ _ h => h) (Or.inl ⟨by kernel_rfl, ?hy8⟩) ?_
  case hy8 => (intro w; go_simp; try with_reducible rfl)
  refine wpAny_ready (rs := [9]) (by kernel_rfl) (by simp) ?_
  refine AllReady.cons rfl (fun K hK => ?_) AllReady.nil
  go_simp
  first | (refine hK _ _ ?_; clear hK K) | skip
  refine wpAny_take (i := 10) (v := (.int .i64 (m : Int))) rfl (by kernel_rfl) (by kernel_rfl) (by kernel_rfl) (fun _ _ _ h => h) (Or.inl ⟨by kernel_rfl, ?hy10⟩) ?_
  case hy10 => (intro w; go_simp; try with_reducible rfl)
  refine wpAny_take (i := 11) (v := (.bool false)) rfl (by kernel_rfl) (by kernel_rfl) (by kernel_rfl) (fun _ _ _ h => h) (Or.inl ⟨by kernel_rfl, ?hy11⟩) ?_
  case hy11 => (intro w; go_simp; try with_reducible rfl)
  refine wpAny_take (i := 12) (v := (.bool false)) rfl (by kernel_rfl) (by kernel_rfl) (by kernel_rfl) (fun _ _ _ h => h) (Or.inl ⟨by kernel_rfl, ?hy12⟩) ?_
  case hy12 => (intro w; go_simp; try with_reducible rfl)
  refine wpAny_ready (rs := [13]) (by kernel_rfl) (by simp) ?_
  refine AllReady.cons rfl (fun K hK => ?_) AllReady.nil
  go_simp
  refine (i_want_no _ (fun _ => False) _).mono ?_
  rintro e w2 ⟨⟨tv, v, rfl⟩, k2⟩
  have K2 := hide k2
  clear k2
  all_goals
    go_wp2
    exact ⟨rfl, rp_no ⟨⟨tv, v, rfl⟩, (kp_drew (S := fun _ => False) w).trans K2.out (fun j _ hj => hj)⟩ (fun j _ hj => hj.elim) (noT_many HMN.out)⟩
end Go.Proofs.Ytfohfljdgmlibaa
