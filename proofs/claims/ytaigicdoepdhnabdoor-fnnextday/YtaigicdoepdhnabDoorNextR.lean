/-
  Two regions of the law on the next day, whatever order they are evaluated in.
-/
import Derived.Test.YtaigicdoepdhnabDoorDrawOne
import Derived.Test.YtaigicdoepdhnabDoorRegInvL
import Derived.Test.YtaigicdoepdhnabDoorSecs
import Derived.Test.YtaigicdoepdhnabDoorShMath
namespace Go.Proofs.YtaigicdoepdhnabDoor
open Go.RowKit Go.Joins
set_option linter.unusedVariables false
set_option linter.unusedSimpArgs false
theorem far8 (w : World) (K D : Nat) (hne : K ≠ D) (x0 x1 x2 x3 x4 x5 : Int) (x6 : Bool) (x7 : Int) : ((((((((w.setCell ⟨D, 0, none⟩ (.int .i64 x0)).setCell ⟨D, 1, none⟩ (.int .i64 x1)).setCell ⟨D, 2, none⟩ (.int .i64 x2)).setCell ⟨D, 3, none⟩ (.int .i64 x3)).setCell ⟨D, 4, none⟩ (.int .i64 x4)).setCell ⟨D, 5, none⟩ (.int .i64 x5)).setCell ⟨D, 6, none⟩ (.bool x6)).setCell ⟨D, 7, none⟩ (.int .i64 x7)).heap[K]? = w.heap[K]? := by
  iterate 8 (rw [Below.heap_setCell _ _ _ K hne])
/-- While the month's last second is laid. -/
def NJ (w w0 : World) (Dd : Nat) (y mo d h mi s : Int) (g : Bool) (z : Int) (l : Nat → Bool) (v : World) : Prop :=
  DBox v Dd y mo d h mi s g z ∧ Below w.heap.size w v ∧ MTab 0 v ∧ (l 14 = false → v.heap.size = w0.heap.size) ∧ (l 14 = true → DSh v w0.heap.size) ∧ Dd < w0.heap.size ∧ w.heap.size ≤ w0.heap.size
theorem nj_up {w w0 v : World} {Dd i : Nat} {y mo d h mi s : Int} {g : Bool} {z : Int} {l : Nat → Bool} (hj : NJ w w0 Dd y mo d h mi s g z l v) (hi : i ≠ 14) : NJ w w0 Dd y mo d h mi s g z (fun k => if k = i then true else l k) v := by
  obtain ⟨h1, h2, h3, h4, h5, h6⟩ := hj
  refine ⟨h1, h2, h3, fun e => h4 ?_, fun e => h5 ?_, h6⟩
  · simpa [fun e : 14 = i => hi e.symm, show ¬ 14 = i from fun e => hi e.symm] using e
  · simpa [show ¬ 14 = i from fun e => hi e.symm] using e
theorem nj_alloc {w w0 v : World} {Dd : Nat} {y mo d h mi s : Int} {g : Bool} {z : Int} {l : Nat → Bool} (hj : NJ w w0 Dd y mo d h mi s g z l v) (hsz : v.heap.size = w0.heap.size) : NJ w w0 Dd y mo d h mi s g z (fun k => if k = 14 then true else l k) (v.alloc (.cells #[.int .i64 0, .int .i64 0, .int .i64 0, .int .i64 0, .int .i64 0, .int .i64 0, .bool false, .int .i64 0] 25)) := by
  obtain ⟨h1, h2, h3, h4, h5, h6⟩ := hj
  have hb := (Below.refl v.heap.size v).alloc (Nat.le_refl _) (.cells #[.int .i64 0, .int .i64 0, .int .i64 0, .int .i64 0, .int .i64 0, .int .i64 0, .bool false, .int .i64 0] 25)
  refine ⟨dbox_go h1 hb, below_go h2 hb, mtab_go h3 hb, fun e => by simp at e, fun _ => ?_, h6⟩
  rw [← hsz]
  exact ⟨_, _, _, _, _, _, _, _, heap_alloc_new v _⟩
theorem dbox_far {v v1 : World} {B : Nat} {y mo d h mi s : Int} {g : Bool} {z : Int} (hx : DBox v B y mo d h mi s g z) (hb : v1.heap[B]? = v.heap[B]?) (hs : v1.heap.size = v.heap.size) : DBox v1 B y mo d h mi s g z := by
  obtain ⟨k0, k1, k2, k3, k4, k5, k6, k7, k8⟩ := hx
  have f : ∀ i, v1.cell? ⟨B, i, none⟩ = v.cell? ⟨B, i, none⟩ := fun i => World.cell?_of_block (a := ⟨B, i, none⟩) hb
  exact ⟨by rw [hs]; exact k0, (f 0).trans k1, (f 1).trans k2, (f 2).trans k3, (f 3).trans k4, (f 4).trans k5, (f 5).trans k6, (f 6).trans k7, (f 7).trans k8⟩
theorem mtab_far8 {w v v1 : World} {g : Nat} (hw : MTab g w) (hb : Below w.heap.size w v1) : MTab g v1 := mtab_go hw hb
theorem nj_set8 {w w0 v : World} {Dd : Nat} {y mo d h mi s : Int} {g : Bool} {z : Int} {l : Nat → Bool} (hj : NJ w w0 Dd y mo d h mi s g z l v) {q0 q1 q2 q3 q4 q5 : Int} {q6 : Bool} {q7 : Int} (hR : v.heap[w0.heap.size]? = some (.cells #[.int .i64 q0, .int .i64 q1, .int .i64 q2, .int .i64 q3, .int .i64 q4, .int .i64 q5, .bool q6, .int .i64 q7] 25 (0, 0))) (x0 x1 x2 x3 x4 x5 : Int) (x6 : Bool) (x7 : Int) (hm : MTab 0 w) : NJ w w0 Dd y mo d h mi s g z l ((((((((v.setCell ⟨w0.heap.size, 0, none⟩ (.int .i64 x0)).setCell ⟨w0.heap.size, 1, none⟩ (.int .i64 x1)).setCell ⟨w0.heap.size, 2, none⟩ (.int .i64 x2)).setCell ⟨w0.heap.size, 3, none⟩ (.int .i64 x3)).setCell ⟨w0.heap.size, 4, none⟩ (.int .i64 x4)).setCell ⟨w0.heap.size, 5, none⟩ (.int .i64 x5)).setCell ⟨w0.heap.size, 6, none⟩ (.bool x6)).setCell ⟨w0.heap.size, 7, none⟩ (.int .i64 x7)) := by
  obtain ⟨h1, h2, h3, h4, h5, h6, h7⟩ := hj
  have hB : Below w.heap.size w ((((((((v.setCell ⟨w0.heap.size, 0, none⟩ (.int .i64 x0)).setCell ⟨w0.heap.size, 1, none⟩ (.int .i64 x1)).setCell ⟨w0.heap.size, 2, none⟩ (.int .i64 x2)).setCell ⟨w0.heap.size, 3, none⟩ (.int .i64 x3)).setCell ⟨w0.heap.size, 4, none⟩ (.int .i64 x4)).setCell ⟨w0.heap.size, 5, none⟩ (.int .i64 x5)).setCell ⟨w0.heap.size, 6, none⟩ (.bool x6)).setCell ⟨w0.heap.size, 7, none⟩ (.int .i64 x7)) := by
    iterate 8 (refine Below.setCell ?_ h7 _)
    exact h2
  refine ⟨dbox_far h1 (far8 v Dd w0.heap.size (by omega) x0 x1 x2 x3 x4 x5 x6 x7) (by simp), hB, mtab_go hm hB, fun e => by have := h4 e; simpa using this, fun _ => ⟨_, _, _, _, _, _, _, _, set8_row hR x0 x1 x2 x3 x4 x5 x6 x7⟩, h6, h7⟩
def NV (w0 : World) (Dd : Nat) (y mo d h mi s : Int) (g : Bool) (z : Int) (k : Nat) (x : Value) (v : World) : Prop :=
  match k with
  | 0 => x = .pointer (some ⟨Dd, 0, none⟩)
  | 1 => x = .int .i64 y
  | 2 => x = .pointer (some ⟨Dd, 1, none⟩)
  | 3 => x = .int .i64 mo
  | 4 => x = .pointer (some ⟨Dd, 0, none⟩)
  | 5 => x = .int .i64 y
  | 6 => x = .pointer (some ⟨Dd, 1, none⟩)
  | 7 => x = .int .i64 mo
  | 8 => x = .int .i64 (dim y mo)
  | 9 => x = .pointer (some ⟨Dd, 6, none⟩)
  | 10 => x = .bool g
  | 11 => x = .pointer (some ⟨Dd, 7, none⟩)
  | 12 => x = .int .i64 z
  | 13 => x = .agg #[.int .i64 y, .int .i64 mo, .int .i64 (dim y mo), .int .i64 23, .int .i64 59, .int .i64 59, .bool g, .int .i64 z]
  | 14 => x = .pointer (some ⟨w0.heap.size, 0, none⟩)
  | 15 => v.heap[w0.heap.size]? = some (.cells #[.int .i64 y, .int .i64 mo, .int .i64 (dim y mo), .int .i64 23, .int .i64 59, .int .i64 59, .bool g, .int .i64 z] 25 (0, 0))
  | _ => True
theorem nv_move {w0 v v' : World} {Dd : Nat} {y mo d h mi s : Int} {g : Bool} {z : Int} (h3 : v.heap[w0.heap.size]? = some (.cells #[.int .i64 y, .int .i64 mo, .int .i64 (dim y mo), .int .i64 23, .int .i64 59, .int .i64 59, .bool g, .int .i64 z] 25 (0, 0)) → v'.heap[w0.heap.size]? = some (.cells #[.int .i64 y, .int .i64 mo, .int .i64 (dim y mo), .int .i64 23, .int .i64 59, .int .i64 59, .bool g, .int .i64 z] 25 (0, 0))) (k : Nat) (x : Value) (hx0 : NV w0 Dd y mo d h mi s g z k x v) : NV w0 Dd y mo d h mi s g z k x v' := by
  unfold NV at hx0 ⊢
  split at hx0 <;> first | exact h3 hx0 | exact hx0
set_option maxRecDepth 100000 in
set_option maxHeartbeats 8000000 in
theorem reg7 {s0 s1 s2 s4 s6 s7 s8 s9 s10 s11 s12 s13 s14 s15 s16 s17 s18 s19 s20 s21 s22 s23 s24 s25 s26 s27 s28 s43 s44 s45 s46 s47 s48 s49 s50 s51 s52 s53 s54 s55 s56 s57 s58 s59 s60 s61 s62 s63 s64 s65 s66 s67 s68 s69 s70 s71 s72 s73 s74 s75 s76 s77 s78 s79 s80 s81 s82 s83 s84 s85 s86 s87 s88 s89 s90 s91 s92 s93 s94 s95 s96 s97 s98 s99 s100 s101 s102 s103 s104 s105 s106 s107 s108 s109 s110 s111 s112 s113 s114 s115 : Value} {w w0 : World} {Dd : Nat} {y mo d h mi s : Int} {g : Bool} {z : Int} {Q : Exit → Act → World → Prop}
    (hm : MTab 0 w) (hD : DBox w0 Dd y mo d h mi s g z) (hb : Below w.heap.size w w0)
    (hQ : ∀ (u : Nat → Value) (v : World), Below w.heap.size w v → DBox v Dd y mo d h mi s g z → v.heap[w0.heap.size]? = some (.cells #[.int .i64 y, .int .i64 mo, .int .i64 (dim y mo), .int .i64 23, .int .i64 59, .int .i64 59, .bool g, .int .i64 z] 25 (0, 0)) → u 5 = .pointer (some ⟨w0.heap.size, 0, none⟩) → Q .normal { tmps := #[s0, s1, s2, .pointer (some ⟨Dd, 0, none⟩), s4, u 5, s6, s7, s8, s9, s10, s11, s12, s13, s14, s15, s16, s17, s18, s19, s20, s21, s22, s23, s24, s25, s26, s27, s28, u 29, u 30, u 31, u 32, u 33, u 34, u 35, u 36, u 37, u 38, u 39, u 40, u 41, u 42, s43, s44, s45, s46, s47, s48, s49, s50, s51, s52, s53, s54, s55, s56, s57, s58, s59, s60, s61, s62, s63, s64, s65, s66, s67, s68, s69, s70, s71, s72, s73, s74, s75, s76, s77, s78, s79, s80, s81, s82, s83, s84, s85, s86, s87, s88, s89, s90, s91, s92, s93, s94, s95, s96, s97, s98, s99, s100, s101, s102, s103, s104, s105, s106, s107, s108, s109, s110, s111, s112, s113, s114, s115], defers := [] } v) :
    (Code.region 7 #[{ dst := some 29, op := Op.fieldAddr 25 (Operand.tmp 3) 0, type := 0, pos := "laws.go:409", after := #[], guard := none }, { dst := some 30, op := Op.load 2 (Operand.tmp 29), type := 2, pos := "laws.go:409", after := #[{ on := 0, ground := Ground.data }], guard := none }, { dst := some 31, op := Op.fieldAddr 25 (Operand.tmp 3) 1, type := 0, pos := "laws.go:409", after := #[], guard := none }, { dst := some 32, op := Op.load 2 (Operand.tmp 31), type := 2, pos := "laws.go:409", after := #[{ on := 2, ground := Ground.data }], guard := none }, { dst := some 33, op := Op.fieldAddr 25 (Operand.tmp 3) 0, type := 0, pos := "laws.go:409", after := #[], guard := none }, { dst := some 34, op := Op.load 2 (Operand.tmp 33), type := 2, pos := "laws.go:409", after := #[{ on := 4, ground := Ground.data }], guard := none }, { dst := some 35, op := Op.fieldAddr 25 (Operand.tmp 3) 1, type := 0, pos := "laws.go:409", after := #[], guard := none }, { dst := some 36, op := Op.load 2 (Operand.tmp 35), type := 2, pos := "laws.go:409", after := #[{ on := 6, ground := Ground.data }], guard := none }, { dst := some 37, op := Op.call { callee := Callee.value (Operand.func 9), args := #[Operand.tmp 34, Operand.tmp 36], argTypes := #[2, 2] }, type := 2, pos := "laws.go:409", after := #[{ on := 5, ground := Ground.data }, { on := 7, ground := Ground.data }], guard := none }, { dst := some 38, op := Op.fieldAddr 25 (Operand.tmp 3) 6, type := 0, pos := "laws.go:409", after := #[], guard := none }, { dst := some 39, op := Op.load 4 (Operand.tmp 38), type := 4, pos := "laws.go:409", after := #[{ on := 9, ground := Ground.data }], guard := none }, { dst := some 40, op := Op.fieldAddr 25 (Operand.tmp 3) 7, type := 0, pos := "laws.go:409", after := #[], guard := none }, { dst := some 41, op := Op.load 2 (Operand.tmp 40), type := 2, pos := "laws.go:409", after := #[{ on := 11, ground := Ground.data }], guard := none }, { dst := some 42, op := Op.build 25 #[(0, Operand.tmp 30), (1, Operand.tmp 32), (2, Operand.tmp 37), (3, Operand.const (Value.int IntKind.i64 23)), (4, Operand.const (Value.int IntKind.i64 59)), (5, Operand.const (Value.int IntKind.i64 59)), (6, Operand.tmp 39), (7, Operand.tmp 41)], type := 25, pos := "laws.go:409", after := #[{ on := 1, ground := Ground.data }, { on := 3, ground := Ground.data }, { on := 8, ground := Ground.data }, { on := 10, ground := Ground.data }, { on := 12, ground := Ground.data }], guard := none }, { dst := some 5, op := Op.alloc 25, type := 0, pos := "laws.go:409", after := #[], guard := none }, { dst := none, op := Op.store 25 (Operand.tmp 5) (Operand.tmp 42), type := 0, pos := "laws.go:409", after := #[{ on := 14, ground := Ground.data }, { on := 13, ground := Ground.data }, { on := 8, ground := Ground.chain }, { on := 0, ground := Ground.phase }, { on := 1, ground := Ground.phase }, { on := 2, ground := Ground.phase }, { on := 3, ground := Ground.phase }, { on := 4, ground := Ground.phase }, { on := 5, ground := Ground.phase }, { on := 6, ground := Ground.phase }, { on := 7, ground := Ground.phase }, { on := 8, ground := Ground.phase }, { on := 9, ground := Ground.phase }, { on := 10, ground := Ground.phase }, { on := 11, ground := Ground.phase }, { on := 12, ground := Ground.phase }, { on := 13, ground := Ground.phase }, { on := 14, ground := Ground.phase }], guard := none }] true).wp Tryd.prog Q { tmps := #[s0, s1, s2, .pointer (some ⟨Dd, 0, none⟩), s4, undef, s6, s7, s8, s9, s10, s11, s12, s13, s14, s15, s16, s17, s18, s19, s20, s21, s22, s23, s24, s25, s26, s27, s28, undef, undef, undef, undef, undef, undef, undef, undef, undef, undef, undef, undef, undef, undef, s43, s44, s45, s46, s47, s48, s49, s50, s51, s52, s53, s54, s55, s56, s57, s58, s59, s60, s61, s62, s63, s64, s65, s66, s67, s68, s69, s70, s71, s72, s73, s74, s75, s76, s77, s78, s79, s80, s81, s82, s83, s84, s85, s86, s87, s88, s89, s90, s91, s92, s93, s94, s95, s96, s97, s98, s99, s100, s101, s102, s103, s104, s105, s106, s107, s108, s109, s110, s111, s112, s113, s114, s115], defers := [] } w0 := by
  refine wp_region_invL (by kernel_rfl) (by kernel_rfl) (fun u => { tmps := #[s0, s1, s2, .pointer (some ⟨Dd, 0, none⟩), s4, u 5, s6, s7, s8, s9, s10, s11, s12, s13, s14, s15, s16, s17, s18, s19, s20, s21, s22, s23, s24, s25, s26, s27, s28, u 29, u 30, u 31, u 32, u 33, u 34, u 35, u 36, u 37, u 38, u 39, u 40, u 41, u 42, s43, s44, s45, s46, s47, s48, s49, s50, s51, s52, s53, s54, s55, s56, s57, s58, s59, s60, s61, s62, s63, s64, s65, s66, s67, s68, s69, s70, s71, s72, s73, s74, s75, s76, s77, s78, s79, s80, s81, s82, s83, s84, s85, s86, s87, s88, s89, s90, s91, s92, s93, s94, s95, s96, s97, s98, s99, s100, s101, s102, s103, s104, s105, s106, s107, s108, s109, s110, s111, s112, s113, s114, s115], defers := [] }) (fun k => if k ≤ 13 then k + 29 else if k = 14 then 5 else k + 100)
    (NV w0 Dd y mo d h mi s g z) (NJ w w0 Dd y mo d h mi s g z) (fun _ => undef) ⟨hD, hb.drew, mtab_go hm hb.drew, fun _ => rfl, fun e => (by cases e), hD.1, hb.size⟩ ?hput ?hD ?step ?done
  case hput =>
    intro i o ho u v
    have hi := (Array.getElem?_eq_some_iff.1 ho).1
    have hi' : i < 16 := hi
    clear hi
    rcases (show i = 0 ∨ i = 1 ∨ i = 2 ∨ i = 3 ∨ i = 4 ∨ i = 5 ∨ i = 6 ∨ i = 7 ∨ i = 8 ∨ i = 9 ∨ i = 10 ∨ i = 11 ∨ i = 12 ∨ i = 13 ∨ i = 14 ∨ i = 15 by omega) with e | e | e | e | e | e | e | e | e | e | e | e | e | e | e | e
    all_goals
      subst e
      obtain rfl := Option.some.inj ho
      rfl
  case hD =>
    intro i k hi hk hne
    have hi' : i < 16 := hi
    have hk' : k < 16 := hk
    try dsimp only
    split <;> split <;> (try split) <;> (try split) <;> omega
  case step =>
    intro i o ho u v l hj hun hV K9 hK
    have hi := (Array.getElem?_eq_some_iff.1 ho).1
    have hi' : i < 16 := hi
    clear hi
    rcases (show i = 0 ∨ i = 1 ∨ i = 2 ∨ i = 3 ∨ i = 4 ∨ i = 5 ∨ i = 6 ∨ i = 7 ∨ i = 8 ∨ i = 9 ∨ i = 10 ∨ i = 11 ∨ i = 12 ∨ i = 13 ∨ i = 14 ∨ i = 15 by omega) with e | e | e | e | e | e | e | e | e | e | e | e | e | e | e | e
    all_goals
      subst e
      obtain rfl := Option.some.inj ho
      clear ho hi'
      try dsimp only at hV hK ⊢
    · have HJ := hide hj
      clear hj hun
      go_simp
      exact hK _ _ (nj_up HJ.out (by omega)) rfl (fun _ _ h => h)
    · have h0 : u 29 = .pointer (some ⟨Dd, 0, none⟩) := (hV ⟨0, .data⟩ (by simp) rfl).2
      have HJ := hide hj
      obtain ⟨k0, k1, k2, k3, k4, k5, k6, k7, k8⟩ := hj.1
      clear hj hun
      rw [h0] at hK ⊢
      go_simp
      exact hK _ _ (nj_up HJ.out (by omega)) rfl (fun _ _ h => h)
    · have HJ := hide hj
      clear hj hun
      go_simp
      exact hK _ _ (nj_up HJ.out (by omega)) rfl (fun _ _ h => h)
    · have h2 : u 31 = .pointer (some ⟨Dd, 1, none⟩) := (hV ⟨2, .data⟩ (by simp) rfl).2
      have HJ := hide hj
      obtain ⟨k0, k1, k2, k3, k4, k5, k6, k7, k8⟩ := hj.1
      clear hj hun
      rw [h2] at hK ⊢
      go_simp
      exact hK _ _ (nj_up HJ.out (by omega)) rfl (fun _ _ h => h)
    · have HJ := hide hj
      clear hj hun
      go_simp
      exact hK _ _ (nj_up HJ.out (by omega)) rfl (fun _ _ h => h)
    · have h4 : u 33 = .pointer (some ⟨Dd, 0, none⟩) := (hV ⟨4, .data⟩ (by simp) rfl).2
      have HJ := hide hj
      obtain ⟨k0, k1, k2, k3, k4, k5, k6, k7, k8⟩ := hj.1
      clear hj hun
      rw [h4] at hK ⊢
      go_simp
      exact hK _ _ (nj_up HJ.out (by omega)) rfl (fun _ _ h => h)
    · have HJ := hide hj
      clear hj hun
      go_simp
      exact hK _ _ (nj_up HJ.out (by omega)) rfl (fun _ _ h => h)
    · have h6 : u 35 = .pointer (some ⟨Dd, 1, none⟩) := (hV ⟨6, .data⟩ (by simp) rfl).2
      have HJ := hide hj
      obtain ⟨k0, k1, k2, k3, k4, k5, k6, k7, k8⟩ := hj.1
      clear hj hun
      rw [h6] at hK ⊢
      go_simp
      exact hK _ _ (nj_up HJ.out (by omega)) rfl (fun _ _ h => h)
    · have h5 : u 34 = .int .i64 y := (hV ⟨5, .data⟩ (by simp) rfl).2
      have h7 : u 36 = .int .i64 mo := (hV ⟨7, .data⟩ (by simp) rfl).2
      have HJ := hide hj
      clear hj hun
      rw [h5, h7] at hK ⊢
      go_simp
      refine (i_dim y mo _ HJ.out.2.2.1).mono ?_
      rintro e v1 ⟨rfl, rfl⟩
      exact hK _ _ (nj_up HJ.out (by omega)) rfl (fun _ _ h => h)
    · have HJ := hide hj
      clear hj hun
      go_simp
      exact hK _ _ (nj_up HJ.out (by omega)) rfl (fun _ _ h => h)
    · have h9 : u 38 = .pointer (some ⟨Dd, 6, none⟩) := (hV ⟨9, .data⟩ (by simp) rfl).2
      have HJ := hide hj
      obtain ⟨k0, k1, k2, k3, k4, k5, k6, k7, k8⟩ := hj.1
      clear hj hun
      rw [h9] at hK ⊢
      go_simp
      exact hK _ _ (nj_up HJ.out (by omega)) rfl (fun _ _ h => h)
    · have HJ := hide hj
      clear hj hun
      go_simp
      exact hK _ _ (nj_up HJ.out (by omega)) rfl (fun _ _ h => h)
    · have h11 : u 40 = .pointer (some ⟨Dd, 7, none⟩) := (hV ⟨11, .data⟩ (by simp) rfl).2
      have HJ := hide hj
      obtain ⟨k0, k1, k2, k3, k4, k5, k6, k7, k8⟩ := hj.1
      clear hj hun
      rw [h11] at hK ⊢
      go_simp
      exact hK _ _ (nj_up HJ.out (by omega)) rfl (fun _ _ h => h)
    · have h1 : u 30 = .int .i64 y := (hV ⟨1, .data⟩ (by simp) rfl).2
      have h3 : u 32 = .int .i64 mo := (hV ⟨3, .data⟩ (by simp) rfl).2
      have h8 : u 37 = .int .i64 (dim y mo) := (hV ⟨8, .data⟩ (by simp) rfl).2
      have h10 : u 39 = .bool g := (hV ⟨10, .data⟩ (by simp) rfl).2
      have h12 : u 41 = .int .i64 z := (hV ⟨12, .data⟩ (by simp) rfl).2
      have HJ := hide hj
      clear hj hun
      rw [h1, h3, h8, h10, h12] at hK ⊢
      go_simp
      exact hK _ _ (nj_up HJ.out (by omega)) rfl (fun _ _ h => h)
    · have HJ := hide hj
      have hsz : v.heap.size = w0.heap.size := hj.2.2.2.1 hun
      clear hj hun
      go_simp
      exact hK _ _ (nj_alloc HJ.out hsz) (by first | rfl | (rw [hsz]; rfl)) (nv_move (fun hx => ((World.grownBy_alloc v _ none).block _ (Array.getElem?_eq_some_iff.1 hx).1 (by simp)).trans hx))
    · have h0 : u 29 = .pointer (some ⟨Dd, 0, none⟩) := (hV ⟨0, .phase⟩ (by simp) rfl).2
      have h1 : u 30 = .int .i64 y := (hV ⟨1, .phase⟩ (by simp) rfl).2
      have h2 : u 31 = .pointer (some ⟨Dd, 1, none⟩) := (hV ⟨2, .phase⟩ (by simp) rfl).2
      have h3 : u 32 = .int .i64 mo := (hV ⟨3, .phase⟩ (by simp) rfl).2
      have h4 : u 33 = .pointer (some ⟨Dd, 0, none⟩) := (hV ⟨4, .phase⟩ (by simp) rfl).2
      have h5 : u 34 = .int .i64 y := (hV ⟨5, .phase⟩ (by simp) rfl).2
      have h6 : u 35 = .pointer (some ⟨Dd, 1, none⟩) := (hV ⟨6, .phase⟩ (by simp) rfl).2
      have h7 : u 36 = .int .i64 mo := (hV ⟨7, .phase⟩ (by simp) rfl).2
      have h8 : u 37 = .int .i64 (dim y mo) := (hV ⟨8, .chain⟩ (by simp) rfl).2
      have h9 : u 38 = .pointer (some ⟨Dd, 6, none⟩) := (hV ⟨9, .phase⟩ (by simp) rfl).2
      have h10 : u 39 = .bool g := (hV ⟨10, .phase⟩ (by simp) rfl).2
      have h11 : u 40 = .pointer (some ⟨Dd, 7, none⟩) := (hV ⟨11, .phase⟩ (by simp) rfl).2
      have h12 : u 41 = .int .i64 z := (hV ⟨12, .phase⟩ (by simp) rfl).2
      have h13 : u 42 = .agg #[.int .i64 y, .int .i64 mo, .int .i64 (dim y mo), .int .i64 23, .int .i64 59, .int .i64 59, .bool g, .int .i64 z] := (hV ⟨13, .data⟩ (by simp) rfl).2
      have h14 : u 5 = .pointer (some ⟨w0.heap.size, 0, none⟩) := (hV ⟨14, .data⟩ (by simp) rfl).2
      have HJ := hide hj
      obtain ⟨q0, q1, q2, q3, q4, q5, q6, q7, hR⟩ : DSh v w0.heap.size := hj.2.2.2.2.1 (hV ⟨14, .data⟩ (by simp) rfl).1
      have HW := hide (set8_row hR y mo (dim y mo) 23 59 59 g z)
      have HS8 := hide (nj_set8 hj hR y mo (dim y mo) 23 59 59 g z hm)
      obtain ⟨⟨c0, c1, c2, c3, c4, c5, c6, c7⟩, f0, f1, f2, f3, f4, f5, f6, f7⟩ := dsh_cells hR
      clear hR
      clear hj hun
      rw [h0, h1, h2, h3, h4, h5, h6, h7, h8, h9, h10, h11, h12, h13, h14] at hK ⊢
      go_simp
      exact hK undef _ (nj_up HS8.out (by omega)) HW.out (nv_move (fun _ => HW.out))
  case done =>
    intro u v l hj hV
    exact hQ u v hj.2.1 hj.1 (hV 15 (by decide)) (hV 14 (by decide))
end Go.Proofs.YtaigicdoepdhnabDoor
