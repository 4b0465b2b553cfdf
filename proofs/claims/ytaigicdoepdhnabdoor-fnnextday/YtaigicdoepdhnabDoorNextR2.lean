/-
  The last region of the law on the next day, whatever order it is evaluated in.
-/
import Derived.Test.YtaigicdoepdhnabDoorNextR
namespace Go.Proofs.YtaigicdoepdhnabDoor
open Go.RowKit Go.Joins
set_option linter.unusedVariables false
set_option linter.unusedSimpArgs false
def N2 (w : World) (Lb Nb : Nat) (l0 l1 l2 l3 l4 l5 : Int) (l6 : Bool) (l7 : Int) (n0 n1 n2 n3 n4 n5 : Int) (n6 : Bool) (n7 : Int) (v : World) : Prop :=
  DBox v Lb l0 l1 l2 l3 l4 l5 l6 l7 ∧ DBox v Nb n0 n1 n2 n3 n4 n5 n6 n7 ∧ Below w.heap.size w v ∧ MTab 0 v
theorem n2_go {w v v1 : World} {Lb Nb : Nat} {l0 l1 l2 l3 l4 l5 : Int} {l6 : Bool} {l7 : Int} {n0 n1 n2 n3 n4 n5 : Int} {n6 : Bool} {n7 : Int} (hj : N2 w Lb Nb l0 l1 l2 l3 l4 l5 l6 l7 n0 n1 n2 n3 n4 n5 n6 n7 v) (hb : Below v.heap.size v v1) : N2 w Lb Nb l0 l1 l2 l3 l4 l5 l6 l7 n0 n1 n2 n3 n4 n5 n6 n7 v1 := ⟨dbox_go hj.1 hb, dbox_go hj.2.1 hb, below_go hj.2.2.1 hb, mtab_go hj.2.2.2 hb⟩
def reg20a_val (Lb Nb : Nat) (l0 l1 l2 l3 l4 l5 : Int) (l6 : Bool) (l7 : Int) (n0 n1 n2 n3 n4 n5 : Int) (n6 : Bool) (n7 : Int) (sL : Int) : Nat → Value
  | 0 => .pointer (some ⟨Nb, 0, none⟩)
  | 1 => .int .i64 n0
  | 2 => .bool false
  | 3 => .bool false
  | 4 => .agg #[.int .i64 n0, .int .i64 n1, .int .i64 n2, .int .i64 n3, .int .i64 n4, .int .i64 n5, .bool n6, .int .i64 n7]
  | 5 => .int .i64 (sL + 1)
  | 6 => .agg #[.int .i64 l0, .int .i64 l1, .int .i64 l2, .int .i64 l3, .int .i64 l4, .int .i64 l5, .bool l6, .int .i64 l7]
  | 7 => .int .i64 sL
  | 8 => .int .i64 (sL + 1)
  | 9 => .bool true
  | 10 => .bool true
  | 11 => .bool true
  | _ => undef
set_option maxRecDepth 100000 in
set_option maxHeartbeats 8000000 in
theorem reg20a {s0 s1 s3 s4 s7 s8 s9 s10 s11 s12 s13 s14 s15 s16 s17 s18 s19 s20 s21 s22 s23 s24 s25 s26 s27 s28 s29 s30 s31 s32 s33 s34 s35 s36 s37 s38 s39 s40 s41 s42 s43 s44 s45 s46 s47 s48 s49 s50 s51 s52 s53 s54 s55 s56 s57 s58 s59 s60 s61 s62 s63 s64 s65 s66 s67 s68 s69 s70 s71 s72 s73 s74 s75 s76 s77 s78 s79 s80 s81 s82 s83 s84 s85 s86 s87 s88 s89 s90 s91 s92 s93 s94 s95 s96 s97 s98 s99 s100 s101 s102 s103 s104 : Value} {w w0 : World} {Lb Nb : Nat} {l0 l1 l2 l3 l4 l5 : Int} {l6 : Bool} {l7 : Int} {n0 n1 n2 n3 n4 n5 : Int} {n6 : Bool} {n7 : Int} {sL : Int} {Q : Exit → Act → World → Prop}
    (hny : ¬ 9999 < n0) (F1 : secsB n0 n1 n2 n3 n4 n5 n6 n7 = sL + 1) (F2 : secsB l0 l1 l2 l3 l4 l5 l6 l7 = sL) (hw : IntKind.i64.wrap (sL + 1) = sL + 1) (hJ : N2 w Lb Nb l0 l1 l2 l3 l4 l5 l6 l7 n0 n1 n2 n3 n4 n5 n6 n7 w0)
    (hQ : ∀ (u : Nat → Value) (v : World), Below w.heap.size w v → u 2 = .bool true → Q .normal { tmps := #[s0, s1, u 2, s3, s4, .pointer (some ⟨Lb, 0, none⟩), .pointer (some ⟨Nb, 0, none⟩), s7, s8, s9, s10, s11, s12, s13, s14, s15, s16, s17, s18, s19, s20, s21, s22, s23, s24, s25, s26, s27, s28, s29, s30, s31, s32, s33, s34, s35, s36, s37, s38, s39, s40, s41, s42, s43, s44, s45, s46, s47, s48, s49, s50, s51, s52, s53, s54, s55, s56, s57, s58, s59, s60, s61, s62, s63, s64, s65, s66, s67, s68, s69, s70, s71, s72, s73, s74, s75, s76, s77, s78, s79, s80, s81, s82, s83, s84, s85, s86, s87, s88, s89, s90, s91, s92, s93, s94, s95, s96, s97, s98, s99, s100, s101, s102, s103, s104, u 105, u 106, u 107, u 108, u 109, u 110, u 111, u 112, u 113, u 114, u 115], defers := [] } v) :
    (Code.region 20 #[{ dst := some 105, op := Op.fieldAddr 25 (Operand.tmp 6) 0, type := 0, pos := "laws.go:423", after := #[], guard := none }, { dst := some 106, op := Op.load 2 (Operand.tmp 105), type := 2, pos := "laws.go:423", after := #[{ on := 0, ground := Ground.data }], guard := none }, { dst := some 107, op := Op.binOp BinOp.gtr 2 (Operand.tmp 106) (Operand.const (Value.int IntKind.i64 9999)) 2, type := 4, pos := "laws.go:423", after := #[{ on := 1, ground := Ground.data }], guard := none }, { dst := some 108, op := Op.move (Operand.tmp 107), type := 4, pos := "laws.go:423", after := #[{ on := 2, ground := Ground.data }], guard := none }, { dst := some 109, op := Op.load 25 (Operand.tmp 6), type := 25, pos := "laws.go:423", after := #[{ on := 3, ground := Ground.guard }], guard := some (3, false) }, { dst := some 110, op := Op.call { callee := Callee.value (Operand.func 6), args := #[Operand.tmp 109], argTypes := #[25] }, type := 2, pos := "laws.go:423", after := #[{ on := 4, ground := Ground.data }, { on := 3, ground := Ground.chain }, { on := 3, ground := Ground.guard }], guard := some (3, false) }, { dst := some 111, op := Op.load 25 (Operand.tmp 5), type := 25, pos := "laws.go:423", after := #[{ on := 3, ground := Ground.guard }], guard := some (3, false) }, { dst := some 112, op := Op.call { callee := Callee.value (Operand.func 6), args := #[Operand.tmp 111], argTypes := #[25] }, type := 2, pos := "laws.go:423", after := #[{ on := 6, ground := Ground.data }, { on := 5, ground := Ground.chain }, { on := 3, ground := Ground.guard }], guard := some (3, false) }, { dst := some 113, op := Op.binOp BinOp.add 2 (Operand.tmp 112) (Operand.const (Value.int IntKind.i64 1)) 2, type := 2, pos := "laws.go:423", after := #[{ on := 7, ground := Ground.data }, { on := 3, ground := Ground.guard }], guard := some (3, false) }, { dst := some 114, op := Op.binOp BinOp.eql 2 (Operand.tmp 110) (Operand.tmp 113) 2, type := 4, pos := "laws.go:423", after := #[{ on := 5, ground := Ground.data }, { on := 8, ground := Ground.data }, { on := 3, ground := Ground.guard }], guard := some (3, false) }, { dst := some 115, op := Op.pick (Operand.tmp 108) (Operand.const (Value.bool true)) (Operand.tmp 114), type := 4, pos := "laws.go:423", after := #[{ on := 3, ground := Ground.data }, { on := 9, ground := Ground.data }], guard := none }, { dst := some 2, op := Op.assign (Operand.tmp 115), type := 4, pos := "laws.go:423", after := #[{ on := 10, ground := Ground.data }, { on := 7, ground := Ground.chain }, { on := 0, ground := Ground.phase }, { on := 1, ground := Ground.phase }, { on := 2, ground := Ground.phase }, { on := 3, ground := Ground.phase }, { on := 4, ground := Ground.phase }, { on := 5, ground := Ground.phase }, { on := 6, ground := Ground.phase }, { on := 7, ground := Ground.phase }, { on := 8, ground := Ground.phase }, { on := 9, ground := Ground.phase }, { on := 10, ground := Ground.phase }], guard := none }] true).wp Tryd.prog Q { tmps := #[s0, s1, .bool false, s3, s4, .pointer (some ⟨Lb, 0, none⟩), .pointer (some ⟨Nb, 0, none⟩), s7, s8, s9, s10, s11, s12, s13, s14, s15, s16, s17, s18, s19, s20, s21, s22, s23, s24, s25, s26, s27, s28, s29, s30, s31, s32, s33, s34, s35, s36, s37, s38, s39, s40, s41, s42, s43, s44, s45, s46, s47, s48, s49, s50, s51, s52, s53, s54, s55, s56, s57, s58, s59, s60, s61, s62, s63, s64, s65, s66, s67, s68, s69, s70, s71, s72, s73, s74, s75, s76, s77, s78, s79, s80, s81, s82, s83, s84, s85, s86, s87, s88, s89, s90, s91, s92, s93, s94, s95, s96, s97, s98, s99, s100, s101, s102, s103, s104, undef, undef, undef, undef, undef, undef, undef, undef, undef, undef, undef], defers := [] } w0 := by
  refine wp_region_inv (by kernel_rfl) (by kernel_rfl) (fun u => { tmps := #[s0, s1, u 2, s3, s4, .pointer (some ⟨Lb, 0, none⟩), .pointer (some ⟨Nb, 0, none⟩), s7, s8, s9, s10, s11, s12, s13, s14, s15, s16, s17, s18, s19, s20, s21, s22, s23, s24, s25, s26, s27, s28, s29, s30, s31, s32, s33, s34, s35, s36, s37, s38, s39, s40, s41, s42, s43, s44, s45, s46, s47, s48, s49, s50, s51, s52, s53, s54, s55, s56, s57, s58, s59, s60, s61, s62, s63, s64, s65, s66, s67, s68, s69, s70, s71, s72, s73, s74, s75, s76, s77, s78, s79, s80, s81, s82, s83, s84, s85, s86, s87, s88, s89, s90, s91, s92, s93, s94, s95, s96, s97, s98, s99, s100, s101, s102, s103, s104, u 105, u 106, u 107, u 108, u 109, u 110, u 111, u 112, u 113, u 114, u 115], defers := [] }) (fun k => if k ≤ 10 then k + 105 else if k = 11 then 2 else k + 200)
    (fun k x _ => x = reg20a_val Lb Nb l0 l1 l2 l3 l4 l5 l6 l7 n0 n1 n2 n3 n4 n5 n6 n7 sL k)
    (N2 w Lb Nb l0 l1 l2 l3 l4 l5 l6 l7 n0 n1 n2 n3 n4 n5 n6 n7) (fun k => if k = 2 then .bool false else undef) ⟨hJ.1, hJ.2.1, hJ.2.2.1.drew, hJ.2.2.2⟩ ?hput ?hD ?step ?done
  case hput =>
    intro i o ho u v
    have hi := (Array.getElem?_eq_some_iff.1 ho).1
    have hi' : i < 12 := hi
    clear hi
    rcases (show i = 0 ∨ i = 1 ∨ i = 2 ∨ i = 3 ∨ i = 4 ∨ i = 5 ∨ i = 6 ∨ i = 7 ∨ i = 8 ∨ i = 9 ∨ i = 10 ∨ i = 11 by omega) with e | e | e | e | e | e | e | e | e | e | e | e
    all_goals
      subst e
      obtain rfl := Option.some.inj ho
      rfl
  case hD =>
    intro i k hi hk hne
    have hi' : i < 12 := hi
    have hk' : k < 12 := hk
    try dsimp only
    split <;> split <;> (try split) <;> (try split) <;> omega
  case step =>
    intro i o ho u v hj hV K9 hK
    have hi := (Array.getElem?_eq_some_iff.1 ho).1
    have hi' : i < 12 := hi
    clear hi
    rcases (show i = 0 ∨ i = 1 ∨ i = 2 ∨ i = 3 ∨ i = 4 ∨ i = 5 ∨ i = 6 ∨ i = 7 ∨ i = 8 ∨ i = 9 ∨ i = 10 ∨ i = 11 by omega) with e | e | e | e | e | e | e | e | e | e | e | e
    all_goals
      subst e
      obtain rfl := Option.some.inj ho
      clear ho hi'
      try dsimp only at hV hK ⊢
    · have HJ := hide hj
      clear hj
      go_simp
      exact hK _ _ HJ.out rfl (fun _ _ h => h)
    · have h0 : u 105 = .pointer (some ⟨Nb, 0, none⟩) := hV ⟨0, .data⟩ (by simp) rfl
      have HJ := hide hj
      obtain ⟨k0, k1, k2, k3, k4, k5, k6, k7, k8⟩ := hj.2.1
      clear hj
      rw [h0] at hK ⊢
      go_simp
      exact hK _ _ HJ.out rfl (fun _ _ h => h)
    · have h1 : u 106 = .int .i64 n0 := hV ⟨1, .data⟩ (by simp) rfl
      have HJ := hide hj
      clear hj
      rw [h1] at hK ⊢
      go_simp
      exact hK _ _ HJ.out rfl (fun _ _ h => h)
    · have h2 : u 107 = .bool false := hV ⟨2, .data⟩ (by simp) rfl
      have HJ := hide hj
      clear hj
      rw [h2] at hK ⊢
      go_simp
      exact hK _ _ HJ.out rfl (fun _ _ h => h)
    · have h3 : u 108 = .bool false := hV ⟨3, .guard⟩ (by simp) rfl
      have HJ := hide hj
      obtain ⟨k0, k1, k2, k3, k4, k5, k6, k7, k8⟩ := hj.2.1
      clear hj
      rw [h3] at hK ⊢
      go_simp
      exact hK _ _ HJ.out rfl (fun _ _ h => h)
    · have h3 : u 108 = .bool false := hV ⟨3, .chain⟩ (by simp) rfl
      have h4 : u 109 = .agg #[.int .i64 n0, .int .i64 n1, .int .i64 n2, .int .i64 n3, .int .i64 n4, .int .i64 n5, .bool n6, .int .i64 n7] := hV ⟨4, .data⟩ (by simp) rfl
      have HJ := hide hj
      clear hj
      rw [h3, h4] at hK ⊢
      go_simp
      refine (i_seconds n0 n1 n2 n3 n4 n5 n6 n7 _ HJ.out.2.2.2).mono ?_
      rintro e v1 ⟨rfl, hb⟩
      rw [F1]
      exact hK _ _ (n2_go HJ.out hb) rfl (fun _ _ h => h)
    · have h3 : u 108 = .bool false := hV ⟨3, .guard⟩ (by simp) rfl
      have HJ := hide hj
      obtain ⟨k0, k1, k2, k3, k4, k5, k6, k7, k8⟩ := hj.1
      clear hj
      rw [h3] at hK ⊢
      go_simp
      exact hK _ _ HJ.out rfl (fun _ _ h => h)
    · have h3 : u 108 = .bool false := hV ⟨3, .guard⟩ (by simp) rfl
      have h5 : u 110 = .int .i64 (sL + 1) := hV ⟨5, .chain⟩ (by simp) rfl
      have h6 : u 111 = .agg #[.int .i64 l0, .int .i64 l1, .int .i64 l2, .int .i64 l3, .int .i64 l4, .int .i64 l5, .bool l6, .int .i64 l7] := hV ⟨6, .data⟩ (by simp) rfl
      have HJ := hide hj
      clear hj
      rw [h3, h5, h6] at hK ⊢
      go_simp
      refine (i_seconds l0 l1 l2 l3 l4 l5 l6 l7 _ HJ.out.2.2.2).mono ?_
      rintro e v1 ⟨rfl, hb⟩
      rw [F2]
      exact hK _ _ (n2_go HJ.out hb) rfl (fun _ _ h => h)
    · have h3 : u 108 = .bool false := hV ⟨3, .guard⟩ (by simp) rfl
      have h7 : u 112 = .int .i64 sL := hV ⟨7, .data⟩ (by simp) rfl
      have HJ := hide hj
      clear hj
      rw [h3, h7] at hK ⊢
      go_simp
      exact hK _ _ HJ.out rfl (fun _ _ h => h)
    · have h3 : u 108 = .bool false := hV ⟨3, .guard⟩ (by simp) rfl
      have h5 : u 110 = .int .i64 (sL + 1) := hV ⟨5, .data⟩ (by simp) rfl
      have h8 : u 113 = .int .i64 (sL + 1) := hV ⟨8, .data⟩ (by simp) rfl
      have HJ := hide hj
      clear hj
      rw [h3, h5, h8] at hK ⊢
      go_simp
      exact hK _ _ HJ.out rfl (fun _ _ h => h)
    · have h3 : u 108 = .bool false := hV ⟨3, .data⟩ (by simp) rfl
      have h9 : u 114 = .bool true := hV ⟨9, .data⟩ (by simp) rfl
      have HJ := hide hj
      clear hj
      rw [h3, h9] at hK ⊢
      go_simp
      exact hK _ _ HJ.out rfl (fun _ _ h => h)
    · have h0 : u 105 = .pointer (some ⟨Nb, 0, none⟩) := hV ⟨0, .phase⟩ (by simp) rfl
      have h1 : u 106 = .int .i64 n0 := hV ⟨1, .phase⟩ (by simp) rfl
      have h2 : u 107 = .bool false := hV ⟨2, .phase⟩ (by simp) rfl
      have h3 : u 108 = .bool false := hV ⟨3, .phase⟩ (by simp) rfl
      have h4 : u 109 = .agg #[.int .i64 n0, .int .i64 n1, .int .i64 n2, .int .i64 n3, .int .i64 n4, .int .i64 n5, .bool n6, .int .i64 n7] := hV ⟨4, .phase⟩ (by simp) rfl
      have h5 : u 110 = .int .i64 (sL + 1) := hV ⟨5, .phase⟩ (by simp) rfl
      have h6 : u 111 = .agg #[.int .i64 l0, .int .i64 l1, .int .i64 l2, .int .i64 l3, .int .i64 l4, .int .i64 l5, .bool l6, .int .i64 l7] := hV ⟨6, .phase⟩ (by simp) rfl
      have h7 : u 112 = .int .i64 sL := hV ⟨7, .chain⟩ (by simp) rfl
      have h8 : u 113 = .int .i64 (sL + 1) := hV ⟨8, .phase⟩ (by simp) rfl
      have h9 : u 114 = .bool true := hV ⟨9, .phase⟩ (by simp) rfl
      have h10 : u 115 = .bool true := hV ⟨10, .data⟩ (by simp) rfl
      have HJ := hide hj
      clear hj
      rw [h0, h1, h2, h3, h4, h5, h6, h7, h8, h9, h10] at hK ⊢
      go_simp
      exact hK _ _ HJ.out rfl (fun _ _ h => h)
  case done =>
    intro u v hj hV
    exact hQ u v hj.2.2.1 (hV 11 (by decide))
def reg20b_val (Lb Nb : Nat) (l0 l1 l2 l3 l4 l5 : Int) (l6 : Bool) (l7 : Int) (n0 n1 n2 n3 n4 n5 : Int) (n6 : Bool) (n7 : Int) (sL : Int) : Nat → Value
  | 0 => .pointer (some ⟨Nb, 0, none⟩)
  | 1 => .int .i64 n0
  | 2 => .bool true
  | 3 => .bool true
  | 4 => undef
  | 5 => undef
  | 6 => undef
  | 7 => undef
  | 8 => undef
  | 9 => undef
  | 10 => .bool true
  | 11 => .bool true
  | _ => undef
set_option maxRecDepth 100000 in
set_option maxHeartbeats 8000000 in
theorem reg20b {s0 s1 s3 s4 s7 s8 s9 s10 s11 s12 s13 s14 s15 s16 s17 s18 s19 s20 s21 s22 s23 s24 s25 s26 s27 s28 s29 s30 s31 s32 s33 s34 s35 s36 s37 s38 s39 s40 s41 s42 s43 s44 s45 s46 s47 s48 s49 s50 s51 s52 s53 s54 s55 s56 s57 s58 s59 s60 s61 s62 s63 s64 s65 s66 s67 s68 s69 s70 s71 s72 s73 s74 s75 s76 s77 s78 s79 s80 s81 s82 s83 s84 s85 s86 s87 s88 s89 s90 s91 s92 s93 s94 s95 s96 s97 s98 s99 s100 s101 s102 s103 s104 : Value} {w w0 : World} {Lb Nb : Nat} {l0 l1 l2 l3 l4 l5 : Int} {l6 : Bool} {l7 : Int} {n0 n1 n2 n3 n4 n5 : Int} {n6 : Bool} {n7 : Int} {sL : Int} {Q : Exit → Act → World → Prop}
    (hny : 9999 < n0) (hJ : N2 w Lb Nb l0 l1 l2 l3 l4 l5 l6 l7 n0 n1 n2 n3 n4 n5 n6 n7 w0)
    (hQ : ∀ (u : Nat → Value) (v : World), Below w.heap.size w v → u 2 = .bool true → Q .normal { tmps := #[s0, s1, u 2, s3, s4, .pointer (some ⟨Lb, 0, none⟩), .pointer (some ⟨Nb, 0, none⟩), s7, s8, s9, s10, s11, s12, s13, s14, s15, s16, s17, s18, s19, s20, s21, s22, s23, s24, s25, s26, s27, s28, s29, s30, s31, s32, s33, s34, s35, s36, s37, s38, s39, s40, s41, s42, s43, s44, s45, s46, s47, s48, s49, s50, s51, s52, s53, s54, s55, s56, s57, s58, s59, s60, s61, s62, s63, s64, s65, s66, s67, s68, s69, s70, s71, s72, s73, s74, s75, s76, s77, s78, s79, s80, s81, s82, s83, s84, s85, s86, s87, s88, s89, s90, s91, s92, s93, s94, s95, s96, s97, s98, s99, s100, s101, s102, s103, s104, u 105, u 106, u 107, u 108, u 109, u 110, u 111, u 112, u 113, u 114, u 115], defers := [] } v) :
    (Code.region 20 #[{ dst := some 105, op := Op.fieldAddr 25 (Operand.tmp 6) 0, type := 0, pos := "laws.go:423", after := #[], guard := none }, { dst := some 106, op := Op.load 2 (Operand.tmp 105), type := 2, pos := "laws.go:423", after := #[{ on := 0, ground := Ground.data }], guard := none }, { dst := some 107, op := Op.binOp BinOp.gtr 2 (Operand.tmp 106) (Operand.const (Value.int IntKind.i64 9999)) 2, type := 4, pos := "laws.go:423", after := #[{ on := 1, ground := Ground.data }], guard := none }, { dst := some 108, op := Op.move (Operand.tmp 107), type := 4, pos := "laws.go:423", after := #[{ on := 2, ground := Ground.data }], guard := none }, { dst := some 109, op := Op.load 25 (Operand.tmp 6), type := 25, pos := "laws.go:423", after := #[{ on := 3, ground := Ground.guard }], guard := some (3, false) }, { dst := some 110, op := Op.call { callee := Callee.value (Operand.func 6), args := #[Operand.tmp 109], argTypes := #[25] }, type := 2, pos := "laws.go:423", after := #[{ on := 4, ground := Ground.data }, { on := 3, ground := Ground.chain }, { on := 3, ground := Ground.guard }], guard := some (3, false) }, { dst := some 111, op := Op.load 25 (Operand.tmp 5), type := 25, pos := "laws.go:423", after := #[{ on := 3, ground := Ground.guard }], guard := some (3, false) }, { dst := some 112, op := Op.call { callee := Callee.value (Operand.func 6), args := #[Operand.tmp 111], argTypes := #[25] }, type := 2, pos := "laws.go:423", after := #[{ on := 6, ground := Ground.data }, { on := 5, ground := Ground.chain }, { on := 3, ground := Ground.guard }], guard := some (3, false) }, { dst := some 113, op := Op.binOp BinOp.add 2 (Operand.tmp 112) (Operand.const (Value.int IntKind.i64 1)) 2, type := 2, pos := "laws.go:423", after := #[{ on := 7, ground := Ground.data }, { on := 3, ground := Ground.guard }], guard := some (3, false) }, { dst := some 114, op := Op.binOp BinOp.eql 2 (Operand.tmp 110) (Operand.tmp 113) 2, type := 4, pos := "laws.go:423", after := #[{ on := 5, ground := Ground.data }, { on := 8, ground := Ground.data }, { on := 3, ground := Ground.guard }], guard := some (3, false) }, { dst := some 115, op := Op.pick (Operand.tmp 108) (Operand.const (Value.bool true)) (Operand.tmp 114), type := 4, pos := "laws.go:423", after := #[{ on := 3, ground := Ground.data }, { on := 9, ground := Ground.data }], guard := none }, { dst := some 2, op := Op.assign (Operand.tmp 115), type := 4, pos := "laws.go:423", after := #[{ on := 10, ground := Ground.data }, { on := 7, ground := Ground.chain }, { on := 0, ground := Ground.phase }, { on := 1, ground := Ground.phase }, { on := 2, ground := Ground.phase }, { on := 3, ground := Ground.phase }, { on := 4, ground := Ground.phase }, { on := 5, ground := Ground.phase }, { on := 6, ground := Ground.phase }, { on := 7, ground := Ground.phase }, { on := 8, ground := Ground.phase }, { on := 9, ground := Ground.phase }, { on := 10, ground := Ground.phase }], guard := none }] true).wp Tryd.prog Q { tmps := #[s0, s1, .bool false, s3, s4, .pointer (some ⟨Lb, 0, none⟩), .pointer (some ⟨Nb, 0, none⟩), s7, s8, s9, s10, s11, s12, s13, s14, s15, s16, s17, s18, s19, s20, s21, s22, s23, s24, s25, s26, s27, s28, s29, s30, s31, s32, s33, s34, s35, s36, s37, s38, s39, s40, s41, s42, s43, s44, s45, s46, s47, s48, s49, s50, s51, s52, s53, s54, s55, s56, s57, s58, s59, s60, s61, s62, s63, s64, s65, s66, s67, s68, s69, s70, s71, s72, s73, s74, s75, s76, s77, s78, s79, s80, s81, s82, s83, s84, s85, s86, s87, s88, s89, s90, s91, s92, s93, s94, s95, s96, s97, s98, s99, s100, s101, s102, s103, s104, undef, undef, undef, undef, undef, undef, undef, undef, undef, undef, undef], defers := [] } w0 := by
  refine wp_region_inv (by kernel_rfl) (by kernel_rfl) (fun u => { tmps := #[s0, s1, u 2, s3, s4, .pointer (some ⟨Lb, 0, none⟩), .pointer (some ⟨Nb, 0, none⟩), s7, s8, s9, s10, s11, s12, s13, s14, s15, s16, s17, s18, s19, s20, s21, s22, s23, s24, s25, s26, s27, s28, s29, s30, s31, s32, s33, s34, s35, s36, s37, s38, s39, s40, s41, s42, s43, s44, s45, s46, s47, s48, s49, s50, s51, s52, s53, s54, s55, s56, s57, s58, s59, s60, s61, s62, s63, s64, s65, s66, s67, s68, s69, s70, s71, s72, s73, s74, s75, s76, s77, s78, s79, s80, s81, s82, s83, s84, s85, s86, s87, s88, s89, s90, s91, s92, s93, s94, s95, s96, s97, s98, s99, s100, s101, s102, s103, s104, u 105, u 106, u 107, u 108, u 109, u 110, u 111, u 112, u 113, u 114, u 115], defers := [] }) (fun k => if k ≤ 10 then k + 105 else if k = 11 then 2 else k + 200)
    (fun k x _ => x = reg20b_val Lb Nb l0 l1 l2 l3 l4 l5 l6 l7 n0 n1 n2 n3 n4 n5 n6 n7 sL k)
    (N2 w Lb Nb l0 l1 l2 l3 l4 l5 l6 l7 n0 n1 n2 n3 n4 n5 n6 n7) (fun k => if k = 2 then .bool false else undef) ⟨hJ.1, hJ.2.1, hJ.2.2.1.drew, hJ.2.2.2⟩ ?hput ?hD ?step ?done
  case hput =>
    intro i o ho u v
    have hi := (Array.getElem?_eq_some_iff.1 ho).1
    have hi' : i < 12 := hi
    clear hi
    rcases (show i = 0 ∨ i = 1 ∨ i = 2 ∨ i = 3 ∨ i = 4 ∨ i = 5 ∨ i = 6 ∨ i = 7 ∨ i = 8 ∨ i = 9 ∨ i = 10 ∨ i = 11 by omega) with e | e | e | e | e | e | e | e | e | e | e | e
    all_goals
      subst e
      obtain rfl := Option.some.inj ho
      rfl
  case hD =>
    intro i k hi hk hne
    have hi' : i < 12 := hi
    have hk' : k < 12 := hk
    try dsimp only
    split <;> split <;> (try split) <;> (try split) <;> omega
  case step =>
    intro i o ho u v hj hV K9 hK
    have hi := (Array.getElem?_eq_some_iff.1 ho).1
    have hi' : i < 12 := hi
    clear hi
    rcases (show i = 0 ∨ i = 1 ∨ i = 2 ∨ i = 3 ∨ i = 4 ∨ i = 5 ∨ i = 6 ∨ i = 7 ∨ i = 8 ∨ i = 9 ∨ i = 10 ∨ i = 11 by omega) with e | e | e | e | e | e | e | e | e | e | e | e
    all_goals
      subst e
      obtain rfl := Option.some.inj ho
      clear ho hi'
      try dsimp only at hV hK ⊢
    · have HJ := hide hj
      clear hj
      go_simp
      exact hK _ _ HJ.out rfl (fun _ _ h => h)
    · have h0 : u 105 = .pointer (some ⟨Nb, 0, none⟩) := hV ⟨0, .data⟩ (by simp) rfl
      have HJ := hide hj
      obtain ⟨k0, k1, k2, k3, k4, k5, k6, k7, k8⟩ := hj.2.1
      clear hj
      rw [h0] at hK ⊢
      go_simp
      exact hK _ _ HJ.out rfl (fun _ _ h => h)
    · have h1 : u 106 = .int .i64 n0 := hV ⟨1, .data⟩ (by simp) rfl
      have HJ := hide hj
      clear hj
      rw [h1] at hK ⊢
      go_simp
      exact hK _ _ HJ.out rfl (fun _ _ h => h)
    · have h2 : u 107 = .bool true := hV ⟨2, .data⟩ (by simp) rfl
      have HJ := hide hj
      clear hj
      rw [h2] at hK ⊢
      go_simp
      exact hK _ _ HJ.out rfl (fun _ _ h => h)
    · have h3 : u 108 = .bool true := hV ⟨3, .guard⟩ (by simp) rfl
      have HJ := hide hj
      clear hj
      rw [h3] at hK ⊢
      go_simp
      exact hK _ _ HJ.out rfl (fun _ _ h => h)
    · have h3 : u 108 = .bool true := hV ⟨3, .chain⟩ (by simp) rfl
      have h4 : u 109 = undef := hV ⟨4, .data⟩ (by simp) rfl
      have HJ := hide hj
      clear hj
      rw [h3, h4] at hK ⊢
      go_simp
      exact hK _ _ HJ.out rfl (fun _ _ h => h)
    · have h3 : u 108 = .bool true := hV ⟨3, .guard⟩ (by simp) rfl
      have HJ := hide hj
      clear hj
      rw [h3] at hK ⊢
      go_simp
      exact hK _ _ HJ.out rfl (fun _ _ h => h)
    · have h3 : u 108 = .bool true := hV ⟨3, .guard⟩ (by simp) rfl
      have h5 : u 110 = undef := hV ⟨5, .chain⟩ (by simp) rfl
      have h6 : u 111 = undef := hV ⟨6, .data⟩ (by simp) rfl
      have HJ := hide hj
      clear hj
      rw [h3, h5, h6] at hK ⊢
      go_simp
      exact hK _ _ HJ.out rfl (fun _ _ h => h)
    · have h3 : u 108 = .bool true := hV ⟨3, .guard⟩ (by simp) rfl
      have h7 : u 112 = undef := hV ⟨7, .data⟩ (by simp) rfl
      have HJ := hide hj
      clear hj
      rw [h3, h7] at hK ⊢
      go_simp
      exact hK _ _ HJ.out rfl (fun _ _ h => h)
    · have h3 : u 108 = .bool true := hV ⟨3, .guard⟩ (by simp) rfl
      have h5 : u 110 = undef := hV ⟨5, .data⟩ (by simp) rfl
      have h8 : u 113 = undef := hV ⟨8, .data⟩ (by simp) rfl
      have HJ := hide hj
      clear hj
      rw [h3, h5, h8] at hK ⊢
      go_simp
      exact hK _ _ HJ.out rfl (fun _ _ h => h)
    · have h3 : u 108 = .bool true := hV ⟨3, .data⟩ (by simp) rfl
      have h9 : u 114 = undef := hV ⟨9, .data⟩ (by simp) rfl
      have HJ := hide hj
      clear hj
      rw [h3, h9] at hK ⊢
      go_simp
      exact hK _ _ HJ.out rfl (fun _ _ h => h)
    · have h0 : u 105 = .pointer (some ⟨Nb, 0, none⟩) := hV ⟨0, .phase⟩ (by simp) rfl
      have h1 : u 106 = .int .i64 n0 := hV ⟨1, .phase⟩ (by simp) rfl
      have h2 : u 107 = .bool true := hV ⟨2, .phase⟩ (by simp) rfl
      have h3 : u 108 = .bool true := hV ⟨3, .phase⟩ (by simp) rfl
      have h4 : u 109 = undef := hV ⟨4, .phase⟩ (by simp) rfl
      have h5 : u 110 = undef := hV ⟨5, .phase⟩ (by simp) rfl
      have h6 : u 111 = undef := hV ⟨6, .phase⟩ (by simp) rfl
      have h7 : u 112 = undef := hV ⟨7, .chain⟩ (by simp) rfl
      have h8 : u 113 = undef := hV ⟨8, .phase⟩ (by simp) rfl
      have h9 : u 114 = undef := hV ⟨9, .phase⟩ (by simp) rfl
      have h10 : u 115 = .bool true := hV ⟨10, .data⟩ (by simp) rfl
      have HJ := hide hj
      clear hj
      rw [h0, h1, h2, h3, h4, h5, h6, h7, h8, h9, h10] at hK ⊢
      go_simp
      exact hK _ _ HJ.out rfl (fun _ _ h => h)
  case done =>
    intro u v hj hV
    exact hQ u v hj.2.2.1 (hV 11 (by decide))
end Go.Proofs.YtaigicdoepdhnabDoor
