/-
  The last region of the law on dates in another zone, whatever order it is evaluated in.
-/
import Derived.Test.YtaigicdoepdhnacDoorDrawSh
import Derived.Test.YtaigicdoepdhnacDoorCmpDate
import Derived.Test.YtaigicdoepdhnacDoorShI
import Derived.Test.YtaigicdoepdhnacDoorShS
namespace Go.Proofs.YtaigicdoepdhnacDoor
open Go.RowKit Go.Joins
set_option linter.unusedVariables false
set_option linter.unusedSimpArgs false

def RJ (w : World) (b Dd E K : Nat) (y mo d h mi s z : Int) (y' m' d' h' n' s' zone : Int) (v : World) : Prop :=
  DBox v Dd y mo d h mi s true z ∧ DBox v E y' m' d' h' n' s' true zone ∧ DBox v K y mo d h mi s true z ∧ Below b w v ∧ MTab 0 v
theorem rj_go {w v v1 : World} {b Dd E K : Nat} {y mo d h mi s z : Int} {y' m' d' h' n' s' zone : Int} (hj : RJ w b Dd E K y mo d h mi s z y' m' d' h' n' s' zone v) (hb : Below v.heap.size v v1) (hbs : b ≤ v.heap.size) : RJ w b Dd E K y mo d h mi s z y' m' d' h' n' s' zone v1 :=
  ⟨dbox_go hj.1 hb, dbox_go hj.2.1 hb, dbox_go hj.2.2.1 hb, hj.2.2.2.1.trans (hb.mono hbs), mtab_go hj.2.2.2.2 hb⟩
def val9 (E : Nat) (y mo d h mi s z : Int) (y' m' d' h' n' s' zone sec : Int) : Nat → Value
  | 0 => .agg #[.int .i64 y', .int .i64 m', .int .i64 d', .int .i64 h', .int .i64 n', .int .i64 s', .bool true, .int .i64 zone]
  | 1 => .bool true
  | 2 => .bool true
  | 3 => .pointer (some ⟨E, 7, none⟩)
  | 4 => .int .i64 zone
  | 5 => .int .i64 zone
  | 6 => .bool true
  | 7 => .bool true
  | 8 => .bool true
  | 9 => .agg #[.int .i64 y', .int .i64 m', .int .i64 d', .int .i64 h', .int .i64 n', .int .i64 s', .bool true, .int .i64 zone]
  | 10 => .int .i64 sec
  | 11 => .agg #[.int .i64 y, .int .i64 mo, .int .i64 d, .int .i64 h, .int .i64 mi, .int .i64 s, .bool true, .int .i64 z]
  | 12 => .int .i64 sec
  | 13 => .bool true
  | 14 => .bool true
  | 15 => .bool true
  | 16 => .agg #[.int .i64 y', .int .i64 m', .int .i64 d', .int .i64 h', .int .i64 n', .int .i64 s', .bool true, .int .i64 zone]
  | 17 => .agg #[.int .i64 y, .int .i64 mo, .int .i64 d, .int .i64 h, .int .i64 mi, .int .i64 s, .bool true, .int .i64 z]
  | 18 => .int .i64 0
  | 19 => .bool true
  | 20 => .bool true
  | 21 => .bool true
  | 22 => .bool true
  | 23 => .bool true
  | 24 => .bool true
  | 25 => .agg #[.int .i64 y, .int .i64 mo, .int .i64 d, .int .i64 h, .int .i64 mi, .int .i64 s, .bool true, .int .i64 z]
  | 26 => .agg #[.int .i64 y, .int .i64 mo, .int .i64 d, .int .i64 h, .int .i64 mi, .int .i64 s, .bool true, .int .i64 z]
  | 27 => .bool true
  | 28 => .bool true
  | 29 => .bool true
  | _ => undef
set_option maxRecDepth 100000 in
set_option maxHeartbeats 8000000 in
theorem reg9 {s0 s1 s6 s7 s8 s11 s12 s13 s14 s15 s16 s17 s18 s19 s20 s21 s22 s23 s24 s25 s26 s27 s28 s29 s30 s31 s32 s33 s34 s35 s36 s37 s38 s39 s40 s41 s42 s43 s44 s45 s46 s47 s48 s49 s50 s51 s52 s53 s54 s55 s56 : Value} {w w0 : World} {Dd E K : Nat} {y mo d h mi s z : Int} {y' m' d' h' n' s' zone sec : Int} {Q : Exit → Act → World → Prop}
    (F1 : dateB y' m' d' h' n' s' true zone = true) (F2 : secsB y' m' d' h' n' s' true zone = sec) (F3 : secsB y mo d h mi s true z = sec) (F4 : cmpDB y' m' d' h' n' s' true zone y mo d h mi s true z = 0)
    (hJ : RJ w w.heap.size Dd E K y mo d h mi s z y' m' d' h' n' s' zone w0)
    (hQ : ∀ (u : Nat → Value) (v : World), Below w.heap.size w v → u 2 = .bool true → Q .normal { tmps := #[s0, s1, u 2, .pointer (some ⟨Dd, 0, none⟩), .int .i64 zone, .pointer (some ⟨E, 0, none⟩), s6, s7, s8, .pointer (some ⟨K, 0, none⟩), .bool true, s11, s12, s13, s14, s15, s16, s17, s18, s19, s20, s21, s22, s23, s24, s25, s26, s27, s28, s29, s30, s31, s32, s33, s34, s35, s36, s37, s38, s39, s40, s41, s42, s43, s44, s45, s46, s47, s48, s49, s50, s51, s52, s53, s54, s55, s56, u 57, u 58, u 59, u 60, u 61, u 62, u 63, u 64, u 65, u 66, u 67, u 68, u 69, u 70, u 71, u 72, u 73, u 74, u 75, u 76, u 77, u 78, u 79, u 80, u 81, u 82, u 83, u 84, u 85], defers := [] } v) :
    (Code.region 9 #[{ dst := some 57, op := Op.load 25 (Operand.tmp 5), type := 25, pos := "laws.go:454", after := #[], guard := none }, { dst := some 58, op := Op.call { callee := Callee.value (Operand.func 8), args := #[Operand.tmp 57], argTypes := #[25] }, type := 4, pos := "laws.go:454", after := #[{ on := 0, ground := Ground.data }], guard := none }, { dst := some 59, op := Op.move (Operand.tmp 58), type := 4, pos := "laws.go:454", after := #[{ on := 1, ground := Ground.data }, { on := 1, ground := Ground.chain }], guard := none }, { dst := some 60, op := Op.fieldAddr 25 (Operand.tmp 5) 7, type := 0, pos := "laws.go:454", after := #[{ on := 2, ground := Ground.guard }], guard := some (2, true) }, { dst := some 61, op := Op.load 2 (Operand.tmp 60), type := 2, pos := "laws.go:454", after := #[{ on := 3, ground := Ground.data }, { on := 2, ground := Ground.guard }], guard := some (2, true) }, { dst := some 62, op := Op.move (Operand.tmp 4), type := 2, pos := "laws.go:454", after := #[{ on := 2, ground := Ground.guard }], guard := some (2, true) }, { dst := some 63, op := Op.binOp BinOp.eql 2 (Operand.tmp 61) (Operand.tmp 62) 2, type := 4, pos := "laws.go:454", after := #[{ on := 4, ground := Ground.data }, { on := 5, ground := Ground.data }, { on := 2, ground := Ground.guard }], guard := some (2, true) }, { dst := some 64, op := Op.pick (Operand.tmp 59) (Operand.tmp 63) (Operand.const (Value.bool false)), type := 4, pos := "laws.go:454", after := #[{ on := 2, ground := Ground.data }, { on := 6, ground := Ground.data }], guard := none }, { dst := some 65, op := Op.move (Operand.tmp 64), type := 4, pos := "laws.go:454", after := #[{ on := 7, ground := Ground.data }, { on := 2, ground := Ground.chain }], guard := none }, { dst := some 66, op := Op.load 25 (Operand.tmp 5), type := 25, pos := "laws.go:454", after := #[{ on := 8, ground := Ground.guard }], guard := some (8, true) }, { dst := some 67, op := Op.call { callee := Callee.value (Operand.func 9), args := #[Operand.tmp 66], argTypes := #[25] }, type := 2, pos := "laws.go:454", after := #[{ on := 9, ground := Ground.data }, { on := 8, ground := Ground.chain }, { on := 8, ground := Ground.guard }], guard := some (8, true) }, { dst := some 68, op := Op.load 25 (Operand.tmp 3), type := 25, pos := "laws.go:454", after := #[{ on := 8, ground := Ground.guard }], guard := some (8, true) }, { dst := some 69, op := Op.call { callee := Callee.value (Operand.func 9), args := #[Operand.tmp 68], argTypes := #[25] }, type := 2, pos := "laws.go:454", after := #[{ on := 11, ground := Ground.data }, { on := 10, ground := Ground.chain }, { on := 8, ground := Ground.guard }], guard := some (8, true) }, { dst := some 70, op := Op.binOp BinOp.eql 2 (Operand.tmp 67) (Operand.tmp 69) 2, type := 4, pos := "laws.go:454", after := #[{ on := 10, ground := Ground.data }, { on := 12, ground := Ground.data }, { on := 8, ground := Ground.guard }], guard := some (8, true) }, { dst := some 71, op := Op.pick (Operand.tmp 65) (Operand.tmp 70) (Operand.const (Value.bool false)), type := 4, pos := "laws.go:454", after := #[{ on := 8, ground := Ground.data }, { on := 13, ground := Ground.data }], guard := none }, { dst := some 72, op := Op.move (Operand.tmp 71), type := 4, pos := "laws.go:454", after := #[{ on := 14, ground := Ground.data }, { on := 12, ground := Ground.chain }], guard := none }, { dst := some 73, op := Op.load 25 (Operand.tmp 5), type := 25, pos := "laws.go:454", after := #[{ on := 15, ground := Ground.guard }], guard := some (15, true) }, { dst := some 74, op := Op.load 25 (Operand.tmp 3), type := 25, pos := "laws.go:454", after := #[{ on := 15, ground := Ground.guard }], guard := some (15, true) }, { dst := some 75, op := Op.call { callee := Callee.value (Operand.func 10), args := #[Operand.tmp 73, Operand.tmp 74], argTypes := #[25, 25] }, type := 2, pos := "laws.go:454", after := #[{ on := 16, ground := Ground.data }, { on := 17, ground := Ground.data }, { on := 15, ground := Ground.chain }, { on := 15, ground := Ground.guard }], guard := some (15, true) }, { dst := some 76, op := Op.binOp BinOp.eql 2 (Operand.tmp 75) (Operand.const (Value.int IntKind.i64 0)) 2, type := 4, pos := "laws.go:454", after := #[{ on := 18, ground := Ground.data }, { on := 15, ground := Ground.guard }], guard := some (15, true) }, { dst := some 77, op := Op.pick (Operand.tmp 72) (Operand.tmp 76) (Operand.const (Value.bool false)), type := 4, pos := "laws.go:454", after := #[{ on := 15, ground := Ground.data }, { on := 19, ground := Ground.data }], guard := none }, { dst := some 78, op := Op.move (Operand.tmp 77), type := 4, pos := "laws.go:454", after := #[{ on := 20, ground := Ground.data }, { on := 18, ground := Ground.chain }], guard := none }, { dst := some 79, op := Op.move (Operand.tmp 10), type := 4, pos := "laws.go:454", after := #[{ on := 21, ground := Ground.guard }], guard := some (21, true) }, { dst := some 80, op := Op.pick (Operand.tmp 78) (Operand.tmp 79) (Operand.const (Value.bool false)), type := 4, pos := "laws.go:454", after := #[{ on := 21, ground := Ground.data }, { on := 22, ground := Ground.data }], guard := none }, { dst := some 81, op := Op.move (Operand.tmp 80), type := 4, pos := "laws.go:454", after := #[{ on := 23, ground := Ground.data }, { on := 21, ground := Ground.chain }], guard := none }, { dst := some 82, op := Op.load 25 (Operand.tmp 9), type := 25, pos := "laws.go:454", after := #[{ on := 24, ground := Ground.guard }], guard := some (24, true) }, { dst := some 83, op := Op.load 25 (Operand.tmp 3), type := 25, pos := "laws.go:454", after := #[{ on := 24, ground := Ground.guard }], guard := some (24, true) }, { dst := some 84, op := Op.binOp BinOp.eql 25 (Operand.tmp 82) (Operand.tmp 83) 25, type := 4, pos := "laws.go:454", after := #[{ on := 25, ground := Ground.data }, { on := 26, ground := Ground.data }, { on := 24, ground := Ground.guard }], guard := some (24, true) }, { dst := some 85, op := Op.pick (Operand.tmp 81) (Operand.tmp 84) (Operand.const (Value.bool false)), type := 4, pos := "laws.go:454", after := #[{ on := 24, ground := Ground.data }, { on := 27, ground := Ground.data }], guard := none }, { dst := some 2, op := Op.assign (Operand.tmp 85), type := 4, pos := "laws.go:454", after := #[{ on := 28, ground := Ground.data }, { on := 24, ground := Ground.chain }, { on := 0, ground := Ground.phase }, { on := 1, ground := Ground.phase }, { on := 2, ground := Ground.phase }, { on := 3, ground := Ground.phase }, { on := 4, ground := Ground.phase }, { on := 5, ground := Ground.phase }, { on := 6, ground := Ground.phase }, { on := 7, ground := Ground.phase }, { on := 8, ground := Ground.phase }, { on := 9, ground := Ground.phase }, { on := 10, ground := Ground.phase }, { on := 11, ground := Ground.phase }, { on := 12, ground := Ground.phase }, { on := 13, ground := Ground.phase }, { on := 14, ground := Ground.phase }, { on := 15, ground := Ground.phase }, { on := 16, ground := Ground.phase }, { on := 17, ground := Ground.phase }, { on := 18, ground := Ground.phase }, { on := 19, ground := Ground.phase }, { on := 20, ground := Ground.phase }, { on := 21, ground := Ground.phase }, { on := 22, ground := Ground.phase }, { on := 23, ground := Ground.phase }, { on := 24, ground := Ground.phase }, { on := 25, ground := Ground.phase }, { on := 26, ground := Ground.phase }, { on := 27, ground := Ground.phase }, { on := 28, ground := Ground.phase }], guard := none }] true).wp Tryd.prog Q { tmps := #[s0, s1, .bool false, .pointer (some ⟨Dd, 0, none⟩), .int .i64 zone, .pointer (some ⟨E, 0, none⟩), s6, s7, s8, .pointer (some ⟨K, 0, none⟩), .bool true, s11, s12, s13, s14, s15, s16, s17, s18, s19, s20, s21, s22, s23, s24, s25, s26, s27, s28, s29, s30, s31, s32, s33, s34, s35, s36, s37, s38, s39, s40, s41, s42, s43, s44, s45, s46, s47, s48, s49, s50, s51, s52, s53, s54, s55, s56, undef, undef, undef, undef, undef, undef, undef, undef, undef, undef, undef, undef, undef, undef, undef, undef, undef, undef, undef, undef, undef, undef, undef, undef, undef, undef, undef, undef, undef], defers := [] } w0 := by
  refine wp_region_inv (by kernel_rfl) (by kernel_rfl) (fun u => { tmps := #[s0, s1, u 2, .pointer (some ⟨Dd, 0, none⟩), .int .i64 zone, .pointer (some ⟨E, 0, none⟩), s6, s7, s8, .pointer (some ⟨K, 0, none⟩), .bool true, s11, s12, s13, s14, s15, s16, s17, s18, s19, s20, s21, s22, s23, s24, s25, s26, s27, s28, s29, s30, s31, s32, s33, s34, s35, s36, s37, s38, s39, s40, s41, s42, s43, s44, s45, s46, s47, s48, s49, s50, s51, s52, s53, s54, s55, s56, u 57, u 58, u 59, u 60, u 61, u 62, u 63, u 64, u 65, u 66, u 67, u 68, u 69, u 70, u 71, u 72, u 73, u 74, u 75, u 76, u 77, u 78, u 79, u 80, u 81, u 82, u 83, u 84, u 85], defers := [] }) (fun k => if k ≤ 28 then k + 57 else if k = 29 then 2 else k + 100)
    (fun k x _ => x = val9 E y mo d h mi s z y' m' d' h' n' s' zone sec k)
    (RJ w w.heap.size Dd E K y mo d h mi s z y' m' d' h' n' s' zone) (fun k => if k = 2 then .bool false else undef) ⟨hJ.1, hJ.2.1, hJ.2.2.1, hJ.2.2.2.1.drew, hJ.2.2.2.2⟩ ?hput ?hD ?step ?done
  case hput =>
    intro i o ho u v
    have hi := (Array.getElem?_eq_some_iff.1 ho).1
    have hi' : i < 30 := hi
    clear hi
    rcases (show i = 0 ∨ i = 1 ∨ i = 2 ∨ i = 3 ∨ i = 4 ∨ i = 5 ∨ i = 6 ∨ i = 7 ∨ i = 8 ∨ i = 9 ∨ i = 10 ∨ i = 11 ∨ i = 12 ∨ i = 13 ∨ i = 14 ∨ i = 15 ∨ i = 16 ∨ i = 17 ∨ i = 18 ∨ i = 19 ∨ i = 20 ∨ i = 21 ∨ i = 22 ∨ i = 23 ∨ i = 24 ∨ i = 25 ∨ i = 26 ∨ i = 27 ∨ i = 28 ∨ i = 29 by omega) with e | e | e | e | e | e | e | e | e | e | e | e | e | e | e | e | e | e | e | e | e | e | e | e | e | e | e | e | e | e
    all_goals
      subst e
      obtain rfl := Option.some.inj ho
      rfl
  case hD =>
    intro i k hi hk hne
    have hi' : i < 30 := hi
    have hk' : k < 30 := hk
    try dsimp only
    split <;> split <;> (try split) <;> (try split) <;> omega
  case step =>
    intro i o ho u v hj hV K9 hK
    have hbs : w.heap.size ≤ v.heap.size := hj.2.2.2.1.size
    have hi := (Array.getElem?_eq_some_iff.1 ho).1
    have hi' : i < 30 := hi
    clear hi
    rcases (show i = 0 ∨ i = 1 ∨ i = 2 ∨ i = 3 ∨ i = 4 ∨ i = 5 ∨ i = 6 ∨ i = 7 ∨ i = 8 ∨ i = 9 ∨ i = 10 ∨ i = 11 ∨ i = 12 ∨ i = 13 ∨ i = 14 ∨ i = 15 ∨ i = 16 ∨ i = 17 ∨ i = 18 ∨ i = 19 ∨ i = 20 ∨ i = 21 ∨ i = 22 ∨ i = 23 ∨ i = 24 ∨ i = 25 ∨ i = 26 ∨ i = 27 ∨ i = 28 ∨ i = 29 by omega) with e | e | e | e | e | e | e | e | e | e | e | e | e | e | e | e | e | e | e | e | e | e | e | e | e | e | e | e | e | e
    all_goals
      subst e
      obtain rfl := Option.some.inj ho
      clear ho hi'
      try dsimp only at hV hK ⊢
    · have HJ := hide hj
      obtain ⟨k0, k1, k2, k3, k4, k5, k6, k7, k8⟩ := hj.2.1
      clear hj
      go_simp
      exact hK _ _ HJ.out rfl (fun _ _ h => h)
    · have h0 : u 57 = .agg #[.int .i64 y', .int .i64 m', .int .i64 d', .int .i64 h', .int .i64 n', .int .i64 s', .bool true, .int .i64 zone] := hV ⟨0, .data⟩ (by simp) rfl
      have HJ := hide hj
      clear hj
      rw [h0] at hK ⊢
      go_simp
      refine (i_dateok y' m' d' h' n' s' true zone _ HJ.out.2.2.2.2).mono ?_
      rintro e v1 ⟨rfl, hb⟩
      rw [F1]
      exact hK _ _ (rj_go HJ.out hb hbs) rfl (fun _ _ h => h)
    · have h1 : u 58 = .bool true := hV ⟨1, .data⟩ (by simp) rfl
      have HJ := hide hj
      clear hj
      rw [h1] at hK ⊢
      go_simp
      exact hK _ _ HJ.out rfl (fun _ _ h => h)
    · have h2 : u 59 = .bool true := hV ⟨2, .guard⟩ (by simp) rfl
      have HJ := hide hj
      clear hj
      rw [h2] at hK ⊢
      go_simp
      exact hK _ _ HJ.out rfl (fun _ _ h => h)
    · have h2 : u 59 = .bool true := hV ⟨2, .guard⟩ (by simp) rfl
      have h3 : u 60 = .pointer (some ⟨E, 7, none⟩) := hV ⟨3, .data⟩ (by simp) rfl
      have HJ := hide hj
      obtain ⟨k0, k1, k2, k3, k4, k5, k6, k7, k8⟩ := hj.2.1
      clear hj
      rw [h2, h3] at hK ⊢
      go_simp
      exact hK _ _ HJ.out rfl (fun _ _ h => h)
    · have h2 : u 59 = .bool true := hV ⟨2, .guard⟩ (by simp) rfl
      have HJ := hide hj
      clear hj
      rw [h2] at hK ⊢
      go_simp
      exact hK _ _ HJ.out rfl (fun _ _ h => h)
    · have h2 : u 59 = .bool true := hV ⟨2, .guard⟩ (by simp) rfl
      have h4 : u 61 = .int .i64 zone := hV ⟨4, .data⟩ (by simp) rfl
      have h5 : u 62 = .int .i64 zone := hV ⟨5, .data⟩ (by simp) rfl
      have HJ := hide hj
      clear hj
      rw [h2, h4, h5] at hK ⊢
      go_simp
      exact hK _ _ HJ.out rfl (fun _ _ h => h)
    · have h2 : u 59 = .bool true := hV ⟨2, .data⟩ (by simp) rfl
      have h6 : u 63 = .bool true := hV ⟨6, .data⟩ (by simp) rfl
      have HJ := hide hj
      clear hj
      rw [h2, h6] at hK ⊢
      go_simp
      exact hK _ _ HJ.out rfl (fun _ _ h => h)
    · have h2 : u 59 = .bool true := hV ⟨2, .chain⟩ (by simp) rfl
      have h7 : u 64 = .bool true := hV ⟨7, .data⟩ (by simp) rfl
      have HJ := hide hj
      clear hj
      rw [h2, h7] at hK ⊢
      go_simp
      exact hK _ _ HJ.out rfl (fun _ _ h => h)
    · have h8 : u 65 = .bool true := hV ⟨8, .guard⟩ (by simp) rfl
      have HJ := hide hj
      obtain ⟨k0, k1, k2, k3, k4, k5, k6, k7, k8⟩ := hj.2.1
      clear hj
      rw [h8] at hK ⊢
      go_simp
      exact hK _ _ HJ.out rfl (fun _ _ h => h)
    · have h8 : u 65 = .bool true := hV ⟨8, .chain⟩ (by simp) rfl
      have h9 : u 66 = .agg #[.int .i64 y', .int .i64 m', .int .i64 d', .int .i64 h', .int .i64 n', .int .i64 s', .bool true, .int .i64 zone] := hV ⟨9, .data⟩ (by simp) rfl
      have HJ := hide hj
      clear hj
      rw [h8, h9] at hK ⊢
      go_simp
      refine (i_seconds y' m' d' h' n' s' true zone _ HJ.out.2.2.2.2).mono ?_
      rintro e v1 ⟨rfl, hb⟩
      rw [F2]
      exact hK _ _ (rj_go HJ.out hb hbs) rfl (fun _ _ h => h)
    · have h8 : u 65 = .bool true := hV ⟨8, .guard⟩ (by simp) rfl
      have HJ := hide hj
      obtain ⟨k0, k1, k2, k3, k4, k5, k6, k7, k8⟩ := hj.1
      clear hj
      rw [h8] at hK ⊢
      go_simp
      exact hK _ _ HJ.out rfl (fun _ _ h => h)
    · have h8 : u 65 = .bool true := hV ⟨8, .guard⟩ (by simp) rfl
      have h10 : u 67 = .int .i64 sec := hV ⟨10, .chain⟩ (by simp) rfl
      have h11 : u 68 = .agg #[.int .i64 y, .int .i64 mo, .int .i64 d, .int .i64 h, .int .i64 mi, .int .i64 s, .bool true, .int .i64 z] := hV ⟨11, .data⟩ (by simp) rfl
      have HJ := hide hj
      clear hj
      rw [h8, h10, h11] at hK ⊢
      go_simp
      refine (i_seconds y mo d h mi s true z _ HJ.out.2.2.2.2).mono ?_
      rintro e v1 ⟨rfl, hb⟩
      rw [F3]
      exact hK _ _ (rj_go HJ.out hb hbs) rfl (fun _ _ h => h)
    · have h8 : u 65 = .bool true := hV ⟨8, .guard⟩ (by simp) rfl
      have h10 : u 67 = .int .i64 sec := hV ⟨10, .data⟩ (by simp) rfl
      have h12 : u 69 = .int .i64 sec := hV ⟨12, .data⟩ (by simp) rfl
      have HJ := hide hj
      clear hj
      rw [h8, h10, h12] at hK ⊢
      go_simp
      exact hK _ _ HJ.out rfl (fun _ _ h => h)
    · have h8 : u 65 = .bool true := hV ⟨8, .data⟩ (by simp) rfl
      have h13 : u 70 = .bool true := hV ⟨13, .data⟩ (by simp) rfl
      have HJ := hide hj
      clear hj
      rw [h8, h13] at hK ⊢
      go_simp
      exact hK _ _ HJ.out rfl (fun _ _ h => h)
    · have h12 : u 69 = .int .i64 sec := hV ⟨12, .chain⟩ (by simp) rfl
      have h14 : u 71 = .bool true := hV ⟨14, .data⟩ (by simp) rfl
      have HJ := hide hj
      clear hj
      rw [h12, h14] at hK ⊢
      go_simp
      exact hK _ _ HJ.out rfl (fun _ _ h => h)
    · have h15 : u 72 = .bool true := hV ⟨15, .guard⟩ (by simp) rfl
      have HJ := hide hj
      obtain ⟨k0, k1, k2, k3, k4, k5, k6, k7, k8⟩ := hj.2.1
      clear hj
      rw [h15] at hK ⊢
      go_simp
      exact hK _ _ HJ.out rfl (fun _ _ h => h)
    · have h15 : u 72 = .bool true := hV ⟨15, .guard⟩ (by simp) rfl
      have HJ := hide hj
      obtain ⟨k0, k1, k2, k3, k4, k5, k6, k7, k8⟩ := hj.1
      clear hj
      rw [h15] at hK ⊢
      go_simp
      exact hK _ _ HJ.out rfl (fun _ _ h => h)
    · have h15 : u 72 = .bool true := hV ⟨15, .chain⟩ (by simp) rfl
      have h16 : u 73 = .agg #[.int .i64 y', .int .i64 m', .int .i64 d', .int .i64 h', .int .i64 n', .int .i64 s', .bool true, .int .i64 zone] := hV ⟨16, .data⟩ (by simp) rfl
      have h17 : u 74 = .agg #[.int .i64 y, .int .i64 mo, .int .i64 d, .int .i64 h, .int .i64 mi, .int .i64 s, .bool true, .int .i64 z] := hV ⟨17, .data⟩ (by simp) rfl
      have HJ := hide hj
      clear hj
      rw [h15, h16, h17] at hK ⊢
      go_simp
      refine (i_cmpdate y' m' d' h' n' s' true zone y mo d h mi s true z _ HJ.out.2.2.2.2).mono ?_
      rintro e v1 ⟨rfl, hb⟩
      rw [F4]
      exact hK _ _ (rj_go HJ.out hb hbs) rfl (fun _ _ h => h)
    · have h15 : u 72 = .bool true := hV ⟨15, .guard⟩ (by simp) rfl
      have h18 : u 75 = .int .i64 0 := hV ⟨18, .data⟩ (by simp) rfl
      have HJ := hide hj
      clear hj
      rw [h15, h18] at hK ⊢
      go_simp
      exact hK _ _ HJ.out rfl (fun _ _ h => h)
    · have h15 : u 72 = .bool true := hV ⟨15, .data⟩ (by simp) rfl
      have h19 : u 76 = .bool true := hV ⟨19, .data⟩ (by simp) rfl
      have HJ := hide hj
      clear hj
      rw [h15, h19] at hK ⊢
      go_simp
      exact hK _ _ HJ.out rfl (fun _ _ h => h)
    · have h18 : u 75 = .int .i64 0 := hV ⟨18, .chain⟩ (by simp) rfl
      have h20 : u 77 = .bool true := hV ⟨20, .data⟩ (by simp) rfl
      have HJ := hide hj
      clear hj
      rw [h18, h20] at hK ⊢
      go_simp
      exact hK _ _ HJ.out rfl (fun _ _ h => h)
    · have h21 : u 78 = .bool true := hV ⟨21, .guard⟩ (by simp) rfl
      have HJ := hide hj
      clear hj
      rw [h21] at hK ⊢
      go_simp
      exact hK _ _ HJ.out rfl (fun _ _ h => h)
    · have h21 : u 78 = .bool true := hV ⟨21, .data⟩ (by simp) rfl
      have h22 : u 79 = .bool true := hV ⟨22, .data⟩ (by simp) rfl
      have HJ := hide hj
      clear hj
      rw [h21, h22] at hK ⊢
      go_simp
      exact hK _ _ HJ.out rfl (fun _ _ h => h)
    · have h21 : u 78 = .bool true := hV ⟨21, .chain⟩ (by simp) rfl
      have h23 : u 80 = .bool true := hV ⟨23, .data⟩ (by simp) rfl
      have HJ := hide hj
      clear hj
      rw [h21, h23] at hK ⊢
      go_simp
      exact hK _ _ HJ.out rfl (fun _ _ h => h)
    · have h24 : u 81 = .bool true := hV ⟨24, .guard⟩ (by simp) rfl
      have HJ := hide hj
      obtain ⟨k0, k1, k2, k3, k4, k5, k6, k7, k8⟩ := hj.2.2.1
      clear hj
      rw [h24] at hK ⊢
      go_simp
      exact hK _ _ HJ.out rfl (fun _ _ h => h)
    · have h24 : u 81 = .bool true := hV ⟨24, .guard⟩ (by simp) rfl
      have HJ := hide hj
      obtain ⟨k0, k1, k2, k3, k4, k5, k6, k7, k8⟩ := hj.1
      clear hj
      rw [h24] at hK ⊢
      go_simp
      exact hK _ _ HJ.out rfl (fun _ _ h => h)
    · have h24 : u 81 = .bool true := hV ⟨24, .guard⟩ (by simp) rfl
      have h25 : u 82 = .agg #[.int .i64 y, .int .i64 mo, .int .i64 d, .int .i64 h, .int .i64 mi, .int .i64 s, .bool true, .int .i64 z] := hV ⟨25, .data⟩ (by simp) rfl
      have h26 : u 83 = .agg #[.int .i64 y, .int .i64 mo, .int .i64 d, .int .i64 h, .int .i64 mi, .int .i64 s, .bool true, .int .i64 z] := hV ⟨26, .data⟩ (by simp) rfl
      have HJ := hide hj
      clear hj
      rw [h24, h25, h26] at hK ⊢
      go_simp
      exact hK _ _ HJ.out rfl (fun _ _ h => h)
    · have h24 : u 81 = .bool true := hV ⟨24, .data⟩ (by simp) rfl
      have h27 : u 84 = .bool true := hV ⟨27, .data⟩ (by simp) rfl
      have HJ := hide hj
      clear hj
      rw [h24, h27] at hK ⊢
      go_simp
      exact hK _ _ HJ.out rfl (fun _ _ h => h)
    · have h0 : u 57 = .agg #[.int .i64 y', .int .i64 m', .int .i64 d', .int .i64 h', .int .i64 n', .int .i64 s', .bool true, .int .i64 zone] := hV ⟨0, .phase⟩ (by simp) rfl
      have h1 : u 58 = .bool true := hV ⟨1, .phase⟩ (by simp) rfl
      have h2 : u 59 = .bool true := hV ⟨2, .phase⟩ (by simp) rfl
      have h3 : u 60 = .pointer (some ⟨E, 7, none⟩) := hV ⟨3, .phase⟩ (by simp) rfl
      have h4 : u 61 = .int .i64 zone := hV ⟨4, .phase⟩ (by simp) rfl
      have h5 : u 62 = .int .i64 zone := hV ⟨5, .phase⟩ (by simp) rfl
      have h6 : u 63 = .bool true := hV ⟨6, .phase⟩ (by simp) rfl
      have h7 : u 64 = .bool true := hV ⟨7, .phase⟩ (by simp) rfl
      have h8 : u 65 = .bool true := hV ⟨8, .phase⟩ (by simp) rfl
      have h9 : u 66 = .agg #[.int .i64 y', .int .i64 m', .int .i64 d', .int .i64 h', .int .i64 n', .int .i64 s', .bool true, .int .i64 zone] := hV ⟨9, .phase⟩ (by simp) rfl
      have h10 : u 67 = .int .i64 sec := hV ⟨10, .phase⟩ (by simp) rfl
      have h11 : u 68 = .agg #[.int .i64 y, .int .i64 mo, .int .i64 d, .int .i64 h, .int .i64 mi, .int .i64 s, .bool true, .int .i64 z] := hV ⟨11, .phase⟩ (by simp) rfl
      have h12 : u 69 = .int .i64 sec := hV ⟨12, .phase⟩ (by simp) rfl
      have h13 : u 70 = .bool true := hV ⟨13, .phase⟩ (by simp) rfl
      have h14 : u 71 = .bool true := hV ⟨14, .phase⟩ (by simp) rfl
      have h15 : u 72 = .bool true := hV ⟨15, .phase⟩ (by simp) rfl
      have h16 : u 73 = .agg #[.int .i64 y', .int .i64 m', .int .i64 d', .int .i64 h', .int .i64 n', .int .i64 s', .bool true, .int .i64 zone] := hV ⟨16, .phase⟩ (by simp) rfl
      have h17 : u 74 = .agg #[.int .i64 y, .int .i64 mo, .int .i64 d, .int .i64 h, .int .i64 mi, .int .i64 s, .bool true, .int .i64 z] := hV ⟨17, .phase⟩ (by simp) rfl
      have h18 : u 75 = .int .i64 0 := hV ⟨18, .phase⟩ (by simp) rfl
      have h19 : u 76 = .bool true := hV ⟨19, .phase⟩ (by simp) rfl
      have h20 : u 77 = .bool true := hV ⟨20, .phase⟩ (by simp) rfl
      have h21 : u 78 = .bool true := hV ⟨21, .phase⟩ (by simp) rfl
      have h22 : u 79 = .bool true := hV ⟨22, .phase⟩ (by simp) rfl
      have h23 : u 80 = .bool true := hV ⟨23, .phase⟩ (by simp) rfl
      have h24 : u 81 = .bool true := hV ⟨24, .chain⟩ (by simp) rfl
      have h25 : u 82 = .agg #[.int .i64 y, .int .i64 mo, .int .i64 d, .int .i64 h, .int .i64 mi, .int .i64 s, .bool true, .int .i64 z] := hV ⟨25, .phase⟩ (by simp) rfl
      have h26 : u 83 = .agg #[.int .i64 y, .int .i64 mo, .int .i64 d, .int .i64 h, .int .i64 mi, .int .i64 s, .bool true, .int .i64 z] := hV ⟨26, .phase⟩ (by simp) rfl
      have h27 : u 84 = .bool true := hV ⟨27, .phase⟩ (by simp) rfl
      have h28 : u 85 = .bool true := hV ⟨28, .data⟩ (by simp) rfl
      have HJ := hide hj
      clear hj
      rw [h0, h1, h2, h3, h4, h5, h6, h7, h8, h9, h10, h11, h12, h13, h14, h15, h16, h17, h18, h19, h20, h21, h22, h23, h24, h25, h26, h27, h28] at hK ⊢
      go_simp
      exact hK _ _ HJ.out rfl (fun _ _ h => h)
  case done =>
    intro u v hj hV
    exact hQ u v hj.2.2.2.1 (hV 29 (by decide))
end Go.Proofs.YtaigicdoepdhnacDoor
