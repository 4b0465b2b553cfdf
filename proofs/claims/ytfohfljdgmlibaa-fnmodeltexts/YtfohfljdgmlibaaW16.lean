/-
  Contract of the draw of a text that is hurt now and then, whatever the code is: some text, hardly longer; the reader's own place alone is written.
-/
import Derived.Test.YtfohfljdgmlibaaW12
import Derived.Test.YtfohfljdgmlibaaW15
namespace Go.Proofs.Ytfohfljdgmlibaa
open Go.RowKit
set_option linter.unusedVariables false
set_option linter.unusedSimpArgs false
/-- A row of short texts that was built; the address of one. -/
def HL (x : Value) (v : World) : Prop := ∃ (B : Nat) (xs : Array Value), x = .slice (some ⟨B, 0, none⟩) 6 6 ∧ v.heap[B]? = some (.cells xs 9 (0, 0)) ∧ xs.size = 6 ∧ ∀ k, k < 6 → ∃ t : ByteArray, xs[k]? = some (.string t) ∧ t.size ≤ 1
def HA (x : Value) (v : World) : Prop := ∃ (B o : Nat) (xs : Array Value) (t : ByteArray), x = .pointer (some ⟨B, o, none⟩) ∧ v.heap[B]? = some (.cells xs 9 (0, 0)) ∧ xs[o]? = some (.string t) ∧ t.size ≤ 1
def HJd (w0 : World) (G : Nat) (a : Option Addr) (n cap : Nat) (zs : List Int) (v : World) : Prop := RdAt v G a n cap zs ∧ w0.grownBy v (some G)
def HVd (G : Nat) (s : ByteArray) (i : Int) (k : Nat) (x : Value) (v : World) : Prop :=
  match k with
  | 0 => x = .string s
  | 1 => x = .int .i64 i
  | 2 => x = .string (s.extract 0 i.toNat)
  | 3 => HL x v
  | 4 => x = .pointer (some ⟨G, 0, none⟩)
  | 5 => ∃ y : Int, x = .int .i64 y ∧ 0 ≤ y ∧ y < 6
  | 6 => HA x v
  | 7 => ∃ t : ByteArray, x = .string t ∧ t.size ≤ 1
  | 8 => ∃ t : ByteArray, x = .string t ∧ t.size ≤ s.size + 1
  | 9 => x = .string s
  | 10 => x = .int .i64 i
  | 11 => x = .int .i64 (i + 1)
  | 12 => x = .string (s.extract (i + 1).toNat s.size)
  | 13 => ∃ t : ByteArray, x = .string t ∧ t.size ≤ 2 * s.size + 1
  | 14 => ∃ t : ByteArray, x = .string t ∧ t.size ≤ 2 * s.size + 1
  | _ => True
section
variable {w0 v v1 : World} {G : Nat} {a : Option Addr} {n cap : Nat} {zs : List Int} {s : ByteArray} {i : Int}
theorem hj_alloc (h : HJd w0 G a n cap zs v) (o : Obj) : HJd w0 G a n cap zs (v.alloc o) := ⟨rd_alloc h.1 o, grown_trans h.2 (World.grownBy_alloc v o (some G))⟩
theorem hj_drew (h : HJd w0 G a n cap zs v) (hd : Drew G a n cap zs v v1) : HJd w0 G a n cap zs v1 := ⟨hd.1, grown_trans h.2 hd.2⟩
theorem hv_keeps (h : ∀ (B : Nat) (xs : Array Value), v.heap[B]? = some (Obj.cells xs 9 (0, 0)) → v1.heap[B]? = some (Obj.cells xs 9 (0, 0))) (k : Nat) (x : Value) (hv : HVd G s i k x v) : HVd G s i k x v1 := by
  have p : HL x v → HL x v1 := fun ⟨B, xs, h1, h2, h3⟩ => ⟨B, xs, h1, h B xs h2, h3⟩
  have q : HA x v → HA x v1 := fun ⟨B, o, xs, t, h1, h2, h3⟩ => ⟨B, o, xs, t, h1, h B xs h2, h3⟩
  unfold HVd at hv ⊢
  split at hv <;> first | exact p hv | exact q hv | exact hv
theorem hv_alloc (o : Obj) (k : Nat) (x : Value) (hv : HVd G s i k x v) : HVd G s i k x (v.alloc o) :=
  hv_keeps (fun B xs hB => ((World.grownBy_alloc v o none).block B (Array.getElem?_eq_some_iff.1 hB).1 (by simp)).trans hB) k x hv
theorem hv_drew (hj : HJd w0 G a n cap zs v) (hd : Drew G a n cap zs v v1) (k : Nat) (x : Value) (hv : HVd G s i k x v) : HVd G s i k x v1 := by
  refine hv_keeps (fun B xs hB => (hd.2.block B (Array.getElem?_eq_some_iff.1 hB).1 (fun e => ?_)).trans hB) k x hv
  cases e
  obtain ⟨⟨p, _, hg⟩, _⟩ := hj.1
  rw [hg] at hB
  simp at hB
end
set_option maxHeartbeats 1000000 in
theorem d_below1 (G : Nat) (m : Int) (w : World) (hm : m ≤ 1) : Calls Try.prog 31 #[.pointer (some ⟨G, 0, none⟩), .int .i64 m] w fun e w' => e = .returned (.int .i64 0) ∧ w' = w := by
  go_enter Try.func31, Try.ntmps31
  go_wp2
  go_ret
  exact ⟨rfl, rfl⟩
theorem d_belowW (G : Nat) (a : Option Addr) (n cap : Nat) (zs : List Int) (m : Int) (w : World) (hm : 257 ≤ m) (hm' : m ≤ 60000) (h : RdAt w G a n cap zs) :
    Calls Try.prog 31 #[.pointer (some ⟨G, 0, none⟩), .int .i64 m] w fun e w' => ∃ x : Int, 0 ≤ x ∧ x < m ∧ e = .returned (.int .i64 x) ∧ Drew G a n cap zs w w' := by
  have HH := hide h
  clear h
  have hm1 : ¬ m ≤ 1 := by omega
  have hm2 : ¬ m ≤ 256 := by omega
  go_enter Try.func31, Try.ntmps31
  go_wp2_with fail
  refine (d_next G a n cap zs _ HH.out).mono ?_
  rintro e w1 ⟨x, hx0, hx1, rfl, hd⟩
  have HD := hide hd
  clear hd
  go_wp2_with fail
  refine (d_next G a n cap zs _ HD.out.1).mono ?_
  rintro e w2 ⟨y, hy0, hy1, rfl, hd⟩
  have HD2 := hide (drew_trans HD.out hd)
  clear hd
  go_wp2
  go_ret
  first
    | exact ⟨(x * 256 + y) % m, Int.emod_nonneg _ (by omega), Int.emod_lt_of_pos _ (by omega), rfl, HD2.out⟩
    | exact ⟨_, Int.emod_nonneg _ (by omega), Int.emod_lt_of_pos _ (by omega), rfl, HD2.out⟩
theorem d_belowN (G : Nat) (a : Option Addr) (n cap : Nat) (zs : List Int) (m : Int) (w : World) (hm : 1 ≤ m) (hm' : m ≤ 60000) (h : RdAt w G a n cap zs) :
    Calls Try.prog 31 #[.pointer (some ⟨G, 0, none⟩), .int .i64 m] w fun e w' => ∃ x : Int, 0 ≤ x ∧ x < m ∧ e = .returned (.int .i64 x) ∧ Drew G a n cap zs w w' := by
  by_cases h2 : 2 ≤ m
  · by_cases h3 : m ≤ 256
    · exact d_below G a n cap zs m w h2 h3 h
    · exact d_belowW G a n cap zs m w (by omega) hm' h
  · refine (d_below1 G m w (by omega)).mono ?_
    rintro e w' ⟨rfl, rfl⟩
    exact ⟨0, by omega, by omega, rfl, drew_refl h⟩
set_option maxRecDepth 100000 in
set_option maxHeartbeats 4000000 in
theorem hurt9 {s2 s3 s6 s7 s8 s9 s10 s11 s12 s13 s14 s15 s16 s17 s18 s19 s20 s21 s22 s23 s24 s25 s26 s27 s28 s29 s30 s31 s46 : Value} {w0 : World} {G : Nat} {a : Option Addr} {n cap : Nat} {zs : List Int} {s : ByteArray} {i : Int} {Q : Exit → Act → World → Prop} (hs : s.size ≤ 4000) (hi0 : 0 ≤ i) (hi1 : i < (s.size : Int)) (hi2 : i + 1 ≤ (s.size : Int)) (h : RdAt w0 G a n cap zs)
    (hQ : ∀ (u : Nat → Value) (v : World) (t : ByteArray), Drew G a n cap zs w0 v → t.size ≤ 2 * s.size + 1 → u 4 = .string t → Q .normal { tmps := #[.pointer (some ⟨G, 0, none⟩), .string s, s2, s3, u 4, .int .i64 i, s6, s7, s8, s9, s10, s11, s12, s13, s14, s15, s16, s17, s18, s19, s20, s21, s22, s23, s24, s25, s26, s27, s28, s29, s30, s31, u 32, u 33, u 34, u 35, u 36, u 37, u 38, u 39, u 40, u 41, u 42, u 43, u 44, u 45, s46], defers := [] } v) :
    (Code.region 9 #[{ dst := some 32, op := Op.move (Operand.tmp 1), type := 9, pos := "l01_chars.go:299", after := #[], guard := none }, { dst := some 33, op := Op.move (Operand.tmp 5), type := 3, pos := "l01_chars.go:299", after := #[], guard := none }, { dst := some 34, op := Op.slice 9 (Operand.tmp 32) none (some (Operand.tmp 33)) none, type := 9, pos := "l01_chars.go:299", after := #[{ on := 0, ground := Ground.data }, { on := 1, ground := Ground.data }], guard := none }, { dst := some 35, op := Op.buildSlice 55 6 #[(0, Operand.const (Value.string { data := #[60] })), (1, Operand.const (Value.string { data := #[38] })), (2, Operand.const (Value.string { data := #[97] })), (3, Operand.const (Value.string { data := #[34] })), (4, Operand.const (Value.string { data := #[32] })), (5, Operand.const (Value.string { data := #[49] }))], type := 55, pos := "l01_chars.go:299", after := #[], guard := none }, { dst := some 36, op := Op.move (Operand.tmp 0), type := 39, pos := "l01_chars.go:299", after := #[], guard := none }, { dst := some 37, op := Op.call { callee := Callee.value (Operand.func 31), args := #[Operand.tmp 36, Operand.const (Value.int IntKind.i64 6)], argTypes := #[39, 3] }, type := 3, pos := "l01_chars.go:299", after := #[{ on := 4, ground := Ground.data }], guard := none }, { dst := some 38, op := Op.indexAddr 55 (Operand.tmp 35) (Operand.tmp 37), type := 0, pos := "l01_chars.go:299", after := #[{ on := 3, ground := Ground.data }, { on := 5, ground := Ground.data }], guard := none }, { dst := some 39, op := Op.load 9 (Operand.tmp 38), type := 9, pos := "l01_chars.go:299", after := #[{ on := 6, ground := Ground.data }], guard := none }, { dst := some 40, op := Op.binOp BinOp.add 9 (Operand.tmp 34) (Operand.tmp 39) 9, type := 9, pos := "l01_chars.go:299", after := #[{ on := 2, ground := Ground.data }, { on := 7, ground := Ground.data }], guard := none }, { dst := some 41, op := Op.move (Operand.tmp 1), type := 9, pos := "l01_chars.go:299", after := #[], guard := none }, { dst := some 42, op := Op.move (Operand.tmp 5), type := 3, pos := "l01_chars.go:299", after := #[], guard := none }, { dst := some 43, op := Op.binOp BinOp.add 3 (Operand.tmp 42) (Operand.const (Value.int IntKind.i64 1)) 3, type := 3, pos := "l01_chars.go:299", after := #[{ on := 10, ground := Ground.data }], guard := none }, { dst := some 44, op := Op.slice 9 (Operand.tmp 41) (some (Operand.tmp 43)) none none, type := 9, pos := "l01_chars.go:299", after := #[{ on := 9, ground := Ground.data }, { on := 11, ground := Ground.data }], guard := none }, { dst := some 45, op := Op.binOp BinOp.add 9 (Operand.tmp 40) (Operand.tmp 44) 9, type := 9, pos := "l01_chars.go:299", after := #[{ on := 8, ground := Ground.data }, { on := 12, ground := Ground.data }], guard := none }, { dst := some 4, op := Op.assign (Operand.tmp 45), type := 9, pos := "l01_chars.go:299", after := #[{ on := 13, ground := Ground.data }, { on := 5, ground := Ground.chain }, { on := 0, ground := Ground.phase }, { on := 1, ground := Ground.phase }, { on := 2, ground := Ground.phase }, { on := 3, ground := Ground.phase }, { on := 4, ground := Ground.phase }, { on := 5, ground := Ground.phase }, { on := 6, ground := Ground.phase }, { on := 7, ground := Ground.phase }, { on := 8, ground := Ground.phase }, { on := 9, ground := Ground.phase }, { on := 10, ground := Ground.phase }, { on := 11, ground := Ground.phase }, { on := 12, ground := Ground.phase }, { on := 13, ground := Ground.phase }], guard := none }] true).wp Try.prog Q { tmps := #[.pointer (some ⟨G, 0, none⟩), .string s, s2, s3, .string ⟨#[]⟩, .int .i64 i, s6, s7, s8, s9, s10, s11, s12, s13, s14, s15, s16, s17, s18, s19, s20, s21, s22, s23, s24, s25, s26, s27, s28, s29, s30, s31, undef, undef, undef, undef, undef, undef, undef, undef, undef, undef, undef, undef, undef, undef, s46], defers := [] } w0 := by
  refine wp_region_inv (by kernel_rfl) (by kernel_rfl) (fun u => { tmps := #[.pointer (some ⟨G, 0, none⟩), .string s, s2, s3, u 4, .int .i64 i, s6, s7, s8, s9, s10, s11, s12, s13, s14, s15, s16, s17, s18, s19, s20, s21, s22, s23, s24, s25, s26, s27, s28, s29, s30, s31, u 32, u 33, u 34, u 35, u 36, u 37, u 38, u 39, u 40, u 41, u 42, u 43, u 44, u 45, s46], defers := [] }) (fun k => if k ≤ 13 then k + 32 else if k = 14 then 4 else k + 100)
    (HVd G s i) (HJd w0 G a n cap zs) (fun k => if k = 4 then .string ⟨#[]⟩ else undef) ⟨h, ⟨rfl, rfl, rfl, Nat.le_refl _, fun _ _ _ => rfl⟩⟩ ?hput ?hD ?step ?done
  case hput =>
    intro j o ho u v
    have hi := (Array.getElem?_eq_some_iff.1 ho).1
    have hi' : j < 15 := hi
    clear hi
    rcases (show j = 0 ∨ j = 1 ∨ j = 2 ∨ j = 3 ∨ j = 4 ∨ j = 5 ∨ j = 6 ∨ j = 7 ∨ j = 8 ∨ j = 9 ∨ j = 10 ∨ j = 11 ∨ j = 12 ∨ j = 13 ∨ j = 14 by omega) with e | e | e | e | e | e | e | e | e | e | e | e | e | e | e
    all_goals
      subst e
      obtain rfl := Option.some.inj ho
      rfl
  case hD =>
    intro j k hi hk hne
    have hi' : j < 15 := hi
    have hk' : k < 15 := hk
    try dsimp only
    split <;> split <;> (try split) <;> (try split) <;> omega
  case step =>
    intro j o ho u v hj hV K9 hK
    have hi := (Array.getElem?_eq_some_iff.1 ho).1
    have hi' : j < 15 := hi
    clear hi
    rcases (show j = 0 ∨ j = 1 ∨ j = 2 ∨ j = 3 ∨ j = 4 ∨ j = 5 ∨ j = 6 ∨ j = 7 ∨ j = 8 ∨ j = 9 ∨ j = 10 ∨ j = 11 ∨ j = 12 ∨ j = 13 ∨ j = 14 by omega) with e | e | e | e | e | e | e | e | e | e | e | e | e | e | e
    all_goals
      subst e
      obtain rfl := Option.some.inj ho
      clear ho hi'
      try dsimp only at hV hK ⊢
    · have HJ := hide hj
      clear hj
      go_simp
      exact hK _ _ HJ.out rfl (fun _ _ h => h)
    · have HJ := hide hj
      clear hj
      go_simp
      exact hK _ _ HJ.out rfl (fun _ _ h => h)
    · have h0 : u 32 = .string s := hV ⟨0, .data⟩ (by simp) rfl
      have h1 : u 33 = .int .i64 i := hV ⟨1, .data⟩ (by simp) rfl
      have HJ := hide hj
      clear hj
      have hi3 : i ≤ (s.size : Int) := by omega
      have hi4 : (0 : Int) ≤ i + 1 := by omega
      rw [h0, h1] at hK ⊢
      go_simp
      exact hK _ _ HJ.out rfl (fun _ _ h => h)
    · have HJ := hide hj
      clear hj
      go_simp
      refine hK _ _ (hj_alloc HJ.out _) ⟨_, _, rfl, heap_alloc_new v _, rfl, fun k hk => ?_⟩ (hv_alloc _)
      rcases (show k = 0 ∨ k = 1 ∨ k = 2 ∨ k = 3 ∨ k = 4 ∨ k = 5 by omega) with e | e | e | e | e | e <;> subst e <;> exact ⟨_, rfl, by decide⟩
    · have HJ := hide hj
      clear hj
      go_simp
      exact hK _ _ HJ.out rfl (fun _ _ h => h)
    · have h4 : u 36 = .pointer (some ⟨G, 0, none⟩) := hV ⟨4, .data⟩ (by simp) rfl
      have HJ := hide hj
      clear hj
      rw [h4] at hK ⊢
      go_simp
      refine (d_below G a n cap zs 6 _ (by omega) (by omega) HJ.out.1).mono ?_
      rintro e v1 ⟨y, hy0, hy1, rfl, hd⟩
      exact hK _ _ (hj_drew HJ.out hd) ⟨y, rfl, hy0, hy1⟩ (hv_drew HJ.out hd)
    · obtain ⟨B3, xs3, h3, hB3, hn3, hel3⟩ : HL (u 35) v := hV ⟨3, .data⟩ (by simp) rfl
      obtain ⟨y5, h5, hy0, hy1⟩ : ∃ y : Int, u 37 = .int .i64 y ∧ 0 ≤ y ∧ y < 6 := hV ⟨5, .data⟩ (by simp) rfl
      have HJ := hide hj
      clear hj
      obtain ⟨t, ht, hts⟩ := hel3 y5.toNat (by omega)
      rw [h3, h5] at hK ⊢
      go_simp
      exact hK _ _ HJ.out ⟨B3, y5.toNat, xs3, t, rfl, hB3, ht, hts⟩ (fun _ _ h => h)
    · obtain ⟨B6, o6, xs6, t6, h6, hB6, ht6, hz6⟩ : HA (u 38) v := hV ⟨6, .data⟩ (by simp) rfl
      have HJ := hide hj
      clear hj
      have hc : v.cell? ⟨B6, o6, none⟩ = some (.string t6) := by rw [cell_of_row _ B6 o6 xs6 9 (0, 0) hB6]; exact ht6
      rw [h6] at hK ⊢
      go_simp
      exact hK _ _ HJ.out ⟨t6, rfl, hz6⟩ (fun _ _ h => h)
    · have h2 : u 34 = .string (s.extract 0 i.toNat) := hV ⟨2, .data⟩ (by simp) rfl
      obtain ⟨t7, h7, hz7⟩ : ∃ t : ByteArray, u 39 = .string t ∧ t.size ≤ 1 := hV ⟨7, .data⟩ (by simp) rfl
      have HJ := hide hj
      clear hj
      have hz2 : (s.extract 0 i.toNat).size ≤ s.size := by simp; omega
      obtain ⟨p, hp⟩ : ∃ p, s.extract 0 i.toNat = p := ⟨_, rfl⟩
      rw [hp] at h2 hz2
      have hb : ¬ 9223372036854775807 < p.size + t7.size := by omega
      rw [h2, h7] at hK ⊢
      go_simp
      exact hK _ _ HJ.out ⟨p ++ t7, rfl, by rw [ByteArray.size_append]; omega⟩ (fun _ _ h => h)
    · have HJ := hide hj
      clear hj
      go_simp
      exact hK _ _ HJ.out rfl (fun _ _ h => h)
    · have HJ := hide hj
      clear hj
      go_simp
      exact hK _ _ HJ.out rfl (fun _ _ h => h)
    · have h10 : u 42 = .int .i64 i := hV ⟨10, .data⟩ (by simp) rfl
      have HJ := hide hj
      clear hj
      have hw : IntKind.i64.wrap (i + 1) = i + 1 := by rw [IntKind.wrap_i64]; omega
      rw [h10] at hK ⊢
      go_simp
      exact hK _ _ HJ.out rfl (fun _ _ h => h)
    · have h9 : u 41 = .string s := hV ⟨9, .data⟩ (by simp) rfl
      have h11 : u 43 = .int .i64 (i + 1) := hV ⟨11, .data⟩ (by simp) rfl
      have HJ := hide hj
      clear hj
      have hi3 : i ≤ (s.size : Int) := by omega
      have hi4 : (0 : Int) ≤ i + 1 := by omega
      rw [h9, h11] at hK ⊢
      go_simp
      exact hK _ _ HJ.out rfl (fun _ _ h => h)
    · obtain ⟨t8, h8, hz8⟩ : ∃ t : ByteArray, u 40 = .string t ∧ t.size ≤ s.size + 1 := hV ⟨8, .data⟩ (by simp) rfl
      have h12 : u 44 = .string (s.extract (i + 1).toNat s.size) := hV ⟨12, .data⟩ (by simp) rfl
      have HJ := hide hj
      clear hj
      have hz12 : (s.extract (i + 1).toNat s.size).size ≤ s.size := by simp
      obtain ⟨p, hp⟩ : ∃ p, s.extract (i + 1).toNat s.size = p := ⟨_, rfl⟩
      rw [hp] at h12 hz12
      have hb : ¬ 9223372036854775807 < t8.size + p.size := by omega
      rw [h8, h12] at hK ⊢
      go_simp
      exact hK _ _ HJ.out ⟨t8 ++ p, rfl, by rw [ByteArray.size_append]; omega⟩ (fun _ _ h => h)
    · have h0 : u 32 = .string s := hV ⟨0, .phase⟩ (by simp) rfl
      have h1 : u 33 = .int .i64 i := hV ⟨1, .phase⟩ (by simp) rfl
      have h2 : u 34 = .string (s.extract 0 i.toNat) := hV ⟨2, .phase⟩ (by simp) rfl
      obtain ⟨B3, xs3, h3, hB3, hn3, hel3⟩ : HL (u 35) v := hV ⟨3, .phase⟩ (by simp) rfl
      have h4 : u 36 = .pointer (some ⟨G, 0, none⟩) := hV ⟨4, .phase⟩ (by simp) rfl
      obtain ⟨y5, h5, hy0, hy1⟩ : ∃ y : Int, u 37 = .int .i64 y ∧ 0 ≤ y ∧ y < 6 := hV ⟨5, .chain⟩ (by simp) rfl
      obtain ⟨B6, o6, xs6, t6, h6, hB6, ht6, hz6⟩ : HA (u 38) v := hV ⟨6, .phase⟩ (by simp) rfl
      obtain ⟨t7, h7, hz7⟩ : ∃ t : ByteArray, u 39 = .string t ∧ t.size ≤ 1 := hV ⟨7, .phase⟩ (by simp) rfl
      obtain ⟨t8, h8, hz8⟩ : ∃ t : ByteArray, u 40 = .string t ∧ t.size ≤ s.size + 1 := hV ⟨8, .phase⟩ (by simp) rfl
      have h9 : u 41 = .string s := hV ⟨9, .phase⟩ (by simp) rfl
      have h10 : u 42 = .int .i64 i := hV ⟨10, .phase⟩ (by simp) rfl
      have h11 : u 43 = .int .i64 (i + 1) := hV ⟨11, .phase⟩ (by simp) rfl
      have h12 : u 44 = .string (s.extract (i + 1).toNat s.size) := hV ⟨12, .phase⟩ (by simp) rfl
      obtain ⟨t13, h13, hz13⟩ : ∃ t : ByteArray, u 45 = .string t ∧ t.size ≤ 2 * s.size + 1 := hV ⟨13, .data⟩ (by simp) rfl
      have HJ := hide hj
      clear hj
      rw [h0, h1, h2, h3, h4, h5, h6, h7, h8, h9, h10, h11, h12, h13] at hK ⊢
      go_simp
      exact hK _ _ HJ.out ⟨t13, rfl, hz13⟩ (fun _ _ h => h)
  case done =>
    intro u v hj hV
    obtain ⟨t, h4, ht⟩ : ∃ t : ByteArray, u 4 = .string t ∧ t.size ≤ 2 * s.size + 1 := hV 14 (by decide)
    exact hQ u v t hj ht h4
set_option maxRecDepth 100000 in
set_option maxHeartbeats 4000000 in
theorem d_hurt (G : Nat) (a : Option Addr) (n cap : Nat) (zs : List Int) (s : ByteArray) (w : World) (hs : s.size ≤ 4000) (h : RdAt w G a n cap zs) :
    Calls Try.prog 32 #[.pointer (some ⟨G, 0, none⟩), .string s] w fun e w' => ∃ t : ByteArray, t.size ≤ 2 * s.size + 2 ∧ e = .returned (.string t) ∧ Drew G a n cap zs w w' := by
  have HH := hide h
  clear h
  go_enter Try.func32, Try.ntmps32
  go_wp2_with fail
  refine (d_below G a n cap zs 6 _ (by omega) (by omega) HH.out).mono ?_
  rintro e w1 ⟨x, hx0, hx1, rfl, hd⟩
  have D1 := hide hd
  clear hd
  rcases (show x = 0 ∨ x = 1 ∨ x = 2 ∨ 3 ≤ x by omega) with hx | hx | hx | hx
  · subst hx
    go_wp2_with fail
    refine (d_bytes G a n cap zs 2 _ (by omega) (by omega) D1.out.1).mono ?_
    rintro e w2 ⟨t, ht, rfl, hd⟩
    have D2 := hide (drew_trans D1.out hd)
    clear hd
    go_wp2
    go_ret
    exact ⟨s ++ t, by rw [ByteArray.size_append]; omega, rfl, D2.out⟩
  · subst hx
    go_wp2_with fail
    refine (d_belowN G a n cap zs ((s.size : Int) + 1) _ (by omega) (by omega) D1.out.1).mono ?_
    rintro e w2 ⟨x, hx0, hx1, rfl, hd⟩
    have D2 := hide (drew_trans D1.out hd)
    have hx2 : x ≤ (s.size : Int) := by omega
    clear hd
    go_wp2
    go_ret
    exact ⟨s.extract 0 x.toNat, by simp; omega, rfl, D2.out⟩
  · subst hx
    by_cases h0 : s.size = 0
    · have hz0 : ¬ (0 : Int) < (s.size : Int) := by omega
      go_wp2
      go_ret
      exact ⟨s, by omega, rfl, D1.out⟩
    · have hz0 : (0 : Int) < (s.size : Int) := by omega
      go_wp2_with fail
      refine (d_belowN G a n cap zs (s.size : Int) _ (by omega) (by omega) D1.out.1).mono ?_
      rintro e w2 ⟨x, hx0, hx1, rfl, hd⟩
      have D2 := hide (drew_trans D1.out hd)
      clear hd
      go_wp2_with fail
      refine hurt9 hs hx0 hx1 (by omega) D2.out.1 ?_
      intro u v t hd ht h4
      have D3 := hide (drew_trans D2.out hd)
      clear hd
      rw [h4]
      go_wp2
      go_ret
      exact ⟨t, by omega, rfl, D3.out⟩
  · have n0 : (x == 0) = false := by simp; omega
    have n1 : (x == 1) = false := by simp; omega
    have n2 : (x == 2) = false := by simp; omega
    go_wp2
    go_ret
    exact ⟨s, by omega, rfl, D1.out⟩
end Go.Proofs.Ytfohfljdgmlibaa
