/-
  Texts put together: Shelf, Split, BnI, BnMap.
-/
import Derived.Shelf.Unicode.ValidAny
import Derived.Shelf.Strings.Search1
import Derived.Shelf.Strings.Search2
import Derived.Test.YtogeicckbdfldaaDoorProg
import Derived.Test.YtogeicckbdfldaaDoorN2
import Derived.WalkKit
import Derived.Below
import Derived.RegionTactic
import Derived.ChangeAlike
import Derived.Lib.Walk
import Derived.Lib.Strings
import Derived.Lib.Bytealg
import Derived.Lib.IndexLaws
import Derived.Deep.Draws
import Derived.Laws.Strings3
import Derived.BigCall
import Derived.BigGuard
import Derived.Maps.Own
import Derived.Maps.OwnOps
import Derived.Maps.OwnSet
import Derived.Maps.Views
/-
  Contracts of Go's own library at this program, laid by the shelf's plain mode: each is one application of a theorem of the library.
-/
namespace Go.Proofs
open Go.Shelf
def Tryd.lays219_ren : Go.Shelf.Ren := ⟨fun | 219 => 78 | 217 => 84 | 225 => 85 | 224 => 86 | 267 => 87 | 266 => 90 | 314 => 91 | n => n, fun | 9 => 9 | 3 => 3 | 4 => 4 | 5 => 5 | 46 => 94 | 146 => 108 | 51 => 107 | n => n, fun | 1 => 0 | n => n⟩
theorem Tryd.lays219 : Go.Proofs.Lays.n219 Tryd.prog Tryd.lays219_ren := {
  mixed := by kernel_rfl
  f217 := Tryd.func84.trans (congrArg some (by kernel_rfl))
  f219 := Tryd.func78.trans (congrArg some (by kernel_rfl))
  f224 := Tryd.func86.trans (congrArg some (by kernel_rfl))
  f225 := Tryd.func85.trans (congrArg some (by kernel_rfl))
  f266 := Tryd.func90.trans (congrArg some (by kernel_rfl))
  f267 := Tryd.func87.trans (congrArg some (by kernel_rfl))
  f314 := Tryd.func91.trans (congrArg some (by kernel_rfl))
  t3 := Tryd.underlying3
  a3 := Tryd.isAgg3
  z3 := Tryd.sizeOf3
  v3 := Tryd.zeroValue3
  t4 := Tryd.underlying4
  a4 := Tryd.isAgg4
  z4 := Tryd.sizeOf4
  v4 := Tryd.zeroValue4
  t5 := Tryd.underlying5
  a5 := Tryd.isAgg5
  z5 := Tryd.sizeOf5
  v5 := Tryd.zeroValue5
  t9 := Tryd.underlying9
  a9 := Tryd.isAgg9
  z9 := Tryd.sizeOf9
  v9 := Tryd.zeroValue9
  t46 := Tryd.underlying94
  a46 := Tryd.isAgg94
  z46 := Tryd.sizeOf94
  v46 := Tryd.zeroValue94
  t51 := Tryd.underlying107
  a51 := Tryd.isAgg107
  z51 := Tryd.sizeOf107
  v51 := Tryd.zeroValue107
  t146 := Tryd.underlying108
  a146 := Tryd.isAgg108
  z146 := Tryd.sizeOf108
  v146 := Tryd.zeroValue108
  g1 := by kernel_rfl }
open Go.RowKit Go.Lib in
/-- internal/stringslite.Index (what strings.Index calls) AT A substr OF ONE BYTE c: IT RETURNS 'Lib.indexByte s c'; the world is as it was. (LAID: no walk: one application.) -/
theorem Tryd.stringslite_Index_one (s : ByteArray) (c : UInt8) (w : World) :
    Calls Tryd.prog 78 #[.string s, .string ⟨#[c]⟩] w fun e w' => e = .returned (.int .i64 (Lib.indexByte s.data.toList c)) ∧ w' = w := Any.stringslite_Index_one Tryd.lays219 s c w
def Tryd.laysValid_ren : Go.Shelf.Ren := ⟨fun | 196 => 80 | 259 => 89 | n => n, fun | 9 => 9 | 4 => 4 | 3 => 3 | 5 => 5 | 12 => 12 | 119 => 103 | 0 => 0 | 46 => 94 | 139 => 106 | 138 => 105 | 53 => 92 | n => n, fun | 3 => 1 | 4 => 2 | n => n⟩
theorem Tryd.laysValid : Go.Proofs.Lays.n196 Tryd.prog Tryd.laysValid_ren := {
  mixed := by kernel_rfl
  f196 := Tryd.func80.trans (congrArg some (by kernel_rfl))
  f259 := Tryd.func89.trans (congrArg some (by kernel_rfl))
  t0 := Tryd.underlying0
  a0 := Tryd.isAgg0
  z0 := Tryd.sizeOf0
  v0 := Tryd.zeroValue0
  t3 := Tryd.underlying3
  a3 := Tryd.isAgg3
  z3 := Tryd.sizeOf3
  v3 := Tryd.zeroValue3
  t4 := Tryd.underlying4
  a4 := Tryd.isAgg4
  z4 := Tryd.sizeOf4
  v4 := Tryd.zeroValue4
  t5 := Tryd.underlying5
  a5 := Tryd.isAgg5
  z5 := Tryd.sizeOf5
  v5 := Tryd.zeroValue5
  t9 := Tryd.underlying9
  a9 := Tryd.isAgg9
  z9 := Tryd.sizeOf9
  v9 := Tryd.zeroValue9
  t12 := Tryd.underlying12
  a12 := Tryd.isAgg12
  z12 := Tryd.sizeOf12
  v12 := Tryd.zeroValue12
  t46 := Tryd.underlying94
  a46 := Tryd.isAgg94
  z46 := Tryd.sizeOf94
  v46 := Tryd.zeroValue94
  t53 := Tryd.underlying92
  a53 := Tryd.isAgg92
  z53 := Tryd.sizeOf92
  v53 := Tryd.zeroValue92
  t119 := Tryd.underlying103
  a119 := Tryd.isAgg103
  z119 := Tryd.sizeOf103
  t138 := Tryd.underlying105
  a138 := Tryd.isAgg105
  z138 := Tryd.sizeOf105
  v138 := Tryd.zeroValue105
  t139 := Tryd.underlying106
  a139 := Tryd.isAgg106
  z139 := Tryd.sizeOf106
  v139 := Tryd.zeroValue106
  g3 := by kernel_rfl
  g4 := by kernel_rfl }
end Go.Proofs

/-
  Contracts: what the specification's and the program's Split answer, by where the first colon of the text stands; the world is as it was but for the count of draws.
-/
namespace Go.Proofs.YtogeicckbdfldaaDoor
open Go.RowKit
set_option linter.unusedVariables false
set_option linter.unusedSimpArgs false

/-- Where the first colon stands; -1: there is none. -/
def colon (s : ByteArray) : Int := Lib.indexByte s.data.toList 58
theorem colon_cases (s : ByteArray) : colon s = -1 ∨ ∃ k : Nat, colon s = k ∧ k < s.size := by
  by_cases h : colon s = -1
  · exact .inl h
  · right
    have := Lib.indexByte_ge s.data.toList 58
    refine ⟨(colon s).toNat, by unfold colon at *; omega, ?_⟩
    have e : Lib.indexByte s.data.toList 58 = ((colon s).toNat : Int) := by unfold colon at *; omega
    have h2 := (Lib.indexByte_some e).1
    have h3 : (colon s).toNat < s.data.toList.length := by
      rcases Nat.lt_or_ge (colon s).toNat s.data.toList.length with h4 | h4
      · exact h4
      · rw [List.getElem?_eq_none h4] at h2; simp at h2
    simpa using h3
theorem byte_at (s : ByteArray) (k : Nat) (h : k < s.size) : s.data.toList[k]? = some s[k] := by
  have h' : k < s.data.toList.length := by simpa using h
  rw [List.getElem?_eq_getElem h']; rfl
theorem byte_ne (b : UInt8) (h : b ≠ 58) : ((b.toNat : Int) == 58) = false := by
  have : b.toNat ≠ 58 := fun e => h (UInt8.toNat_inj.1 e)
  simp; omega
theorem colon_none {s : ByteArray} (h : colon s = -1) (k : Nat) (hk : k < s.size) : ((s[k].toNat : Int) == 58) = false := by
  apply byte_ne; intro e
  exact Lib.indexByte_none h k (by rw [byte_at s k hk, e])
theorem colon_hit {s : ByteArray} {o : Nat} (h : colon s = o) (ho : o < s.size) : ((s[o].toNat : Int) == 58) = true := by
  have := (Lib.indexByte_some h).1
  rw [byte_at s o ho] at this
  have e : s[o] = 58 := by simpa using this
  rw [e]; rfl
theorem colon_less {s : ByteArray} {o : Nat} (h : colon s = o) (k : Nat) (hk : k < o) (hs : k < s.size) : ((s[k].toNat : Int) == 58) = false := by
  apply byte_ne; intro e
  exact (Lib.indexByte_some h).2 k hk (by rw [byte_at s k hs, e])

def noText : ByteArray := ⟨#[]⟩

set_option maxHeartbeats 1000000 in
theorem i_cut_none (s : ByteArray) (w : World) (hs : s.size ≤ 1048576) (hc : colon s = -1) :
    Calls Tryd.prog 65 #[.string s, .string ⟨#[58]⟩] w fun e w' => e = (.returned (.tuple #[.string s, .string ⟨#[]⟩, .bool false]) : Ending) ∧ ∃ n, w' = w.drewN n := by
  have HC : Hid (colon s = -1) := hc
  clear hc
  go_enter Tryd.func65, Tryd.ntmps65
  go_wp2_with (go_at_call 78; refine (Tryd.stringslite_Index_one _ _ _).mono ?_; rintro e w' ⟨rfl, rfl⟩; rw [show Lib.indexByte s.data.toList 58 = _ from HC.out])
  go_ret3
  exact ⟨rfl, 0, rfl⟩

set_option maxHeartbeats 1000000 in
theorem i_cut_some (s : ByteArray) (k : Nat) (w : World) (hs : s.size ≤ 1048576) (hc : colon s = k) (hk : k < s.size) :
    Calls Tryd.prog 65 #[.string s, .string ⟨#[58]⟩] w fun e w' => e = (.returned (.tuple #[.string (s.extract 0 k), .string (s.extract (k + 1) s.size), .bool true]) : Ending) ∧ ∃ n, w' = w.drewN n := by
  have HC : Hid (colon s = k) := hc
  clear hc
  have c1 : (0 : Int) ≤ ↑k := by omega
  have c2 : (↑k : Int) ≤ ↑s.size := by omega
  have c3 : (0 : Int) ≤ ↑k + 1 := by omega
  have c4 : (↑k + 1 : Int) ≤ ↑s.size := by omega
  go_enter Tryd.func65, Tryd.ntmps65
  go_wp2_with (go_at_call 78; refine (Tryd.stringslite_Index_one _ _ _).mono ?_; rintro e w' ⟨rfl, rfl⟩; rw [show Lib.indexByte s.data.toList 58 = _ from HC.out])
  go_region
  go_wp2
  go_ret3
  exact ⟨rfl, 1, rfl⟩

set_option maxHeartbeats 1000000 in
theorem i_scut_none (s : ByteArray) (w : World) (hs : s.size ≤ 1048576) (hc : colon s = -1) :
    Calls Tryd.prog 43 #[.string s, .string ⟨#[58]⟩] w fun e w' => e = (.returned (.tuple #[.string s, .string ⟨#[]⟩, .bool false]) : Ending) ∧ ∃ n, w' = w.drewN n := by
  have HC : Hid (colon s = -1) := hc
  clear hc
  go_enter Tryd.func43, Tryd.ntmps43
  go_wp2_with (go_at_call 65; refine (i_cut_none _ _ hs HC.out).mono ?_; rintro e w' ⟨rfl, n, rfl⟩)
  go_ret3
  exact ⟨rfl, _, rfl⟩

set_option maxHeartbeats 1000000 in
theorem i_scut_some (s : ByteArray) (k : Nat) (w : World) (hs : s.size ≤ 1048576) (hc : colon s = k) (hk : k < s.size) :
    Calls Tryd.prog 43 #[.string s, .string ⟨#[58]⟩] w fun e w' => e = (.returned (.tuple #[.string (s.extract 0 k), .string (s.extract (k + 1) s.size), .bool true]) : Ending) ∧ ∃ n, w' = w.drewN n := by
  have HC : Hid (colon s = k) := hc
  clear hc
  go_enter Tryd.func43, Tryd.ntmps43
  go_wp2_with (go_at_call 65; refine (i_cut_some _ k _ hs HC.out hk).mono ?_; rintro e w' ⟨rfl, n, rfl⟩)
  go_ret3
  exact ⟨rfl, _, rfl⟩

def pre (s : ByteArray) : ByteArray := s.extract 0 (colon s).toNat
def post (s : ByteArray) : ByteArray := s.extract ((colon s).toNat + 1) s.size
def spl (s : ByteArray) : ByteArray × ByteArray × Bool :=
  if colon s = -1 then (if nameB s = true then (noText, s, true) else (noText, noText, false))
  else if nameB (pre s) = true ∧ nameB (post s) = true then (pre s, post s, true) else (noText, noText, false)
theorem spl_a {s : ByteArray} (h : colon s = -1) (h1 : nameB s = true) : spl s = (noText, s, true) := by rw [spl, if_pos h, if_pos h1]
theorem spl_b {s : ByteArray} (h : colon s = -1) (h1 : nameB s = false) : spl s = (noText, noText, false) := by rw [spl, if_pos h, if_neg (by simp [h1])]
theorem pre_eq {s : ByteArray} {k : Nat} (h : colon s = k) : pre s = s.extract 0 k := by rw [pre, h]; rfl
theorem post_eq {s : ByteArray} {k : Nat} (h : colon s = k) : post s = s.extract (k + 1) s.size := by rw [post, h]; rfl
theorem spl_c {s : ByteArray} {k : Nat} (h : colon s = k) (h1 : nameB (s.extract 0 k) = true) (h2 : nameB (s.extract (k + 1) s.size) = true) : spl s = (s.extract 0 k, s.extract (k + 1) s.size, true) := by
  rw [spl, if_neg (by omega), pre_eq h, post_eq h, if_pos ⟨h1, h2⟩]
theorem spl_d {s : ByteArray} {k : Nat} (h : colon s = k) (h1 : nameB (s.extract 0 k) = false ∨ nameB (s.extract (k + 1) s.size) = false) : spl s = (noText, noText, false) := by
  rw [spl, if_neg (by omega), pre_eq h, post_eq h, if_neg (by rintro ⟨a, b⟩; rcases h1 with h1 | h1 <;> simp_all)]
theorem piece_len (s : ByteArray) (a b : Nat) (hs : s.size ≤ 1048576) : (s.extract a b).size ≤ maxLen := by
  rw [ByteArray.size_extract]; unfold maxLen; omega
theorem text_len (s : ByteArray) (hs : s.size ≤ 1048576) : s.size ≤ maxLen := by unfold maxLen; omega

set_option maxHeartbeats 1000000 in
theorem i_split_none (s : ByteArray) (b : Bool) (w : World) (hs : s.size ≤ 1048576) (hc : colon s = -1) (hn : nameB s = b) :
    Calls Tryd.prog 17 #[.string s] w fun e w' => e = (if b = true then (.returned (.tuple #[.string ⟨#[]⟩, .string s, .bool true]) : Ending) else (.returned (.tuple #[.string ⟨#[]⟩, .string ⟨#[]⟩, .bool false]) : Ending)) ∧ ∃ n, w' = w.drewN n := by
  have HC : Hid (colon s = -1) := hc
  clear hc
  have hl := text_len s hs
  cases b
  all_goals
    go_enter Tryd.func17, Tryd.ntmps17
    go_wp2_with (first | (go_at_call 43; refine (i_scut_none _ _ hs HC.out).mono ?_; rintro e w' ⟨rfl, n, rfl⟩) | (go_at_call 44; refine (i_name _ _ hl).mono ?_; rintro e w' ⟨rfl, rfl⟩))
    go_ret3
    exact ⟨rfl, _, rfl⟩

set_option maxHeartbeats 1000000 in
theorem i_split_some (s : ByteArray) (k : Nat) (b1 b2 : Bool) (w : World) (hs : s.size ≤ 1048576) (hc : colon s = k) (hk : k < s.size) (h1 : nameB (s.extract 0 k) = b1) (h2 : nameB (s.extract (k + 1) s.size) = b2) :
    Calls Tryd.prog 17 #[.string s] w fun e w' => e = (if b1 = true ∧ b2 = true then (.returned (.tuple #[.string (s.extract 0 k), .string (s.extract (k + 1) s.size), .bool true]) : Ending) else (.returned (.tuple #[.string ⟨#[]⟩, .string ⟨#[]⟩, .bool false]) : Ending)) ∧ ∃ n, w' = w.drewN n := by
  have HC : Hid (colon s = k) := hc
  clear hc
  have l1 := piece_len s 0 k hs
  have l2 := piece_len s (k + 1) s.size hs
  cases b1 <;> cases b2
  all_goals
    go_enter Tryd.func17, Tryd.ntmps17
    go_wp2_with (first | (go_at_call 43; refine (i_scut_some _ k _ hs HC.out hk).mono ?_; rintro e w' ⟨rfl, n, rfl⟩) | (go_at_call 44; refine (i_name _ _ (by first | exact l1 | exact l2)).mono ?_; rintro e w' ⟨rfl, rfl⟩))
    go_ret3
    exact ⟨by simp, _, rfl⟩

set_option maxHeartbeats 2000000 in
theorem s_split_none (s : ByteArray) (b : Bool) (w : World) (hs : s.size ≤ 1048576) (hc : colon s = -1) (hn : nameB s = b) :
    Calls Tryd.prog 40 #[.string s] w fun e w' => e = (if b = true then (.returned (.tuple #[.string ⟨#[]⟩, .string s, .bool true]) : Ending) else (.returned (.tuple #[.string ⟨#[]⟩, .string ⟨#[]⟩, .bool false]) : Ending)) ∧ ∃ n, w' = w.drewN n := by
  have HC : Hid (colon s = -1) := hc
  clear hc
  have hl := text_len s hs
  cases b
  all_goals
    go_enter Tryd.func40, Tryd.ntmps40
    go_wp2
    go_loop [5, 6] (fun a i => ∃ k : Nat, k ≤ s.size ∧ a = .int .i64 (-1) ∧ i = .int .i64 k) (fun _ i => s.size - (intOf i).toNat)
    case atStart => exact ⟨0, by omega, rfl, rfl⟩
    case round =>
      obtain ⟨k, hk, rfl, rfl⟩ := hrel
      by_cases hlt : k < s.size
      · have hb := colon_none HC.out k hlt
        go_wp2
        go_round
        case rel => exact ⟨k + 1, by omega, rfl, by go_num⟩
        case measure => simp [intOf]; omega
      · go_wp2_with (go_at_call 64; refine (s_name _ _ hl).mono ?_; rintro e w' ⟨rfl, rfl⟩)
        go_ret3
        exact ⟨rfl, 0, rfl⟩

set_option maxHeartbeats 4000000 in
theorem s_split_some (s : ByteArray) (k : Nat) (b1 b2 : Bool) (w : World) (hs : s.size ≤ 1048576) (hc : colon s = k) (hk : k < s.size) (h1 : nameB (s.extract 0 k) = b1) (h2 : nameB (s.extract (k + 1) s.size) = b2) :
    Calls Tryd.prog 40 #[.string s] w fun e w' => e = (if b1 = true ∧ b2 = true then (.returned (.tuple #[.string (s.extract 0 k), .string (s.extract (k + 1) s.size), .bool true]) : Ending) else (.returned (.tuple #[.string ⟨#[]⟩, .string ⟨#[]⟩, .bool false]) : Ending)) ∧ ∃ n, w' = w.drewN n := by
  have HC : Hid (colon s = k) := hc
  clear hc
  have l1 := piece_len s 0 k hs
  have l2 := piece_len s (k + 1) s.size hs
  have c1 : (0 : Int) ≤ ↑k := by omega
  have c2 : (↑k : Int) ≤ ↑s.size := by omega
  have c3 : (0 : Int) ≤ ↑k + 1 := by omega
  have c4 : (↑k + 1 : Int) ≤ ↑s.size := by omega
  cases b1 <;> cases b2
  all_goals
    go_enter Tryd.func40, Tryd.ntmps40
    go_wp2
    go_loop [5, 6] (fun a i => (∃ j : Nat, j ≤ k ∧ a = .int .i64 (-1) ∧ i = .int .i64 j) ∨ (a = .int .i64 k ∧ i = .int .i64 (k + 1))) (fun _ i => s.size - (intOf i).toNat)
    case atStart => exact .inl ⟨0, by omega, rfl, rfl⟩
    case round =>
      rcases hrel with ⟨j, hj, rfl, rfl⟩ | ⟨rfl, rfl⟩
      · have hjs : j < s.size := by omega
        by_cases hlt : j < k
        · have hb := colon_less HC.out j hlt hjs
          go_wp2
          go_round
          case rel => exact .inl ⟨j + 1, by omega, rfl, by go_num⟩
          case measure => simp [intOf]; omega
        · have e : j = k := by omega
          subst e
          have hb := colon_hit HC.out hjs
          go_wp2
          go_round
          case rel => exact .inr ⟨rfl, rfl⟩
          case measure => simp [intOf]; omega
      · by_cases hlt : k + 1 < s.size
        all_goals
          go_wp2_with (go_at_call 64; refine (s_name _ _ (by first | exact l1 | exact l2)).mono ?_; rintro e w' ⟨rfl, rfl⟩)
          first
            | (go_ret3; exact ⟨by simp, 0, rfl⟩)
            | (go_region; go_wp2; go_ret3; exact ⟨by simp, 1, rfl⟩)

theorem split_of (s : ByteArray) (w : World) (f : Nat) (hs : s.size ≤ 1048576)
    (hn : ∀ b, colon s = -1 → nameB s = b → Calls Tryd.prog f #[.string s] w fun e w' => e = (if b = true then (.returned (.tuple #[.string ⟨#[]⟩, .string s, .bool true]) : Ending) else (.returned (.tuple #[.string ⟨#[]⟩, .string ⟨#[]⟩, .bool false]) : Ending)) ∧ ∃ n, w' = w.drewN n)
    (hm : ∀ (k : Nat) b1 b2, colon s = k → k < s.size → nameB (s.extract 0 k) = b1 → nameB (s.extract (k + 1) s.size) = b2 → Calls Tryd.prog f #[.string s] w fun e w' => e = (if b1 = true ∧ b2 = true then (.returned (.tuple #[.string (s.extract 0 k), .string (s.extract (k + 1) s.size), .bool true]) : Ending) else (.returned (.tuple #[.string ⟨#[]⟩, .string ⟨#[]⟩, .bool false]) : Ending)) ∧ ∃ n, w' = w.drewN n) :
    Calls Tryd.prog f #[.string s] w fun e w' => e = (.returned (.tuple #[.string (spl s).1, .string (spl s).2.1, .bool (spl s).2.2]) : Ending) ∧ ∃ n, w' = w.drewN n := by
  rcases colon_cases s with h | ⟨k, h, hk⟩
  · cases hb : nameB s
    · refine (hn _ h hb).mono ?_; rintro e w' ⟨rfl, h'⟩; rw [spl_b h hb]; exact ⟨rfl, h'⟩
    · refine (hn _ h hb).mono ?_; rintro e w' ⟨rfl, h'⟩; rw [spl_a h hb]; exact ⟨rfl, h'⟩
  · cases h1 : nameB (s.extract 0 k)
    · refine (hm k _ _ h hk h1 rfl).mono ?_; rintro e w' ⟨rfl, h'⟩; rw [spl_d h (.inl h1)]; exact ⟨by simp [noText], h'⟩
    · cases h2 : nameB (s.extract (k + 1) s.size)
      · refine (hm k _ _ h hk h1 h2).mono ?_; rintro e w' ⟨rfl, h'⟩; rw [spl_d h (.inr h2)]; exact ⟨by simp [noText], h'⟩
      · refine (hm k _ _ h hk h1 h2).mono ?_; rintro e w' ⟨rfl, h'⟩; rw [spl_c h h1 h2]; exact ⟨by simp, h'⟩
theorem s_split (s : ByteArray) (w : World) (hs : s.size ≤ 1048576) : Calls Tryd.prog 40 #[.string s] w fun e w' => e = (.returned (.tuple #[.string (spl s).1, .string (spl s).2.1, .bool (spl s).2.2]) : Ending) ∧ ∃ n, w' = w.drewN n :=
  split_of s w _ hs (fun b h hb => s_split_none s b w hs h hb) (fun k b1 b2 h hk h1 h2 => s_split_some s k b1 b2 w hs h hk h1 h2)
theorem i_split (s : ByteArray) (w : World) (hs : s.size ≤ 1048576) : Calls Tryd.prog 17 #[.string s] w fun e w' => e = (.returned (.tuple #[.string (spl s).1, .string (spl s).2.1, .bool (spl s).2.2]) : Ending) ∧ ∃ n, w' = w.drewN n :=
  split_of s w _ hs (fun b h hb => i_split_none s b w hs h hb) (fun k b1 b2 h hk h1 h2 => i_split_some s k b1 b2 w hs h hk h1 h2)
end Go.Proofs.YtogeicckbdfldaaDoor

/-
  Names: which prefix an attribute binds, by the program; it is the one whose binding's name it has.
-/
namespace Go.Proofs.YtogeicckbdfldaaDoor
open Go.RowKit Go.Joins
set_option linter.unusedVariables false
set_option linter.unusedSimpArgs false
/-- The prefix that an attribute of this name binds. -/
def bdK (nm : ByteArray) : Option ByteArray :=
  if ((spl nm).1.toList == [120, 109, 108, 110, 115]) = true then some (spl nm).2.1 else if (nm.toList == [120, 109, 108, 110, 115]) = true then some ⟨#[]⟩ else none
theorem bi_ret {a a' : ByteArray} {b b' : Bool} (h1 : a' = a) (h2 : b' = b) : Ending.returned (.tuple #[.string a, .bool b]) = .returned (.tuple #[.string a', .bool b']) := by rw [h1, h2]
set_option maxHeartbeats 1000000 in
theorem i_binds (nm : ByteArray) (w : World) (hs : nm.size ≤ 1048576) :
    Calls Tryd.prog 61 #[.string nm] w fun e w' => e = .returned (.tuple #[.string ((bdK nm).getD ⟨#[]⟩), .bool (bdK nm).isSome]) ∧ ∃ q, w' = w.drewN q := by
  have CS := hide (i_split nm w hs)
  obtain ⟨B, hB⟩ : ∃ B, bdK nm = B := ⟨_, rfl⟩
  have hBB := hB
  unfold bdK at hBB
  rw [hB]
  obtain ⟨x, hx⟩ : ∃ x, spl nm = x := ⟨_, rfl⟩
  rw [hx] at CS hBB
  obtain ⟨p, l, k⟩ := x
  simp only at CS hBB
  clear hB hx
  cases f1 : (p.toList == [120, 109, 108, 110, 115])
  · rw [f1, if_neg (by decide)] at hBB
    cases f2 : (nm.toList == [120, 109, 108, 110, 115])
    · rw [f2, if_neg (by decide)] at hBB
      have HB := hide hBB
      clear hBB
      go_enter Tryd.func61, Tryd.ntmps61
      go_wp2_with (go_at_call 17; refine CS.out.mono ?_; rintro e w1 ⟨rfl, q, rfl⟩)
      go_ret2
      exact ⟨bi_ret (by rw [← HB.out]; rfl) (by rw [← HB.out]; rfl), q, rfl⟩
    · rw [f2, if_pos rfl] at hBB
      have HB := hide hBB
      clear hBB
      go_enter Tryd.func61, Tryd.ntmps61
      go_wp2_with (go_at_call 17; refine CS.out.mono ?_; rintro e w1 ⟨rfl, q, rfl⟩)
      go_ret2
      exact ⟨bi_ret (by rw [← HB.out]; rfl) (by rw [← HB.out]; rfl), q, rfl⟩
  · rw [f1, if_pos rfl] at hBB
    have HB := hide hBB
    clear hBB
    go_enter Tryd.func61, Tryd.ntmps61
    go_wp2_with (go_at_call 17; refine CS.out.mono ?_; rintro e w1 ⟨rfl, q, rfl⟩)
    go_ret2
    exact ⟨bi_ret (by rw [← HB.out]; rfl) (by rw [← HB.out]; rfl), q, rfl⟩
theorem bi_lit {m : ByteArray} {l : List UInt8} : (m.toList == l) = true ↔ m.data.toList = l := by rw [ByteArray.toList_eq, beq_iff_eq]
theorem bi_ext {a b : ByteArray} (h : a.data.toList = b.data.toList) : a = b := ByteArray.ext (Array.ext' h)
theorem bi_exl (s : ByteArray) (a b : Nat) : (s.extract a b).data.toList = (s.data.toList.take b).drop a := by
  rw [ByteArray.data_extract, Array.toList_extract]
  simp [List.extract_eq_take_drop, List.drop_take]
theorem bi_rest (s : ByteArray) (a : Nat) : (s.extract a s.size).data.toList = s.data.toList.drop a := by
  rw [bi_exl, List.take_of_length_le (by rw [Array.length_toList]; exact Nat.le_refl _)]
theorem colon_at {s : ByteArray} {k : Nat} (h : colon s = k) : s.data.toList = (pre s).data.toList ++ 58 :: (post s).data.toList := by
  have h1 := Lib.indexByte_some (l := s.data.toList) (c := 58) (o := k) h
  rw [pre_eq h, post_eq h, bi_exl, bi_rest, List.drop_zero]
  have hl : k < s.data.toList.length := (List.getElem?_eq_some_iff.1 h1.1).1
  have he : s.data.toList[k] = 58 := (List.getElem?_eq_some_iff.1 h1.1).2
  conv => lhs; rw [← List.take_append_drop k s.data.toList]
  rw [List.drop_eq_getElem_cons hl, he]
theorem bnN_some {q : ByteArray} (h : q.toList.isEmpty = false) : (bnN q).data.toList = [120, 109, 108, 110, 115, 58] ++ q.data.toList := by
  unfold bnN
  rw [h]
  simp
theorem bnN_col {q : ByteArray} (h : q.toList.isEmpty = false) : colon (bnN q) = 5 := by
  unfold colon
  rw [bnN_some h]
  simp [Lib.indexByte]
theorem bnN_nil {q : ByteArray} (h : q.toList.isEmpty = true) : (bnN q).data.toList = [120, 109, 108, 110, 115] := by
  unfold bnN
  rw [h]
  rfl
theorem bnN_coln {q : ByteArray} (h : q.toList.isEmpty = true) : colon (bnN q) = -1 := by
  unfold colon
  rw [bnN_nil h]
  decide
theorem empty_eq {q : ByteArray} (h : q.toList.isEmpty = true) : q = ⟨#[]⟩ := by
  apply bi_ext
  rw [ByteArray.toList_eq] at h
  simpa using h
/-- A right name binds q just where it is the name of q's binding. -/
theorem bd_iff {nm q : ByteArray} (h : (spl nm).2.2 = true) (hq : nameB ⟨#[]⟩ = false) : bdK nm = some q ↔ bnN q = nm := by
  rcases colon_cases nm with hc | ⟨k, hc, hk⟩
  · have hn : nameB nm = true := by
      cases hb : nameB nm
      · rw [spl_b hc hb] at h; cases h
      · rfl
    have hs := spl_a hc hn
    have h1 : bdK nm = if (nm.toList == [120, 109, 108, 110, 115]) = true then some ⟨#[]⟩ else none := by
      unfold bdK
      rw [hs]
      have : ((noText : ByteArray).toList == [120, 109, 108, 110, 115]) = false := by rw [ByteArray.toList_eq]; rfl
      simp only [this]
      rfl
    rw [h1]
    constructor
    · intro h2
      split at h2
      · rename_i h3
        cases h2
        apply bi_ext
        rw [bi_lit.1 h3]
        exact bnN_nil (by rw [ByteArray.toList_eq]; rfl)
      · cases h2
    · intro h2
      cases hqe : q.toList.isEmpty
      · have := bnN_col hqe
        rw [h2, hc] at this
        cases this
      · rw [if_pos (bi_lit.2 (by rw [← h2]; exact bnN_nil hqe)), empty_eq hqe]
  · have hn : nameB (pre nm) = true ∧ nameB (post nm) = true := by
      unfold spl at h
      rw [if_neg (by omega)] at h
      split at h
      · assumption
      · cases h
    have hs : spl nm = (pre nm, post nm, true) := by
      unfold spl
      rw [if_neg (by omega), if_pos hn]
    have hat := colon_at hc
    have hx : (nm.toList == [120, 109, 108, 110, 115]) = false := by
      cases hb : (nm.toList == [120, 109, 108, 110, 115])
      · rfl
      · have h2 := bi_lit.1 hb
        have : colon nm = -1 := by unfold colon; rw [h2]; decide
        omega
    have h1 : bdK nm = if ((pre nm).toList == [120, 109, 108, 110, 115]) = true then some (post nm) else none := by
      unfold bdK
      rw [hs, hx]
      rfl
    have hpe : (post nm).toList.isEmpty = false := by
      cases hb : (post nm).toList.isEmpty
      · rfl
      · rw [empty_eq hb, hq] at hn; cases hn.2
    rw [h1]
    constructor
    · intro h2
      split at h2
      · rename_i h3
        cases h2
        apply bi_ext
        rw [bnN_some hpe, hat, bi_lit.1 h3]
        simp
      · cases h2
    · intro h2
      cases hqe : q.toList.isEmpty
      · have h5 := bnN_col hqe
        have e := bnN_some hqe
        have hp : (pre nm).data.toList = [120, 109, 108, 110, 115] := by
          rw [← h2]
          unfold pre
          rw [h5, bi_exl, e]
          simp
        have hpo : post nm = q := by
          apply bi_ext
          rw [← h2]
          unfold post
          rw [h5, bi_rest, e]
          simp
        rw [if_pos (bi_lit.2 hp), hpo]
      · have := bnN_coln hqe
        rw [h2] at this
        omega
end Go.Proofs.YtogeicckbdfldaaDoor

/-
  Maps from a prefix to a binding (a struct of one text), that the call makes itself: what they say at each prefix.
-/
namespace Go.Proofs.YtogeicckbdfldaaDoor
open Go.RowKit Go.Maps
set_option linter.unusedVariables false
set_option linter.unusedSimpArgs false
/-- How a binding reads. -/
def bR : Value → Option (DataW Unit × List MemPlace)
  | .agg cs => match cs.toList with
    | [.string s] => some (.lit (.string s.data.toList), [])
    | _ => none
  | _ => none
theorem bR_mk (s : ByteArray) : bR (.agg #[.string s]) = some (.lit (.string s.data.toList), []) := rfl
theorem bR_inv {v : Value} {d : DataW Unit} {ps : List MemPlace} (h : bR v = some (d, ps)) : ∃ s : ByteArray, v = .agg #[.string s] ∧ d = .lit (.string s.data.toList) := by
  unfold bR at h
  split at h
  · rename_i cs
    split at h
    · rename_i s hs
      cases h
      refine ⟨s, ?_, rfl⟩
      congr 1
      exact Array.ext' hs
    · cases h
  · cases h
def kL (q : ByteArray) : Lit := .string q.data.toList
theorem kL_ne {q q' : ByteArray} (h : q' ≠ q) : kL q' ≠ kL q := fun e => h (by
  unfold kL at e
  exact ByteArray.ext (Array.ext' (Lit.string.inj e)))
/-- The map says f. -/
def MapSays (D : DataW Unit) (f : ByteArray → Option ByteArray) : Prop :=
  IsMap D ∧ ∀ q, has D (kL q) = (f q).isSome ∧ D.atKey (kL q) (.lit (.string [])) = .lit (.string ((f q).getD ⟨#[]⟩).data.toList)
theorem says_nil : MapSays (.map []) (fun _ => none) := ⟨isMap_empty, fun q => ⟨rfl, rfl⟩⟩
theorem says_put {D : DataW Unit} {f : ByteArray → Option ByteArray} (h : MapSays D f) (k v : ByteArray) : MapSays (D.put (kL k) (.lit (.string v.data.toList))) (fun q => if q = k then some v else f q) := by
  refine ⟨?_, fun q => ?_⟩
  · obtain ⟨es, rfl⟩ := h.1
    exact ⟨_, rfl⟩
  · by_cases e : q = k
    · subst e
      simp only [if_pos]
      exact ⟨has_put_same h.1 (by trivial) _, atKey_put_same h.1 (by trivial) _ _⟩
    · simp only [if_neg e]
      rw [has_put_other (kL_ne e), atKey_put_other (kL_ne e)]
      exact h.2 q
theorem lawK : Keyed Tryd.prog 9 := string_keyed Tryd.underlying9
theorem look_bind {ops : Array Oper} {rest : List Oper} {o : Oper} {a : Act} {Q : Exit → Act → World → Prop} (w : World) (hg : o.guard = none) (m x : Operand) (t e : TypeId) (hop : o.op = Op.lookup t m x true)
    (ht : Tryd.prog.underlying t = some (.map 9 e)) (hz : (zeroValue e).run Tryd.prog w = .ok (.agg #[.string ⟨#[]⟩]) w) (b n : Nat) (D : DataW Unit) (f : ByteArray → Option ByteArray)
    (hm : a.eval m = .map (some b)) (hown : w.ownsMap Tryd.prog 9 bR b n D) (hf : MapSays D f) (q : ByteArray) (hx : a.eval x = .string q) (hq : q.size ≤ maxLen)
    (hK : wpList Tryd.prog ops Q rest (a.put o.dst (.tuple #[.agg #[.string ((f q).getD ⟨#[]⟩)], .bool (f q).isSome])) w) :
    wpList Tryd.prog ops Q (o :: rest) a w := by
  refine wpList_lookup_own_ok w hg m x t hop 9 e lawK ht bR hz (.lit (.string [])) [] (bR_mk ⟨#[]⟩) b n D hm hown _ (kL q) hx (Go.WideMaps.keyOf_string_mk Tryd.underlying9 hq) (fun v ps hv => ?_)
  obtain ⟨s, rfl, hd⟩ := bR_inv hv
  obtain ⟨h1, h2⟩ := hf.2 q
  rw [h2] at hd
  have e1 : s = (f q).getD ⟨#[]⟩ := by
    have h3 := DataW.lit.inj hd
    exact ByteArray.ext (Array.ext' (Lit.string.inj h3).symm)
  rw [e1]
  have e2 : Maps.has D (kL q) = (f q).isSome := h1
  rw [e2]
  exact hK
end Go.Proofs.YtogeicckbdfldaaDoor
