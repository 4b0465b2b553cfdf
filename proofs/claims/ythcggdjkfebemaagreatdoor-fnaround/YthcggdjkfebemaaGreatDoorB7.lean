/-
  Texts put together: Split, DocAt2.
-/
import Derived.Test.YthcggdjkfebemaaGreatDoorB6
import Derived.Test.YthcggdjkfebemaaGreatDoorB1
import Derived.WalkKit
import Derived.Below
import Derived.RegionTactic
import Derived.ChangeAlike
import Derived.Lib.Walk
import Derived.Lib.Strings
import Derived.Lib.Bytealg
import Derived.Lib.IndexLaws
import Derived.Deep.Draws
import Derived.Laws.Strings3
import Derived.BigCall
import Derived.BigGuard
import Derived.Test.YthcggdjkfebemaaGreatDoorB3
import Derived.Deep.DeepCutAuto
/-
  Contracts: what the specification's and the program's Split answer, by where the first colon of the text stands; the world is as it was but for the count of draws.
-/
namespace Go.Proofs.YthcggdjkfebemaaGreatDoor
open Go.RowKit
set_option linter.unusedVariables false
set_option linter.unusedSimpArgs false

/-- Where the first colon stands; -1: there is none. -/
def colon (s : ByteArray) : Int := Lib.indexByte s.data.toList 58
theorem colon_cases (s : ByteArray) : colon s = -1 ∨ ∃ k : Nat, colon s = k ∧ k < s.size := by
  by_cases h : colon s = -1
  · exact .inl h
  · right
    have := Lib.indexByte_ge s.data.toList 58
    refine ⟨(colon s).toNat, by unfold colon at *; omega, ?_⟩
    have e : Lib.indexByte s.data.toList 58 = ((colon s).toNat : Int) := by unfold colon at *; omega
    have h2 := (Lib.indexByte_some e).1
    have h3 : (colon s).toNat < s.data.toList.length := by
      rcases Nat.lt_or_ge (colon s).toNat s.data.toList.length with h4 | h4
      · exact h4
      · rw [List.getElem?_eq_none h4] at h2; simp at h2
    simpa using h3
theorem byte_at (s : ByteArray) (k : Nat) (h : k < s.size) : s.data.toList[k]? = some s[k] := by
  have h' : k < s.data.toList.length := by simpa using h
  rw [List.getElem?_eq_getElem h']; rfl
theorem byte_ne (b : UInt8) (h : b ≠ 58) : ((b.toNat : Int) == 58) = false := by
  have : b.toNat ≠ 58 := fun e => h (UInt8.toNat_inj.1 e)
  simp; omega
theorem colon_none {s : ByteArray} (h : colon s = -1) (k : Nat) (hk : k < s.size) : ((s[k].toNat : Int) == 58) = false := by
  apply byte_ne; intro e
  exact Lib.indexByte_none h k (by rw [byte_at s k hk, e])
theorem colon_hit {s : ByteArray} {o : Nat} (h : colon s = o) (ho : o < s.size) : ((s[o].toNat : Int) == 58) = true := by
  have := (Lib.indexByte_some h).1
  rw [byte_at s o ho] at this
  have e : s[o] = 58 := by simpa using this
  rw [e]; rfl
theorem colon_less {s : ByteArray} {o : Nat} (h : colon s = o) (k : Nat) (hk : k < o) (hs : k < s.size) : ((s[k].toNat : Int) == 58) = false := by
  apply byte_ne; intro e
  exact (Lib.indexByte_some h).2 k hk (by rw [byte_at s k hs, e])

def noText : ByteArray := ⟨#[]⟩

set_option maxHeartbeats 1000000 in
theorem i_cut_none (s : ByteArray) (w : World) (hs : s.size ≤ 1048576) (hc : colon s = -1) :
    Calls Tryz.prog 115 #[.string s, .string ⟨#[58]⟩] w fun e w' => e = (.returned (.tuple #[.string s, .string ⟨#[]⟩, .bool false]) : Ending) ∧ ∃ n, w' = w.drewN n := by
  have HC : Hid (colon s = -1) := hc
  clear hc
  go_enter Tryz.func115, Tryz.ntmps115
  go_wp2_with (go_at_call 124; refine (Tryz.stringslite_Index_one _ _ _).mono ?_; rintro e w' ⟨rfl, rfl⟩; rw [show Lib.indexByte s.data.toList 58 = _ from HC.out])
  go_ret3
  exact ⟨rfl, 0, rfl⟩

set_option maxHeartbeats 1000000 in
theorem i_cut_some (s : ByteArray) (k : Nat) (w : World) (hs : s.size ≤ 1048576) (hc : colon s = k) (hk : k < s.size) :
    Calls Tryz.prog 115 #[.string s, .string ⟨#[58]⟩] w fun e w' => e = (.returned (.tuple #[.string (s.extract 0 k), .string (s.extract (k + 1) s.size), .bool true]) : Ending) ∧ ∃ n, w' = w.drewN n := by
  have HC : Hid (colon s = k) := hc
  clear hc
  have c1 : (0 : Int) ≤ ↑k := by omega
  have c2 : (↑k : Int) ≤ ↑s.size := by omega
  have c3 : (0 : Int) ≤ ↑k + 1 := by omega
  have c4 : (↑k + 1 : Int) ≤ ↑s.size := by omega
  go_enter Tryz.func115, Tryz.ntmps115
  go_wp2_with (go_at_call 124; refine (Tryz.stringslite_Index_one _ _ _).mono ?_; rintro e w' ⟨rfl, rfl⟩; rw [show Lib.indexByte s.data.toList 58 = _ from HC.out])
  go_region
  go_wp2
  go_ret3
  exact ⟨rfl, 1, rfl⟩

set_option maxHeartbeats 1000000 in
theorem i_scut_none (s : ByteArray) (w : World) (hs : s.size ≤ 1048576) (hc : colon s = -1) :
    Calls Tryz.prog 94 #[.string s, .string ⟨#[58]⟩] w fun e w' => e = (.returned (.tuple #[.string s, .string ⟨#[]⟩, .bool false]) : Ending) ∧ ∃ n, w' = w.drewN n := by
  have HC : Hid (colon s = -1) := hc
  clear hc
  go_enter Tryz.func94, Tryz.ntmps94
  go_wp2_with (go_at_call 115; refine (i_cut_none _ _ hs HC.out).mono ?_; rintro e w' ⟨rfl, n, rfl⟩)
  go_ret3
  exact ⟨rfl, _, rfl⟩

set_option maxHeartbeats 1000000 in
theorem i_scut_some (s : ByteArray) (k : Nat) (w : World) (hs : s.size ≤ 1048576) (hc : colon s = k) (hk : k < s.size) :
    Calls Tryz.prog 94 #[.string s, .string ⟨#[58]⟩] w fun e w' => e = (.returned (.tuple #[.string (s.extract 0 k), .string (s.extract (k + 1) s.size), .bool true]) : Ending) ∧ ∃ n, w' = w.drewN n := by
  have HC : Hid (colon s = k) := hc
  clear hc
  go_enter Tryz.func94, Tryz.ntmps94
  go_wp2_with (go_at_call 115; refine (i_cut_some _ k _ hs HC.out hk).mono ?_; rintro e w' ⟨rfl, n, rfl⟩)
  go_ret3
  exact ⟨rfl, _, rfl⟩

def pre (s : ByteArray) : ByteArray := s.extract 0 (colon s).toNat
def post (s : ByteArray) : ByteArray := s.extract ((colon s).toNat + 1) s.size
def spl (s : ByteArray) : ByteArray × ByteArray × Bool :=
  if colon s = -1 then (if nameB s = true then (noText, s, true) else (noText, noText, false))
  else if nameB (pre s) = true ∧ nameB (post s) = true then (pre s, post s, true) else (noText, noText, false)
theorem spl_a {s : ByteArray} (h : colon s = -1) (h1 : nameB s = true) : spl s = (noText, s, true) := by rw [spl, if_pos h, if_pos h1]
theorem spl_b {s : ByteArray} (h : colon s = -1) (h1 : nameB s = false) : spl s = (noText, noText, false) := by rw [spl, if_pos h, if_neg (by simp [h1])]
theorem pre_eq {s : ByteArray} {k : Nat} (h : colon s = k) : pre s = s.extract 0 k := by rw [pre, h]; rfl
theorem post_eq {s : ByteArray} {k : Nat} (h : colon s = k) : post s = s.extract (k + 1) s.size := by rw [post, h]; rfl
theorem spl_c {s : ByteArray} {k : Nat} (h : colon s = k) (h1 : nameB (s.extract 0 k) = true) (h2 : nameB (s.extract (k + 1) s.size) = true) : spl s = (s.extract 0 k, s.extract (k + 1) s.size, true) := by
  rw [spl, if_neg (by omega), pre_eq h, post_eq h, if_pos ⟨h1, h2⟩]
theorem spl_d {s : ByteArray} {k : Nat} (h : colon s = k) (h1 : nameB (s.extract 0 k) = false ∨ nameB (s.extract (k + 1) s.size) = false) : spl s = (noText, noText, false) := by
  rw [spl, if_neg (by omega), pre_eq h, post_eq h, if_neg (by rintro ⟨a, b⟩; rcases h1 with h1 | h1 <;> simp_all)]
theorem piece_len (s : ByteArray) (a b : Nat) (hs : s.size ≤ 1048576) : (s.extract a b).size ≤ maxLen := by
  rw [ByteArray.size_extract]; unfold maxLen; omega
theorem text_len (s : ByteArray) (hs : s.size ≤ 1048576) : s.size ≤ maxLen := by unfold maxLen; omega

set_option maxHeartbeats 1000000 in
theorem i_split_none (s : ByteArray) (b : Bool) (w : World) (hs : s.size ≤ 1048576) (hc : colon s = -1) (hn : nameB s = b) :
    Calls Tryz.prog 75 #[.string s] w fun e w' => e = (if b = true then (.returned (.tuple #[.string ⟨#[]⟩, .string s, .bool true]) : Ending) else (.returned (.tuple #[.string ⟨#[]⟩, .string ⟨#[]⟩, .bool false]) : Ending)) ∧ ∃ n, w' = w.drewN n := by
  have HC : Hid (colon s = -1) := hc
  clear hc
  have hl := text_len s hs
  cases b
  all_goals
    go_enter Tryz.func75, Tryz.ntmps75
    go_wp2_with (first | (go_at_call 94; refine (i_scut_none _ _ hs HC.out).mono ?_; rintro e w' ⟨rfl, n, rfl⟩) | (go_at_call 95; refine (i_name _ _ hl).mono ?_; rintro e w' ⟨rfl, rfl⟩))
    go_ret3
    exact ⟨rfl, _, rfl⟩

set_option maxHeartbeats 1000000 in
theorem i_split_some (s : ByteArray) (k : Nat) (b1 b2 : Bool) (w : World) (hs : s.size ≤ 1048576) (hc : colon s = k) (hk : k < s.size) (h1 : nameB (s.extract 0 k) = b1) (h2 : nameB (s.extract (k + 1) s.size) = b2) :
    Calls Tryz.prog 75 #[.string s] w fun e w' => e = (if b1 = true ∧ b2 = true then (.returned (.tuple #[.string (s.extract 0 k), .string (s.extract (k + 1) s.size), .bool true]) : Ending) else (.returned (.tuple #[.string ⟨#[]⟩, .string ⟨#[]⟩, .bool false]) : Ending)) ∧ ∃ n, w' = w.drewN n := by
  have HC : Hid (colon s = k) := hc
  clear hc
  have l1 := piece_len s 0 k hs
  have l2 := piece_len s (k + 1) s.size hs
  cases b1 <;> cases b2
  all_goals
    go_enter Tryz.func75, Tryz.ntmps75
    go_wp2_with (first | (go_at_call 94; refine (i_scut_some _ k _ hs HC.out hk).mono ?_; rintro e w' ⟨rfl, n, rfl⟩) | (go_at_call 95; refine (i_name _ _ (by first | exact l1 | exact l2)).mono ?_; rintro e w' ⟨rfl, rfl⟩))
    go_ret3
    exact ⟨by simp, _, rfl⟩

set_option maxHeartbeats 2000000 in
theorem s_split_none (s : ByteArray) (b : Bool) (w : World) (hs : s.size ≤ 1048576) (hc : colon s = -1) (hn : nameB s = b) :
    Calls Tryz.prog 74 #[.string s] w fun e w' => e = (if b = true then (.returned (.tuple #[.string ⟨#[]⟩, .string s, .bool true]) : Ending) else (.returned (.tuple #[.string ⟨#[]⟩, .string ⟨#[]⟩, .bool false]) : Ending)) ∧ ∃ n, w' = w.drewN n := by
  have HC : Hid (colon s = -1) := hc
  clear hc
  have hl := text_len s hs
  cases b
  all_goals
    go_enter Tryz.func74, Tryz.ntmps74
    go_wp2
    go_loop [5, 6] (fun a i => ∃ k : Nat, k ≤ s.size ∧ a = .int .i64 (-1) ∧ i = .int .i64 k) (fun _ i => s.size - (intOf i).toNat)
    case atStart => exact ⟨0, by omega, rfl, rfl⟩
    case round =>
      obtain ⟨k, hk, rfl, rfl⟩ := hrel
      by_cases hlt : k < s.size
      · have hb := colon_none HC.out k hlt
        go_wp2
        go_round
        case rel => exact ⟨k + 1, by omega, rfl, by go_num⟩
        case measure => simp [intOf]; omega
      · go_wp2_with (go_at_call 93; refine (s_name _ _ hl).mono ?_; rintro e w' ⟨rfl, rfl⟩)
        go_ret3
        exact ⟨rfl, 0, rfl⟩

set_option maxHeartbeats 4000000 in
theorem s_split_some (s : ByteArray) (k : Nat) (b1 b2 : Bool) (w : World) (hs : s.size ≤ 1048576) (hc : colon s = k) (hk : k < s.size) (h1 : nameB (s.extract 0 k) = b1) (h2 : nameB (s.extract (k + 1) s.size) = b2) :
    Calls Tryz.prog 74 #[.string s] w fun e w' => e = (if b1 = true ∧ b2 = true then (.returned (.tuple #[.string (s.extract 0 k), .string (s.extract (k + 1) s.size), .bool true]) : Ending) else (.returned (.tuple #[.string ⟨#[]⟩, .string ⟨#[]⟩, .bool false]) : Ending)) ∧ ∃ n, w' = w.drewN n := by
  have HC : Hid (colon s = k) := hc
  clear hc
  have l1 := piece_len s 0 k hs
  have l2 := piece_len s (k + 1) s.size hs
  have c1 : (0 : Int) ≤ ↑k := by omega
  have c2 : (↑k : Int) ≤ ↑s.size := by omega
  have c3 : (0 : Int) ≤ ↑k + 1 := by omega
  have c4 : (↑k + 1 : Int) ≤ ↑s.size := by omega
  cases b1 <;> cases b2
  all_goals
    go_enter Tryz.func74, Tryz.ntmps74
    go_wp2
    go_loop [5, 6] (fun a i => (∃ j : Nat, j ≤ k ∧ a = .int .i64 (-1) ∧ i = .int .i64 j) ∨ (a = .int .i64 k ∧ i = .int .i64 (k + 1))) (fun _ i => s.size - (intOf i).toNat)
    case atStart => exact .inl ⟨0, by omega, rfl, rfl⟩
    case round =>
      rcases hrel with ⟨j, hj, rfl, rfl⟩ | ⟨rfl, rfl⟩
      · have hjs : j < s.size := by omega
        by_cases hlt : j < k
        · have hb := colon_less HC.out j hlt hjs
          go_wp2
          go_round
          case rel => exact .inl ⟨j + 1, by omega, rfl, by go_num⟩
          case measure => simp [intOf]; omega
        · have e : j = k := by omega
          subst e
          have hb := colon_hit HC.out hjs
          go_wp2
          go_round
          case rel => exact .inr ⟨rfl, rfl⟩
          case measure => simp [intOf]; omega
      · by_cases hlt : k + 1 < s.size
        all_goals
          go_wp2_with (go_at_call 93; refine (s_name _ _ (by first | exact l1 | exact l2)).mono ?_; rintro e w' ⟨rfl, rfl⟩)
          first
            | (go_ret3; exact ⟨by simp, 0, rfl⟩)
            | (go_region; go_wp2; go_ret3; exact ⟨by simp, 1, rfl⟩)

theorem split_of (s : ByteArray) (w : World) (f : Nat) (hs : s.size ≤ 1048576)
    (hn : ∀ b, colon s = -1 → nameB s = b → Calls Tryz.prog f #[.string s] w fun e w' => e = (if b = true then (.returned (.tuple #[.string ⟨#[]⟩, .string s, .bool true]) : Ending) else (.returned (.tuple #[.string ⟨#[]⟩, .string ⟨#[]⟩, .bool false]) : Ending)) ∧ ∃ n, w' = w.drewN n)
    (hm : ∀ (k : Nat) b1 b2, colon s = k → k < s.size → nameB (s.extract 0 k) = b1 → nameB (s.extract (k + 1) s.size) = b2 → Calls Tryz.prog f #[.string s] w fun e w' => e = (if b1 = true ∧ b2 = true then (.returned (.tuple #[.string (s.extract 0 k), .string (s.extract (k + 1) s.size), .bool true]) : Ending) else (.returned (.tuple #[.string ⟨#[]⟩, .string ⟨#[]⟩, .bool false]) : Ending)) ∧ ∃ n, w' = w.drewN n) :
    Calls Tryz.prog f #[.string s] w fun e w' => e = (.returned (.tuple #[.string (spl s).1, .string (spl s).2.1, .bool (spl s).2.2]) : Ending) ∧ ∃ n, w' = w.drewN n := by
  rcases colon_cases s with h | ⟨k, h, hk⟩
  · cases hb : nameB s
    · refine (hn _ h hb).mono ?_; rintro e w' ⟨rfl, h'⟩; rw [spl_b h hb]; exact ⟨rfl, h'⟩
    · refine (hn _ h hb).mono ?_; rintro e w' ⟨rfl, h'⟩; rw [spl_a h hb]; exact ⟨rfl, h'⟩
  · cases h1 : nameB (s.extract 0 k)
    · refine (hm k _ _ h hk h1 rfl).mono ?_; rintro e w' ⟨rfl, h'⟩; rw [spl_d h (.inl h1)]; exact ⟨by simp [noText], h'⟩
    · cases h2 : nameB (s.extract (k + 1) s.size)
      · refine (hm k _ _ h hk h1 h2).mono ?_; rintro e w' ⟨rfl, h'⟩; rw [spl_d h (.inr h2)]; exact ⟨by simp [noText], h'⟩
      · refine (hm k _ _ h hk h1 h2).mono ?_; rintro e w' ⟨rfl, h'⟩; rw [spl_c h h1 h2]; exact ⟨by simp, h'⟩
theorem s_split (s : ByteArray) (w : World) (hs : s.size ≤ 1048576) : Calls Tryz.prog 74 #[.string s] w fun e w' => e = (.returned (.tuple #[.string (spl s).1, .string (spl s).2.1, .bool (spl s).2.2]) : Ending) ∧ ∃ n, w' = w.drewN n :=
  split_of s w _ hs (fun b h hb => s_split_none s b w hs h hb) (fun k b1 b2 h hk h1 h2 => s_split_some s k b1 b2 w hs h hk h1 h2)
theorem i_split (s : ByteArray) (w : World) (hs : s.size ≤ 1048576) : Calls Tryz.prog 75 #[.string s] w fun e w' => e = (.returned (.tuple #[.string (spl s).1, .string (spl s).2.1, .bool (spl s).2.2]) : Ending) ∧ ∃ n, w' = w.drewN n :=
  split_of s w _ hs (fun b h hb => i_split_none s b w hs h hb) (fun k b1 b2 h hk h1 h2 => i_split_some s k b1 b2 w hs h hk h1 h2)
end Go.Proofs.YthcggdjkfebemaaGreatDoor

/-
  Contracts: names with a prefix or without; rows of attributes, by the specification and by the program.
-/
namespace Go.Proofs.YthcggdjkfebemaaGreatDoor
open Go.RowKit Go.Joins
set_option linter.unusedVariables false
set_option linter.unusedSimpArgs false
theorem drewN_below (w : World) (q : Nat) : Below w.heap.size w (w.drewN q) := by
  induction q with
  | zero => exact Below.refl _ _
  | succ q ih => exact ih.drew
theorem tabs_below {w w' : World} (h : Tabs w) (hb : Below w.heap.size w w') : Tabs w' := by
  refine ⟨fun c hc => ?_, fun i hi => ⟨?_, ?_⟩⟩
  · exact (hb.cell (p := ⟨_, c, none⟩) (World.block_lt_of_cell? w _ (h.1 c hc))).trans (h.1 c hc)
  · exact (hb.cell (p := ⟨_, 2 * i, none⟩) (World.block_lt_of_cell? w _ (h.2 i hi).1)).trans (h.2 i hi).1
  · exact (hb.cell (p := ⟨_, 2 * i + 1, none⟩) (World.block_lt_of_cell? w _ (h.2 i hi).2)).trans (h.2 i hi).2
def qualB (s : ByteArray) : Bool := (spl s).2.2
theorem s_qual (s : ByteArray) (w : World) (hs : s.size ≤ 1048576) : Calls Tryz.prog 46 #[.string s] w fun e w' => e = .returned (.bool (qualB s)) ∧ ∃ q, w' = w.drewN q := by
  obtain ⟨x, hx⟩ : ∃ x, (spl s).1 = x := ⟨_, rfl⟩
  obtain ⟨y, hy⟩ : ∃ x, (spl s).2.1 = x := ⟨_, rfl⟩
  obtain ⟨z, hz⟩ : ∃ x, (spl s).2.2 = x := ⟨_, rfl⟩
  have HC := hide (s_split s w hs)
  rw [hx, hy, hz] at HC
  have HZ : Hid (qualB s = z) := hide hz
  clear hx hy hz
  go_enter Tryz.func46, Tryz.ntmps46
  go_wp2_with (go_at_call 74; refine HC.out.mono ?_; rintro e w' ⟨rfl, q, rfl⟩)
  go_ret
  exact ⟨ret_bool HZ.out.symm, _, rfl⟩
theorem i_qual (s : ByteArray) (w : World) (hs : s.size ≤ 1048576) : Calls Tryz.prog 50 #[.string s] w fun e w' => e = .returned (.bool (qualB s)) ∧ ∃ q, w' = w.drewN q := by
  obtain ⟨x, hx⟩ : ∃ x, (spl s).1 = x := ⟨_, rfl⟩
  obtain ⟨y, hy⟩ : ∃ x, (spl s).2.1 = x := ⟨_, rfl⟩
  obtain ⟨z, hz⟩ : ∃ x, (spl s).2.2 = x := ⟨_, rfl⟩
  have HC := hide (i_split s w hs)
  rw [hx, hy, hz] at HC
  have HZ : Hid (qualB s = z) := hide hz
  clear hx hy hz
  go_enter Tryz.func50, Tryz.ntmps50
  go_wp2_with (go_at_call 75; refine HC.out.mono ?_; rintro e w' ⟨rfl, q, rfl⟩)
  go_ret
  exact ⟨ret_bool HZ.out.symm, _, rfl⟩
/-- One attribute is right behind those ahead of it. -/
def atB (N V : Nat → ByteArray) (j : Nat) : Bool := qualB (N j) && (plainB (V j) && !(anyS j N (N j)))
def attrsB (n : Nat) (N V : Nat → ByteArray) : Bool := decide (n ≤ 10) && (List.range n).all (atB N V)
theorem attrsB_long {n : Nat} {N V : Nat → ByteArray} (h : 10 < n) : attrsB n N V = false := by unfold attrsB; rw [decide_eq_false (by omega)]; rfl
theorem attrsB_no {n k : Nat} {N V : Nat → ByteArray} (hk : k < n) (h : atB N V k = false) : attrsB n N V = false := by
  have : (List.range n).all (atB N V) = false := by
    rw [List.all_eq_false]
    exact ⟨k, by simpa using hk, by simp [h]⟩
  unfold attrsB
  rw [this]
  simp
theorem attrsB_yes {n : Nat} {N V : Nat → ByteArray} (hn : n ≤ 10) (h : ∀ k, k < n → atB N V k = true) : attrsB n N V = true := by
  have : (List.range n).all (atB N V) = true := by
    rw [List.all_eq_true]
    intro j hj
    exact h j (by simpa using hj)
  unfold attrsB
  rw [this, decide_eq_true hn]
  rfl
set_option maxRecDepth 100000 in
set_option maxHeartbeats 4000000 in
theorem s_attrs (a : Option Addr) (n c : Nat) (N V : Nat → ByteArray) (w : World) (hn : n ≤ 1048576) (hs : ∀ j, j < n → (N j).size ≤ 1048576 ∧ (V j).size ≤ 1048576) (hr : AtAt w a n N V w.heap.size) :
    Calls Tryz.prog 47 #[.slice a n c] w fun e w' => e = .returned (.bool (attrsB n N V)) ∧ Below w.heap.size w w' := by
  have HS := hide hs
  have HR := hide hr
  clear hr hs
  by_cases h10 : n ≤ 10
  · have h10' : (n : Int) ≤ 10 := by omega
    go_enter Tryz.func47, Tryz.ntmps47
    go_wp2
    go_loopw [3] (fun i wr => ∃ k : Nat, k ≤ n ∧ i = .int .i64 k ∧ Below w.heap.size w wr ∧ Hid (∀ j, j < k → atB N V j = true)) (fun i _ => n - (intOf i).toNat)
    case atStart => exact ⟨0, Nat.zero_le _, rfl, Below.refl _ _, fun j h => by omega⟩
    case round =>
      obtain ⟨k, hk, rfl, hb, HM⟩ := hrel
      by_cases hlt : k < n
      · obtain ⟨b, off, rfl, hbs, hc⟩ := HR.out (by omega)
        have HCC : Hid (∀ (w2 : World), Below w.heap.size w w2 → ∀ j, j < n → w2.cell? ⟨b, off + j * 2, none⟩ = some (.string (N j)) ∧ w2.cell? ⟨b, off + j * 2 + 1, none⟩ = some (.string (V j))) := hide (fun w2 h j hj => ⟨(h.cell (p := ⟨b, off + j * 2, none⟩) hbs).trans (hc j hj).1, (h.cell (p := ⟨b, off + j * 2 + 1, none⟩) hbs).trans (hc j hj).2⟩)
        obtain ⟨c0, c1⟩ := HCC.out wr hb k hlt
        obtain ⟨s0, s1⟩ := HS.out k hlt
        have HS0 := hide s0
        have HS1 := hide s1
        have HB := hide hb
        have hi : (k : Int) < (n : Int) := by omega
        clear hc hb s0 s1
        cases hq : qualB (N k)
        · have hv := hide (attrsB_no (N := N) (V := V) hlt (by unfold atB; rw [hq]; rfl))
          go_wp2_with (go_at_call 46; refine (s_qual _ _ HS0.out).mono ?_; rintro e w2 ⟨rfl, q, rfl⟩; rw [hq])
          go_ret
          exact ⟨ret_bool hv.out.symm, HB.out.trans ((drewN_below _ _).mono HB.out.size)⟩
        · cases hp : plainB (V k)
          · have hv := hide (attrsB_no (N := N) (V := V) hlt (by unfold atB; rw [hq, hp]; rfl))
            go_wp2_with (first | (go_at_call 46; refine (s_qual _ _ HS0.out).mono ?_; rintro e w2 ⟨rfl, q, rfl⟩; rw [hq]) | (go_at_call 32; refine (s_text _ _ HS1.out).mono ?_; rintro e w3 ⟨rfl, hb3⟩; rw [hp]; have HB3 := hide ((HB.out.trans ((drewN_below _ _).mono HB.out.size)).trans (hb3.mono HB.out.size)); clear hb3))
            go_ret
            exact ⟨ret_bool hv.out.symm, HB3.out⟩
          · go_wp2_with (first | (go_at_call 46; refine (s_qual _ _ HS0.out).mono ?_; rintro e w2 ⟨rfl, q, rfl⟩; rw [hq]) | (go_at_call 32; refine (s_text _ _ HS1.out).mono ?_; rintro e w3 ⟨rfl, hb3⟩; rw [hp]; have HB3 := hide ((HB.out.trans ((drewN_below _ _).mono HB.out.size)).trans (hb3.mono HB.out.size)); clear hb3))
            clear c0 c1
            go_loopw [4] (fun i w4 => ∃ m : Nat, m ≤ k ∧ i = .int .i64 m ∧ Below w.heap.size w w4 ∧ Hid (∀ j, j < m → ((N j).toList == (N k).toList) = false)) (fun i _ => k - (intOf i).toNat)
            case atStart => exact ⟨0, Nat.zero_le _, rfl, HB3.out, fun j h => by omega⟩
            case round =>
              obtain ⟨m, hm, rfl, hb4, HM4⟩ := hrel
              by_cases hlt4 : m < k
              · obtain ⟨c0, c1⟩ := HCC.out _ hb4 k hlt
                obtain ⟨d0, d1⟩ := HCC.out _ hb4 m (by omega)
                have HB4 := hide hb4
                have hi4 : (m : Int) < (n : Int) := by omega
                have hi5 : (m : Int) < (k : Int) := by omega
                clear hb4
                cases he : ((N m).toList == (N k).toList)
                · go_wp2
                  go_big_quiet (fail)
                  go_wp2
                  go_roundw
                  case rel =>
                    refine ⟨m + 1, by omega, by go_num, HB4.out.trans ((drewN_below _ _).mono HB4.out.size), fun j hj => ?_⟩
                    by_cases e : j = m
                    · subst e; exact he
                    · exact HM4.out j (by omega)
                  case measure => simp [intOf]; omega
                · have hv := hide (attrsB_no (N := N) (V := V) hlt (by unfold atB; rw [hq, hp, anyS_hit hlt4 he]; rfl))
                  go_wp2
                  go_big_quiet (fail)
                  go_wp2
                  go_ret
                  exact ⟨ret_bool hv.out.symm, HB4.out.trans ((drewN_below _ _).mono HB4.out.size)⟩
              · have hkm : m = k := by omega
                subst hkm
                have hat : atB N V m = true := by unfold atB; rw [hq, hp, anyS_no HM4.out]; rfl
                have HB4 := hide hb4
                clear hb4
                go_wp2
                go_roundw
                case rel =>
                  refine ⟨m + 1, by omega, by go_num, HB4.out, fun j hj => ?_⟩
                  by_cases e : j = m
                  · subst e; exact hat
                  · exact HM.out j (by omega)
                case measure => simp [intOf]; omega
      · have hkn : k = n := by omega
        subst hkn
        go_wp2
        go_ret
        exact ⟨ret_bool (attrsB_yes h10 HM.out).symm, hb⟩
  · have h10' : (10 : Int) < (n : Int) := by omega
    have hv := hide (attrsB_long (N := N) (V := V) (by omega : 10 < n))
    go_enter Tryz.func47, Tryz.ntmps47
    go_wp2
    go_ret
    exact ⟨ret_bool hv.out.symm, Below.refl _ _⟩
end Go.Proofs.YthcggdjkfebemaaGreatDoor
