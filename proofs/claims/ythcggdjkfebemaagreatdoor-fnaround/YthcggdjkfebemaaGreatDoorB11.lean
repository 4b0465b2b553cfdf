/-
  Texts put together: Bld, EscI, EscW.
-/
import Derived.Test.YthcggdjkfebemaaGreatDoorB2
import Derived.Test.YthcggdjkfebemaaGreatDoorChecked
import Derived.Lib.Builder
import Derived.Lib.AppendStr
import Derived.Lib.Strings
import Derived.Lib.Walk
import Derived.WalkKit
import Derived.Laws.Externs
import Derived.Laws.OwnMore
import Derived.OwnWalk
import Derived.Below
import Derived.KernelRfl
import Derived.Test.YthcggdjkfebemaaGreatDoorB9
import Derived.Test.YthcggdjkfebemaaGreatDoorB1
/-
  Contracts: the writing methods of strings.Builder, at a builder that the call has made itself.
-/
namespace Go.Proofs.YthcggdjkfebemaaGreatDoor
open Go.RowKit
set_option linter.unusedVariables false
set_option linter.unusedSimpArgs false
theorem bdInfo : (Tryz.prog.info? 38).map (fun i => i.size) = some 2 := by kernel_rfl
theorem bdLies : liesAt Tryz.prog Tryz.prog.depth 38 (2 / Tryz.prog.cellsOf 38) 0 38 1 = true := by kernel_rfl
theorem bdByte : (Tryz.prog.info? 5).map (fun i => (i.zero, i.size, i.bytes)) = some (some (.int .u8 0), 1, 1) := by kernel_rfl
set_option maxHeartbeats 1000000 in
set_option maxRecDepth 100000 in
theorem bd_used (b : Nat) (w : World) (h0 : w.cell? ⟨b, 0, none⟩ = some (.pointer (some ⟨b, 0, none⟩))) :
    Calls Tryz.prog 42 #[.pointer (some ⟨b, 0, none⟩)] w fun e w' => e = .returned (.tuple #[]) ∧ w' = w := by
  obtain ⟨j, hj, hjs⟩ := Option.map_eq_some_iff.1 bdInfo
  go_enter Tryz.func42, Tryz.ntmps42
  go_wp2
  rw [Lib.run_neq_ptr_same w _ Tryz.underlying36 hj]
  go_wp2
  go_end0
  exact ⟨rfl, rfl⟩
set_option maxHeartbeats 1000000 in
set_option maxRecDepth 100000 in
theorem bd_fresh (b : Nat) (w : World) (h0 : w.cell? ⟨b, 0, none⟩ = some (.pointer none)) (hsh : w.shape? b = some (38, 2)) (hfz : w.frozen? ⟨b, 0, none⟩ = false) :
    Calls Tryz.prog 42 #[.pointer (some ⟨b, 0, none⟩)] w fun e w' => e = .returned (.tuple #[]) ∧ w' = w.setCell ⟨b, 0, none⟩ (.pointer (some ⟨b, 0, none⟩)) := by
  obtain ⟨j, hj, hjs⟩ := Option.map_eq_some_iff.1 bdInfo
  go_enter Tryz.func42, Tryz.ntmps42
  go_wp2
  rw [Lib.run_to_unsafe w ⟨b, 0, none⟩ Tryz.underlying36 Tryz.underlying91 hj (by rw [hjs]; decide) hsh (Nat.zero_lt_succ 1)]
  simp only [Result.andThen]
  rw [Oper.upon_value]
  go_wp2
  rw [run_callFunc_extern Tryz.func71 (by kernel_rfl) (by kernel_rfl) (by kernel_rfl) (e := Extern.AbiNoEscape.same) (by kernel_rfl)]
  rw [Lib.run_noEscape]
  simp only [Result.andThen]
  rw [Oper.upon_value]
  go_wp2
  rw [Lib.run_from_unsafe w ⟨b, 0, none⟩ Tryz.underlying91 Tryz.underlying36 hj hsh bdLies]
  simp only [Result.andThen]
  rw [Oper.upon_value]
  go_wp2
  go_end0
  exact ⟨rfl, rfl⟩
theorem bd_check (B b : Nat) (bs : List Value) (w : World) (h : Lib.IsBuilder 38 5 B b bs w) :
    Calls Tryz.prog 42 #[.pointer (some ⟨b, 0, none⟩)] w fun e w' => e = .returned (.tuple #[]) ∧ Lib.BuilderAt 38 5 B b (.pointer (some ⟨b, 0, none⟩)) bs w' ∧ Below B w w' := by
  rcases h with h | h
  · refine (bd_fresh b w h.cell0 h.shape h.frozen0).mono ?_
    rintro e w' ⟨rfl, rfl⟩
    exact ⟨rfl, h.used _, (Below.refl B w).setCell (p := ⟨b, 0, none⟩) h.1 _⟩
  · refine (bd_used b w h.cell0).mono ?_
    rintro e w' ⟨rfl, rfl⟩
    exact ⟨rfl, h, Below.refl B _⟩
theorem bd_one (w : World) (c : Int) (j : Nat) (u : Value) (hj : [Value.int .u8 c][j]? = some u) : (w.alloc (.cells #[.int .u8 c] 5)).cell? ((⟨w.heap.size, 0, none⟩ : Addr).add j) = some u := by
  match j, hj with
  | 0, hj => simp at hj; subst hj; simp [Addr.add]
theorem bd_oneL (c : Int) : ∀ u ∈ [Value.int .u8 c], u.oneCell' = true := by
  intro u hu; simp at hu; subst hu; rfl
theorem bd_shape {w : World} {B : Nat} {e : TypeId} {v : Value} {n : Nat} {xs : List Value} (h : w.ownsRow B e 1 v n xs) : ∃ ad cap, v = .slice ad n cap := by
  rcases h.2 with ⟨rfl, rfl⟩ | ⟨g, cap, cur, rfl, _⟩
  · exact ⟨_, _, rfl⟩
  · exact ⟨_, _, rfl⟩
set_option maxHeartbeats 2000000 in
set_option maxRecDepth 100000 in
theorem bd_byte (B b : Nat) (bs : List Value) (c : Int) (w : World) (h : Lib.IsBuilder 38 5 B b bs w) (hlen : bs.length ≤ 1048576) (hBw : B ≤ w.heap.size) :
    Calls Tryz.prog 73 #[.pointer (some ⟨b, 0, none⟩), .int .u8 c] w fun e w' => e = .returned .nilIface ∧ Lib.IsBuilder 38 5 B b (bs ++ [.int .u8 c]) w' ∧ Below B w w' := by
  obtain ⟨i0, hi, hz0, hz1, hz2⟩ := info_parts bdByte
  go_enter Tryz.func73, Tryz.ntmps73
  go_wp2_with fail
  refine (bd_check B b bs _ h).mono ?_
  rintro e w1 ⟨rfl, h1, hb1⟩
  obtain ⟨hB, v, hbk, hown, hne⟩ := h1
  have c0 : w1.cell? ⟨b, 0, none⟩ = some (.pointer (some ⟨b, 0, none⟩)) := by rw [Lib.cell_of_heap hbk]; rfl
  have c1 : w1.cell? ⟨b, 1, none⟩ = some v := by rw [Lib.cell_of_heap hbk]; rfl
  have hsz := hb1.size
  have hlt : b < w1.heap.size := (Array.getElem?_eq_some_iff.1 hbk).1
  go_wp2_with (at_builtin; refine wpList_append_own _ rfl (.tmp 11) (.tmp 13) 22 rfl B 5 i0 (.int .u8 0) 1 1 Tryz.underlying22 hi hz0 hz1 hz2 rfl (by decide) _ _ _ rfl (hown.alloc _) ⟨w1.heap.size, 0, none⟩ 1 1 [.int .u8 c] rfl rfl (fun j u hj => bd_one w1 c j u hj) (bd_oneL c) (by unfold maxLen; omega) (by omega) (by simp; omega) ?_; intro v' w2 hown' hgrow _; have hb2 : w2.heap[b]? = some (.cells #[.pointer (some ⟨b, 0, none⟩), v] 38 (0, 0)) := (hgrow.block b (by simp; omega) (fun e => hne e.symm)).trans ((Lib.alloc_old w1 _ b hlt).trans hbk); have d0 : w2.cell? ⟨b, 0, none⟩ = some (.pointer (some ⟨b, 0, none⟩)) := (by rw [Lib.cell_of_heap hb2]; rfl); have d1 : w2.cell? ⟨b, 1, none⟩ = some v := (by rw [Lib.cell_of_heap hb2]; rfl); have f1 : w2.frozen? ⟨b, 1, none⟩ = false := Lib.frozen_of_heap hb2 1; obtain ⟨ad9, c9, hv9⟩ := bd_shape hown'; rw [hv9] at hown' ⊢; clear hv9)
  go_ret
  refine ⟨rfl, .inr ?_, ?_⟩
  · exact Lib.BuilderAt.put (T := 38) (e := 5) hB hb2 (bs' := bs ++ [.int .u8 c]) (by simpa using hown') (by decide)
  · exact ((hb1.alloc (by omega) _).grown hgrow (by simp; omega) (fun k hk => (hown.lt k hk).1)).setCell (p := ⟨b, 1, none⟩) hB _
set_option maxHeartbeats 2000000 in
set_option maxRecDepth 100000 in
theorem bd_str (B b : Nat) (bs : List Value) (s : ByteArray) (w : World) (h : Lib.IsBuilder 38 5 B b bs w) (hlen : bs.length + s.size ≤ 1048576) (hBw : B ≤ w.heap.size) :
    Calls Tryz.prog 17 #[.pointer (some ⟨b, 0, none⟩), .string s] w fun e w' => e = .returned (.tuple #[.int .i64 s.size, .nilIface]) ∧ Lib.IsBuilder 38 5 B b (bs ++ Lib.strCells s) w' ∧ Below B w w' := by
  obtain ⟨i0, hi, hz0, hz1, hz2⟩ := info_parts bdByte
  go_enter Tryz.func17, Tryz.ntmps17
  go_wp2_with fail
  refine (bd_check B b bs _ h).mono ?_
  rintro e w1 ⟨rfl, h1, hb1⟩
  obtain ⟨hB, v, hbk, hown, hne⟩ := h1
  have c0 : w1.cell? ⟨b, 0, none⟩ = some (.pointer (some ⟨b, 0, none⟩)) := by rw [Lib.cell_of_heap hbk]; rfl
  have c1 : w1.cell? ⟨b, 1, none⟩ = some v := by rw [Lib.cell_of_heap hbk]; rfl
  have hsz := hb1.size
  have hlt : b < w1.heap.size := (Array.getElem?_eq_some_iff.1 hbk).1
  go_wp2_with (at_builtin; refine Lib.wpList_append_own_string _ rfl (.tmp 12) (.tmp 13) 22 9 rfl B 5 i0 Tryz.underlying22 Tryz.underlying9 hi hz0 hz1 hz2 _ _ _ rfl hown s rfl (by unfold maxLen; omega) (by omega) (by omega) ?_; intro v' w2 hown' hgrow _; have hb2 : w2.heap[b]? = some (.cells #[.pointer (some ⟨b, 0, none⟩), v] 38 (0, 0)) := (hgrow.block b (by omega) (fun e => hne e.symm)).trans hbk; have d0 : w2.cell? ⟨b, 0, none⟩ = some (.pointer (some ⟨b, 0, none⟩)) := (by rw [Lib.cell_of_heap hb2]; rfl); have d1 : w2.cell? ⟨b, 1, none⟩ = some v := (by rw [Lib.cell_of_heap hb2]; rfl); have f1 : w2.frozen? ⟨b, 1, none⟩ = false := Lib.frozen_of_heap hb2 1; obtain ⟨ad9, c9, hv9⟩ := bd_shape hown'; rw [hv9] at hown' ⊢; clear hv9)
  go_ret2
  refine ⟨rfl, .inr ?_, ?_⟩
  · exact Lib.BuilderAt.put (T := 38) (e := 5) hB hb2 (bs' := bs ++ Lib.strCells s) (by simpa [Lib.strCells_length] using hown') (by decide)
  · exact (hb1.grown hgrow (by omega) (fun k hk => (hown.lt k hk).1)).setCell (p := ⟨b, 1, none⟩) hB _
end Go.Proofs.YthcggdjkfebemaaGreatDoor

/-
  Contracts: the program's escaping: at every text the bytes with their marks, or a refusal; nothing that was there is written.
-/
namespace Go.Proofs.YthcggdjkfebemaaGreatDoor
open Go.RowKit
set_option linter.unusedVariables false
set_option linter.unusedSimpArgs false
theorem escI_ret {a b : ByteArray} (h : a = b) : Ending.returned (.string a) = .returned (.string b) := by rw [h]
/-- The mark of a byte; none: it stands for itself. -/
def markL (attr : Bool) (c : UInt8) : List UInt8 :=
  if c = 38 then [38, 97, 109, 112, 59] else if c = 60 then [38, 108, 116, 59] else if c = 62 then [38, 103, 116, 59] else if c = 13 then [38, 35, 49, 51, 59]
  else if attr = true ∧ c = 34 then [38, 113, 117, 111, 116, 59] else if attr = true ∧ c = 9 then [38, 35, 57, 59] else if attr = true ∧ c = 10 then [38, 35, 49, 48, 59] else []
theorem esc_mark (attr : Bool) (c : UInt8) : escB attr c = if markL attr c = [] then [c] else markL attr c := by
  unfold escB markL
  repeat' split
  all_goals simp_all
theorem markL_len (attr : Bool) (c : UInt8) : (markL attr c).length ≤ 6 := by
  unfold markL
  repeat' split
  all_goals simp
theorem u8_of {c d : UInt8} {z : Int} (hz : (c.toNat : Int) = z) (h : z = (d.toNat : Int)) : c = d := u8i.1 (hz.trans h)
theorem u8_ne {c d : UInt8} {z : Int} (hz : (c.toNat : Int) = z) (h : ¬ z = (d.toNat : Int)) : ¬ c = d := fun e => h (by rw [← hz, e])
set_option maxHeartbeats 2000000 in
theorem i_escOf (attr : Bool) (c : UInt8) (z : Int) (hz : (c.toNat : Int) = z) (w : World) :
    Calls Tryz.prog 72 #[.int .u8 z, .bool attr] w fun e w' => e = .returned (.string ⟨(markL attr c).toArray⟩) ∧ w' = w := by
  by_cases h38 : z = 38
  · have HM : Hid ((⟨(markL attr c).toArray⟩ : ByteArray) = ⟨#[38, 97, 109, 112, 59]⟩) := hide (by rw [u8_of (d := 38) hz h38]; rfl)
    subst h38
    clear hz
    go_enter Tryz.func72, Tryz.ntmps72
    go_wp2
    go_ret
    exact ⟨escI_ret HM.out.symm, rfl⟩
  by_cases h60 : z = 60
  · have HM : Hid ((⟨(markL attr c).toArray⟩ : ByteArray) = ⟨#[38, 108, 116, 59]⟩) := hide (by rw [u8_of (d := 60) hz h60]; rfl)
    subst h60
    clear hz h38
    go_enter Tryz.func72, Tryz.ntmps72
    go_wp2
    go_ret
    exact ⟨escI_ret HM.out.symm, rfl⟩
  by_cases h62 : z = 62
  · have HM : Hid ((⟨(markL attr c).toArray⟩ : ByteArray) = ⟨#[38, 103, 116, 59]⟩) := hide (by rw [u8_of (d := 62) hz h62]; rfl)
    subst h62
    clear hz h38 h60
    go_enter Tryz.func72, Tryz.ntmps72
    go_wp2
    go_ret
    exact ⟨escI_ret HM.out.symm, rfl⟩
  by_cases h13 : z = 13
  · have HM : Hid ((⟨(markL attr c).toArray⟩ : ByteArray) = ⟨#[38, 35, 49, 51, 59]⟩) := hide (by rw [u8_of (d := 13) hz h13]; rfl)
    subst h13
    clear hz h38 h60 h62
    go_enter Tryz.func72, Tryz.ntmps72
    go_wp2
    go_ret
    exact ⟨escI_ret HM.out.symm, rfl⟩
  have n38 := u8_ne (d := 38) hz h38
  have n60 := u8_ne (d := 60) hz h60
  have n62 := u8_ne (d := 62) hz h62
  have n13 := u8_ne (d := 13) hz h13
  have f38 : (z == 38) = false := by simpa using h38
  have f60 : (z == 60) = false := by simpa using h60
  have f62 : (z == 62) = false := by simpa using h62
  have f13 : (z == 13) = false := by simpa using h13
  cases attr
  · have HM : Hid ((⟨(markL false c).toArray⟩ : ByteArray) = ⟨#[]⟩) := hide (by unfold markL; rw [if_neg n38, if_neg n60, if_neg n62, if_neg n13]; simp)
    clear hz h38 h60 h62 h13 n38 n60 n62 n13
    go_enter Tryz.func72, Tryz.ntmps72
    go_wp2
    go_ret
    exact ⟨escI_ret HM.out.symm, rfl⟩
  · by_cases h34 : z = 34
    · have HM : Hid ((⟨(markL true c).toArray⟩ : ByteArray) = ⟨#[38, 113, 117, 111, 116, 59]⟩) := hide (by rw [u8_of (d := 34) hz h34]; rfl)
      subst h34
      clear hz h38 h60 h62 h13 n38 n60 n62 n13 f38 f60 f62 f13
      go_enter Tryz.func72, Tryz.ntmps72
      go_wp2
      go_ret
      exact ⟨escI_ret HM.out.symm, rfl⟩
    by_cases h9 : z = 9
    · have HM : Hid ((⟨(markL true c).toArray⟩ : ByteArray) = ⟨#[38, 35, 57, 59]⟩) := hide (by rw [u8_of (d := 9) hz h9]; rfl)
      subst h9
      clear hz h38 h60 h62 h13 n38 n60 n62 n13 f38 f60 f62 f13 h34
      go_enter Tryz.func72, Tryz.ntmps72
      go_wp2
      go_ret
      exact ⟨escI_ret HM.out.symm, rfl⟩
    by_cases h10 : z = 10
    · have HM : Hid ((⟨(markL true c).toArray⟩ : ByteArray) = ⟨#[38, 35, 49, 48, 59]⟩) := hide (by rw [u8_of (d := 10) hz h10]; rfl)
      subst h10
      clear hz h38 h60 h62 h13 n38 n60 n62 n13 f38 f60 f62 f13 h34 h9
      go_enter Tryz.func72, Tryz.ntmps72
      go_wp2
      go_ret
      exact ⟨escI_ret HM.out.symm, rfl⟩
    have n34 := u8_ne (d := 34) hz h34
    have n9 := u8_ne (d := 9) hz h9
    have n10 := u8_ne (d := 10) hz h10
    have f34 : (z == 34) = false := by simpa using h34
    have f9 : (z == 9) = false := by simpa using h9
    have f10 : (z == 10) = false := by simpa using h10
    have HM : Hid ((⟨(markL true c).toArray⟩ : ByteArray) = ⟨#[]⟩) := hide (by unfold markL; rw [if_neg n38, if_neg n60, if_neg n62, if_neg n13, if_neg (fun h => n34 h.2), if_neg (fun h => n9 h.2), if_neg (fun h => n10 h.2)])
    clear hz h38 h60 h62 h13 n38 n60 n62 n13 h34 h9 h10 n34 n9 n10
    go_enter Tryz.func72, Tryz.ntmps72
    go_wp2
    go_ret
    exact ⟨escI_ret HM.out.symm, rfl⟩
end Go.Proofs.YthcggdjkfebemaaGreatDoor

/-
  Contracts: Escape, the program's and the specification's; the walk of FnExactEscape.
-/
namespace Go.Proofs.YthcggdjkfebemaaGreatDoor
open Go.RowKit
set_option linter.unusedVariables false
set_option linter.unusedSimpArgs false
theorem escW_ne (s : ByteArray) (h : s.size ≠ 0) : s.toList.isEmpty = false := by
  rw [ByteArray.toList_eq]
  cases hq : s.data.toList with
  | nil =>
    have hl : s.data.toList.length = s.size := by simp
    rw [hq] at hl; simp at hl; omega
  | cons a l => rfl
theorem escW_tabs {w w' : World} (h : Tabs w) (hb : Below w.heap.size w w') : Tabs w' := by
  refine ⟨fun c hc => ?_, fun i hi => ⟨?_, ?_⟩⟩
  · exact (hb.cell (p := ⟨_, c, none⟩) (World.block_lt_of_cell? w _ (h.1 c hc))).trans (h.1 c hc)
  · exact (hb.cell (p := ⟨_, 2 * i, none⟩) (World.block_lt_of_cell? w _ (h.2 i hi).1)).trans (h.2 i hi).1
  · exact (hb.cell (p := ⟨_, 2 * i + 1, none⟩) (World.block_lt_of_cell? w _ (h.2 i hi).2)).trans (h.2 i hi).2
theorem escL_len (attr : Bool) : ∀ l : List UInt8, (escL attr l).length ≤ 6 * l.length
  | [] => by simp [escL]
  | c :: l => by
    have h1 := escL_len attr l
    have h2 := escB_len attr c
    have e : escL attr (c :: l) = escB attr c ++ escL attr l := by simp [escL]
    rw [e, List.length_append, List.length_cons]
    omega
theorem bc_app (a b : List UInt8) : Lib.byteCells (a ++ b) = Lib.byteCells a ++ Lib.byteCells b := by simp [Lib.byteCells]
def escOk (s : ByteArray) : Bool := decide (s.size ≤ 2500) && plainB s
def escV (attr : Bool) (s : ByteArray) : ByteArray := if escOk s = true then ⟨(escL attr s.data.toList).toArray⟩ else ⟨#[]⟩
theorem escV_no {attr : Bool} {s : ByteArray} (h : escOk s = false) : escV attr s = ⟨#[]⟩ := by unfold escV; rw [h]; rfl
theorem escV_yes {attr : Bool} {s : ByteArray} (h : escOk s = true) : escV attr s = ⟨(escL attr s.data.toList).toArray⟩ := by unfold escV; rw [h]; rfl
theorem escW_ret {a a' : ByteArray} {b b' : Bool} (h1 : a = a') (h2 : b = b') : Ending.returned (.tuple #[.string a, .bool b]) = .returned (.tuple #[.string a', .bool b']) := by rw [h1, h2]
theorem bd_lt {T e : TypeId} {B b : Nat} {bs : List Value} {w : World} (h : Lib.IsBuilder T e B b bs w) : b < w.heap.size ∧ B ≤ b := by
  rcases h with h | h
  · exact ⟨h.lt, h.1⟩
  · exact ⟨h.lt, h.1⟩
set_option maxRecDepth 100000 in
set_option maxHeartbeats 4000000 in
theorem i_escape (attr : Bool) (s : ByteArray) (w : World) (hs : s.size ≤ 1048576) (hT : Tabs w) :
    Calls Tryz.prog 43 #[.string s, .bool attr] w fun e w' => e = .returned (.tuple #[.string (escV attr s), .bool (escOk s)]) ∧ Below w.heap.size w w' := by
  have HS := hide hs
  have CP := hide (i_plain s w hs hT)
  clear hT
  by_cases hbig : s.size ≤ 2500
  · have hb2 : (s.size : Int) ≤ 2500 := by omega
    cases hp : plainB s
    · have hv : escOk s = false := by unfold escOk; rw [hp]; simp
      have HV := hide (escV_no (attr := attr) hv)
      have HW := hide hv
      rw [hp] at CP
      clear hv
      go_enter Tryz.func43, Tryz.ntmps43
      go_wp2_with (first | (go_at_call 27; refine CP.out.mono ?_; rintro e w1 ⟨rfl, hb1⟩; have HB := hide hb1; clear hb1))
      go_ret2
      exact ⟨escW_ret HV.out.symm HW.out.symm, HB.out⟩
    · have hv : escOk s = true := by unfold escOk; rw [hp, decide_eq_true hbig]; rfl
      have HV := hide (escV_yes (attr := attr) hv)
      have HW := hide hv
      rw [hp] at CP
      clear hv
      go_enter Tryz.func43, Tryz.ntmps43
      go_wp2_with (first | (go_at_call 27; refine CP.out.mono ?_; rintro e w1 ⟨rfl, hb1⟩; have HB := hide hb1; clear hb1))
      go_loopw [7] (fun iv wr => ∃ k : Nat, k ≤ s.size ∧ iv = .int .i64 k ∧ Lib.IsBuilder 38 5 w1.heap.size w1.heap.size (Lib.byteCells (escL attr (s.data.toList.take k))) wr ∧ Below w.heap.size w wr) (fun iv _ => s.size - (intOf iv).toNat)
      case atStart => exact ⟨0, Nat.zero_le _, rfl, Lib.fresh_isBuilder _ _ w1, HB.out.alloc HB.out.size _⟩
      case round =>
        obtain ⟨k, hk, rfl, hI, hb⟩ := hrel
        have hlen := escL_len attr (s.data.toList.take k)
        have htl : (s.data.toList.take k).length ≤ k := List.length_take_le _ _
        have hbl := bd_lt hI
        have HI := hide hI
        have HB2 := hide hb
        have hww := HB.out.size
        by_cases hlt : k < s.size
        · have hst := esc_step attr s k hlt
          rw [esc_mark] at hst
          have hml := markL_len attr s[k]
          have CE := hide (fun (w : World) => i_escOf attr s[k] (s[k].toNat : Int) rfl w)
          obtain ⟨L, hL⟩ : ∃ L, escL attr (s.data.toList.take k) = L := ⟨_, rfl⟩
          rw [hL] at hst HI hlen
          obtain ⟨M, hM⟩ : ∃ M, markL attr s[k] = M := ⟨_, rfl⟩
          rw [hM] at CE hst hml
          have hbc := Lib.byteCells_length L
          clear hI hb hL hM
          by_cases hM0 : M = []
          · subst hM0
            rw [if_pos rfl] at hst
            have HST := hide hst
            clear hst
            go_wp2_with (first | (go_at_call 72; refine (CE.out _).mono ?_; rintro e w2 ⟨rfl, rfl⟩) | (go_at_call 73; refine (bd_byte w1.heap.size w1.heap.size _ _ _ HI.out (by omega) (by omega)).mono ?_; rintro e w3 ⟨rfl, hI3, hb3⟩; have HI3 := hide hI3; have HB3 := hide (HB2.out.trans (hb3.mono hww)); clear hI3 hb3))
            go_roundw
            case rel =>
              refine ⟨k + 1, by omega, by go_num, ?_, HB3.out⟩
              rw [HST.out, bc_app]
              exact HI3.out
            case measure => simp [intOf]; omega
          · rw [if_neg hM0] at hst
            have HST := hide hst
            obtain ⟨x, hx⟩ : ∃ x : ByteArray, (⟨M.toArray⟩ : ByteArray) = x := ⟨_, rfl⟩
            have hxs : x.size = M.length := by rw [← hx]; simp [ByteArray.size]
            have hM1 : 0 < M.length := List.length_pos_iff.2 hM0
            have hxe := escW_ne x (by omega)
            have HXC : Hid (Lib.strCells x = Lib.byteCells M) := hide (by rw [← hx]; rfl)
            rw [hx] at CE
            have hx6 : x.size ≤ 6 := by omega
            have hx0 : 0 < x.size := by omega
            clear hst hx hxs hM0 hM1
            go_wp2_with (first | (go_at_call 72; refine (CE.out _).mono ?_; rintro e w2 ⟨rfl, rfl⟩) | (go_at_call 17; refine (bd_str w1.heap.size w1.heap.size _ _ _ HI.out (by omega) (by omega)).mono ?_; rintro e w3 ⟨rfl, hI3, hb3⟩; have HI3 := hide hI3; have HB3 := hide (HB2.out.trans (hb3.mono hww)); clear hI3 hb3))
            go_roundw
            case rel =>
              refine ⟨k + 1, by omega, by go_num, ?_, HB3.out⟩
              rw [HST.out, bc_app, ← HXC.out]
              exact HI3.out
            case measure => simp [intOf]; omega
        · have hkn : k = s.size := by omega
          subst hkn
          have hal : s.data.toList.take s.size = s.data.toList := List.take_of_length_le (by rw [Array.length_toList]; exact Nat.le_refl _)
          rw [hal] at HI
          clear hI hb
          go_wp2_with (first | (go_at_call 21; refine (Tryz.Builder_String_any w1.heap.size w1.heap.size (escL attr s.data.toList) _ HI.out (by omega)).mono ?_; rintro e w3 ⟨rfl, hb3⟩; have HB3 := hide (HB2.out.trans (hb3.mono hww)); clear hb3))
          go_ret2
          exact ⟨escW_ret HV.out.symm HW.out.symm, HB3.out⟩
  · have hb2 : (2500 : Int) < (s.size : Int) := by omega
    have hv : escOk s = false := by unfold escOk; rw [decide_eq_false hbig]; rfl
    have HV := hide (escV_no (attr := attr) hv)
    have HW := hide hv
    clear hv CP
    go_enter Tryz.func43, Tryz.ntmps43
    go_wp2
    go_ret2
    exact ⟨escW_ret HV.out.symm HW.out.symm, Below.refl _ _⟩
theorem s_escL (attr : Bool) (s : ByteArray) (w : World) (hs : s.size ≤ 1048576) :
    Calls Tryz.prog 48 #[.string s, .bool attr] w fun e w' => e = .returned (.string ⟨(escL attr s.data.toList).toArray⟩) ∧ w' = w := by
  cases attr
  · exact s_esc_false s w hs
  · exact s_esc_true s w hs
end Go.Proofs.YthcggdjkfebemaaGreatDoor
