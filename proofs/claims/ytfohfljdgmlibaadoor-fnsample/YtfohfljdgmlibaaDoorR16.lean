/-
  Texts put together: TkN, TkE, SoMath, FiI, AppAny.
-/
import Derived.Test.YtfohfljdgmlibaaDoorR15
import Derived.Test.YtfohfljdgmlibaaDoorR1
import Derived.Deep.AppendLies
import Derived.Deep.Upon
/-
  Contract: a model that is not right has ways that lead nowhere (the program's).
-/
namespace Go.Proofs.YtfohfljdgmlibaaDoor
open Go.RowKit Go.Joins
set_option linter.unusedVariables false
set_option linter.unusedSimpArgs false
set_option maxRecDepth 100000 in
set_option maxHeartbeats 8000000 in
theorem i_tracksN (D : Pn) (n : Nat) (a : Option Addr) (cap : Nat) (w : World) (hD : D.n = n) (hz : pnTot D ≤ 1048576) (hr : PnAt w a D w.heap.size) (hpk : pkB D = false) :
    Calls Tryd.prog 34 #[.slice a n cap] w fun r w' => r = .returned (.tuple #[.agg (tkN (.slice none 0 0)), .bool false]) ∧ Below w.heap.size w w' := by
  have HP := hide (fun (W : World) (hW : Below w.heap.size w W) => i_particle D n a cap W hD hz (pnAt_up (pnAt_go hr hW) hW.size))
  rw [hpk] at HP
  clear hr hD hz hpk
  have hz := tk_zero
  have hne := tkN_ne
  have HX := hide (boxes2 w #[.slice a n cap] (tkN (.slice none 0 0)) 24 55)
  have hsz : (Tryd.prog.info? 55).map (·.size) = some (tkN (.slice none 0 0)).size := by unfold tkN; rw [tkC_size]; exact tk_size
  have hall : (tkN (.slice none 0 0)).all (·.oneCell') = true := tkC_one none 0 0 _ _
  go_enter Tryd.func34, Tryd.ntmps34
  go_wp2_with (first
    | (go_at_call 53; refine (HP.out _ HX.out.2.2).mono ?_; rintro r w1 ⟨rfl, hb1⟩; have HB1 := hide (HX.out.2.2.trans (hb1.mono HX.out.2.2.size)); obtain ⟨tr9, h5⟩ := cellsAt_go HX.out.2.1 hb1 (cellsAt_lt HX.out.2.1); have H5 := hide (setRow_heap w1 _ _ (tkN (.slice none 0 0)) _ _ h5); clear hb1)
    | (refine wpList_store_row rfl 55 _ _ rfl (w.heap.size + 1) _ rfl rfl tr9 _ h5 hsz rfl hall ?_))
  exact bodyPost_ret (v := .tuple #[.agg (tkN (.slice none 0 0)), .bool false]) (by rw [results_cell_tmp Tryd.results34]; simp [asAddr, run_loadVar_row _ (w.heap.size + 1) tr9 55 (tkN (.slice none 0 0)) (0, 0) _ H5.out Tryd.underlying55 rfl hsz]) rfl ⟨rfl, below_setRow HB1.out (by omega) _⟩
end Go.Proofs.YtfohfljdgmlibaaDoor

/-
  Contracts: what is asked of the ways of a model (the program's).
-/
namespace Go.Proofs.YtfohfljdgmlibaaDoor
open Go.RowKit Go.Joins
set_option linter.unusedVariables false
set_option linter.unusedSimpArgs false
theorem i_mayEnd (T x : Nat) (mv : Value) (F : Nat → Nat) (e : Nat) (w : World) (hx : x < 18446744073709551616) (he : e < 18446744073709551616) (hC : CellsAt w T (tkC mv F e)) :
    Calls Tryd.prog 37 #[.pointer (some ⟨T, 0, none⟩), .int .u64 x] w fun r w' => r = .returned (.bool (decide (x &&& e ≠ 0))) ∧ w' = w := by
  have e0 := (cellsAt_cell hC 42).trans (tkC_get _ _ _ 42 (by decide))
  have e1 : tkV mv F e 42 = .int .u64 (e : Int) := rfl
  rw [e1] at e0
  have b1 : bits .and .u64 (x : Int) (e : Int) = ((x &&& e : Nat) : Int) := bits_and_u64_nat x e hx he
  clear e1 hC
  by_cases h0 : x &&& e = 0
  · have HD : Hid (decide (x &&& e ≠ 0) = false) := hide (by simp [h0])
    rw [h0] at b1
    clear h0
    go_enter Tryd.func37, Tryd.ntmps37
    go_wp2
    go_ret
    exact ⟨ret_bool (by rw [HD.out]), rfl⟩
  · have HD : Hid (decide (x &&& e ≠ 0) = true) := hide (by simp [h0])
    obtain ⟨y, hy⟩ : ∃ y, x &&& e = y := ⟨_, rfl⟩
    rw [hy] at b1 h0
    have hb : ((y : Int) == 0) = false := by rw [beq_eq_false_iff_ne]; omega
    have hb2 : ((y : Int) != 0) = true := by simp [bne, hb]
    clear hy h0
    go_enter Tryd.func37, Tryd.ntmps37
    go_wp2
    go_ret
    exact ⟨ret_bool (by rw [HD.out]), rfl⟩
theorem end_bit {nul : Bool} {l : Nat} {S : List Int} (h : BitS l S) : decide (1099511627776 &&& thL nul l 1099511627776 ≠ 0) = nul := by
  have h40 : ∀ j : Nat, (1099511627776 : Nat).testBit j = decide (40 = j) := fun j => by
    rw [show (1099511627776 : Nat) = 2 ^ 40 by decide, Nat.testBit_two_pow]
  have hl : l.testBit 40 = false := Nat.testBit_lt_two_pow (show l < 2 ^ 40 from h.1)
  cases nul
  · have e : 1099511627776 &&& thL false l 1099511627776 = 0 := by
      apply Nat.eq_of_testBit_eq
      intro j
      rw [Nat.testBit_and, h40, Nat.zero_testBit]
      by_cases e : 40 = j
      · subst e
        show (_ && l.testBit 40) = false
        rw [hl]; simp
      · rw [decide_eq_false e]; rfl
    rw [e]; simp
  · have e : ¬ (1099511627776 &&& thL true l 1099511627776 = 0) := fun e => by
      have := congrArg (fun z => Nat.testBit z 40) e
      simp only [Nat.testBit_and, h40, Nat.zero_testBit, thL, if_pos, Nat.testBit_or] at this
      simp at this
    simp [e]
theorem thL_lt {nul : Bool} {l : Nat} {S : List Int} (h : BitS l S) : thL nul l 1099511627776 < 2199023255552 := by
  unfold thL
  split
  · exact Nat.or_lt_two_pow (n := 41) (Nat.lt_of_lt_of_le h.1 (by decide)) (by decide)
  · exact Nat.lt_of_lt_of_le h.1 (by decide)
/-- The ways of a model, right or not. -/
def TkAns (D : Pn) (a : Option Addr) (n cap : Nat) (b : Option Addr) (m c : Nat) (F : Nat → Nat) (e : Nat) : Prop := (pkB D = true → b = a ∧ m = n ∧ c = cap ∧ TkOf D F e) ∧ (pkB D = false → F = (fun _ => 0) ∧ e = 0)
theorem i_tracks2 (D : Pn) (n : Nat) (a : Option Addr) (cap : Nat) (w : World) (hD : D.n = n) (hz : pnTot D ≤ 1048576) (hr : PnAt w a D w.heap.size) (hT : TzT w) :
    Calls Tryd.prog 34 #[.slice a n cap] w fun r w' => ∃ b m c F e, r = .returned (.tuple #[.agg (tkC (.slice b m c) F e), .bool (pkB D)]) ∧ TkAns D a n cap b m c F e ∧ Below w.heap.size w w' := by
  cases hpk : pkB D
  · refine (i_tracksN D n a cap w hD hz hr hpk).mono ?_
    rintro r w1 ⟨rfl, hb⟩
    exact ⟨none, 0, 0, fun _ => 0, 0, rfl, ⟨fun h => (by rw [hpk] at h; cases h), fun _ => ⟨rfl, rfl⟩⟩, hb⟩
  · refine (i_tracks D n a cap w hD hz hr hpk hT).mono ?_
    rintro r w1 ⟨F, e, rfl, h, hb⟩
    exact ⟨a, n, cap, F, e, rfl, ⟨fun _ => ⟨rfl, rfl, rfl, h⟩, fun h => (by rw [hpk] at h; cases h)⟩, hb⟩
theorem tk_null {D : Pn} {a : Option Addr} {n cap : Nat} {b : Option Addr} {m c : Nat} {F : Nat → Nat} {e : Nat} (h : TkAns D a n cap b m c F e) : decide (1099511627776 &&& e ≠ 0) = (pkB D && nl D (D.n - 1)) ∧ e < 18446744073709551616 := by
  cases hpk : pkB D
  · obtain ⟨-, rfl⟩ := h.2 hpk
    exact ⟨by simp, by decide⟩
  · obtain ⟨-, -, -, -, -, l, hl, rfl⟩ := h.1 hpk
    exact ⟨by rw [end_bit hl]; simp, Nat.lt_of_lt_of_le (thL_lt hl) (by decide)⟩
theorem tk_fit (b : Option Addr) (m c : Nat) (F : Nat → Nat) (e : Nat) : (Tryd.prog.info? 55).map (·.size) = some (tkC (.slice b m c) F e).size ∧ (tkN (.slice none 0 0)).size = (tkC (.slice b m c) F e).size := by
  unfold tkN
  rw [tkC_size, tkC_size]
  exact ⟨tk_size, rfl⟩
set_option maxRecDepth 100000 in
set_option maxHeartbeats 4000000 in
theorem i_nullable (D : Pn) (n : Nat) (a : Option Addr) (cap : Nat) (w : World) (hD : D.n = n) (hz : pnTot D ≤ 1048576) (hr : PnAt w a D w.heap.size) (hT : TzT w) :
    Calls Tryd.prog 12 #[.slice a n cap] w fun r w' => r = .returned (.bool (pkB D && nl D (D.n - 1))) ∧ Below w.heap.size w w' := by
  have hzz := tk_zero
  have hne := tkN_ne
  have CN := hide (fun (W : World) => i_only 40 W (by omega))
  have CT := hide (i_tracks2 D n a cap w hD hz hr hT)
  clear hr hD hz hT
  go_enter Tryd.func12, Tryd.ntmps12
  go_wp2_with (first
    | (go_at_call 34; refine CT.out.mono ?_; rintro r w1 ⟨b9, m9, c9, F, e, rfl, hA, hb1⟩; have HA := hide hA; have HB1 := hide hb1; obtain ⟨hsz, hzs⟩ := tk_fit b9 m9 c9 F e; have hall := tkC_one b9 m9 c9 F e; have HC := hide (cellsAt_new w1 (tkC (.slice b9 m9 c9) F e) 55); obtain ⟨CS, hCS⟩ : ∃ CS, tkC (.slice b9 m9 c9) F e = CS := ⟨_, rfl⟩; have HCS := hide hCS; rw [hCS] at hsz hzs hall HC ⊢; clear hA hb1 hCS)
    | (go_at_call 35; refine (CN.out _).mono ?_; rintro r9 w9 ⟨rfl, h9⟩; rw [h9]; clear h9 w9)
    | (refine wpList_store_row rfl 55 _ _ rfl w1.heap.size CS rfl rfl 55 _ (heap_alloc_last w1 _) hsz hzs hall ?_; rw [World.setRow_alloc_new])
    | (go_at_call 37; refine (i_mayEnd w1.heap.size 1099511627776 (.slice b9 m9 c9) F e _ (by decide) (tk_null HA.out).2 (by rw [HCS.out]; exact HC.out)).mono ?_; rintro r9 w9 ⟨rfl, h9⟩; rw [h9, (tk_null HA.out).1]; clear h9 w9))
  go_ret
  exact ⟨rfl, HB1.out.alloc HB1.out.size _⟩
end Go.Proofs.YtfohfljdgmlibaaDoor

/-
  Plain facts on rows of numbers in order, each once, of no program.
-/
namespace Go.Proofs.YtfohfljdgmlibaaDoor
set_option linter.unusedVariables false
set_option linter.unusedSimpArgs false
/-- In order, each once. -/
def insL (v : Int) : List Int → List Int
  | [] => [v]
  | h :: t => if h < v then h :: insL v t else if h = v then h :: t else v :: h :: t
def srtL (L : List Int) : List Int := L.foldl (fun o v => insL v o) []
theorem insL_mem {v x : Int} : ∀ {l : List Int}, x ∈ insL v l ↔ x = v ∨ x ∈ l
  | [] => by simp [insL]
  | h :: t => by
    rw [insL]
    split
    · rw [List.mem_cons, insL_mem (l := t), List.mem_cons]; constructor <;> (intro h; rcases h with h | h | h <;> simp [h])
    · split
      · rename_i e; subst e; simp
      · simp
theorem insL_sorted {v : Int} : ∀ {l : List Int}, l.Pairwise (· < ·) → (insL v l).Pairwise (· < ·)
  | [], _ => by simp [insL]
  | h :: t, hp => by
    obtain ⟨h1, h2⟩ := List.pairwise_cons.1 hp
    rw [insL]
    split
    · refine List.pairwise_cons.2 ⟨fun x hx => ?_, insL_sorted h2⟩
      rcases insL_mem.1 hx with rfl | hx
      · assumption
      · exact h1 x hx
    · split
      · exact hp
      · refine List.pairwise_cons.2 ⟨fun x hx => ?_, hp⟩
        rcases List.mem_cons.1 hx with rfl | hx
        · omega
        · have := h1 x hx; omega
theorem srt_fold : ∀ (L o : List Int), o.Pairwise (· < ·) → (L.foldl (fun o v => insL v o) o).Pairwise (· < ·) ∧ ∀ x, x ∈ L.foldl (fun o v => insL v o) o ↔ x ∈ L ∨ x ∈ o
  | [], o, h => ⟨h, fun x => by simp⟩
  | v :: L, o, h => by
    obtain ⟨h1, h2⟩ := srt_fold L (insL v o) (insL_sorted h)
    refine ⟨h1, fun x => ?_⟩
    rw [List.foldl_cons, h2 x, insL_mem, List.mem_cons]
    constructor
    · rintro (h | h | h) <;> simp [h]
    · rintro ((h | h) | h) <;> simp [h]
theorem srt_sorted (L : List Int) : (srtL L).Pairwise (· < ·) := (srt_fold L [] List.Pairwise.nil).1
theorem srt_mem (L : List Int) (x : Int) : x ∈ srtL L ↔ x ∈ L := by
  have := (srt_fold L [] List.Pairwise.nil).2 x
  unfold srtL
  simpa using this
theorem lt_nodup {l : List Int} (h : l.Pairwise (· < ·)) : l.Nodup := h.imp fun hab e => by omega
theorem srt_merge {L : List Int} (h : L.Nodup) : L.mergeSort (fun x y => decide (x ≤ y)) = srtL L := by
  have hp : (L.mergeSort fun x y => decide (x ≤ y)).Perm (srtL L) := by
    refine (List.mergeSort_perm _ _).trans ?_
    exact (List.perm_ext_iff_of_nodup h (lt_nodup (srt_sorted L))).2 fun x => (srt_mem L x).symm
  refine List.Perm.eq_of_pairwise (le := fun a b => decide (a ≤ b) = true) (fun a b _ _ h1 h2 => by simp only [decide_eq_true_eq] at h1 h2; omega) (List.pairwise_mergeSort (fun a b c h1 h2 => by simp only [decide_eq_true_eq] at h1 h2 ⊢; omega) (fun a b => by simp only [Bool.or_eq_true, decide_eq_true_eq]; omega) L) ((srt_sorted L).imp fun h => by simp only [decide_eq_true_eq]; omega) hp
theorem srt_len {L : List Int} (h : L.Nodup) : (srtL L).length = L.length := by rw [← srt_merge h, List.length_mergeSort]
/-- What one more number makes of a row in order: k of it stand ahead. -/
theorem insL_at {v : Int} : ∀ {l : List Int} {k : Nat}, k ≤ l.length → (∀ j, j < k → l[j]?.getD 0 < v) → (∀ h : k < l.length, v < l[k]?.getD 0) → insL v l = l.take k ++ v :: l.drop k
  | [], k, hk, h1, h2 => by
    have : k = 0 := by simpa using hk
    subst this; rfl
  | h :: t, 0, hk, h1, h2 => by
    have := h2 (by simp)
    simp at this
    rw [insL, if_neg (by omega), if_neg (by omega)]
    rfl
  | h :: t, k + 1, hk, h1, h2 => by
    have h0 := h1 0 (by omega)
    simp at h0
    rw [insL, if_pos h0, insL_at (l := t) (k := k) (by simpa using hk) (fun j hj => by have := h1 (j + 1) (by omega); simpa using this) (fun hh => by have := h2 (by simpa using hh); simpa using this)]
    rfl
theorem insL_dup {v : Int} : ∀ {l : List Int} {k : Nat}, k < l.length → (∀ j, j < k → l[j]?.getD 0 < v) → l[k]?.getD 0 = v → insL v l = l
  | [], k, hk, h1, h2 => by simp at hk
  | h :: t, 0, hk, h1, h2 => by
    simp at h2
    rw [insL, if_neg (by omega), if_pos h2]
  | h :: t, k + 1, hk, h1, h2 => by
    have h0 := h1 0 (by omega)
    simp at h0
    rw [insL, if_pos h0, insL_dup (l := t) (k := k) (by simpa using hk) (fun j hj => by have := h1 (j + 1) (by omega); simpa using this) (by simpa using h2)]
theorem srt_take {L : List Int} {k : Nat} (h : k < L.length) : srtL (L.take (k + 1)) = insL (L[k]?.getD 0) (srtL (L.take k)) := by
  unfold srtL
  rw [List.take_succ_eq_append_getElem h, List.foldl_append, List.getElem?_eq_getElem h]
  rfl
theorem insL_len (v : Int) : ∀ l : List Int, (insL v l).length ≤ l.length + 1
  | [] => by simp [insL]
  | h :: t => by
    rw [insL]
    split
    · have := insL_len v t; simp; omega
    · split <;> simp
theorem srt_len_le (L : List Int) : ∀ k, k ≤ L.length → (srtL (L.take k)).length ≤ k
  | 0, h => by simp [srtL]
  | k + 1, h => by
    rw [srt_take (by omega)]
    have h1 := insL_len (L[k]?.getD 0) (srtL (L.take k))
    have h2 := srt_len_le L k (by omega)
    omega
end Go.Proofs.YtfohfljdgmlibaaDoor

/-
  Contracts: where rows of a model begin and end (the program's).
-/
namespace Go.Proofs.YtfohfljdgmlibaaDoor
open Go.RowKit Go.Joins
set_option linter.unusedVariables false
set_option linter.unusedSimpArgs false
theorem sorted_ext {L M : List Int} (h1 : L.Pairwise (· < ·)) (h2 : M.Pairwise (· < ·)) (h : ∀ x, x ∈ L ↔ x ∈ M) : L = M := by
  have hp : L.Perm M := (List.perm_ext_iff_of_nodup (lt_nodup h1) (lt_nodup h2)).2 h
  refine List.Perm.eq_of_pairwise (le := fun a b => a ≤ b) (fun a b _ _ h3 h4 => Int.le_antisymm h3 h4) (h1.imp fun h => Int.le_of_lt h) (h2.imp fun h => Int.le_of_lt h) hp
theorem bts_srt {x : Nat} {S : List Int} (h : BitS x S) (hS : ∀ z ∈ S, 0 ≤ z) : bts x = srtL S := by
  have hx : x < 18446744073709551616 := Nat.lt_of_lt_of_le h.1 (by decide)
  refine sorted_ext (bts_sorted (x + 1) x (by omega) hx) (srt_sorted S) (fun z => ?_)
  rw [srt_mem, bts_mem (x + 1) x (by omega) hx]
  constructor
  · rintro ⟨j, rfl, hj⟩; exact (h.2 j).1 hj
  · intro hz
    have := hS z hz
    exact ⟨z.toNat, by omega, (h.2 z.toNat).2 (by rw [Int.toNat_of_nonneg this]; exact hz)⟩
def foV (D : Pn) : List Int := if pkB D = true then srtL (ed D false (D.n - 1)) else []
def laV (D : Pn) : List Int := if pkB D = true then srtL (ed D true (D.n - 1)) else []
theorem lo_root {D : Pn} (h : pkB D = true) : Lo D (D.n - 1) := fun j hj => (pk_lo h j (by have := (pk_facts h).1; omega)).2
theorem ed_pos {D : Pn} {rev : Bool} (h : pkB D = true) : ∀ z ∈ ed D rev (D.n - 1), 0 ≤ z := fun z hz => (ed_range (D.n - 1 + 1) (D.n - 1) (by omega) (lo_root h) z hz).1
theorem tk_first {D : Pn} {a : Option Addr} {n cap : Nat} {b : Option Addr} {m c : Nat} {F : Nat → Nat} {e : Nat} (h : TkAns D a n cap b m c F e) : bts (F 40) = foV D ∧ F 40 < 18446744073709551616 := by
  unfold foV
  cases hpk : pkB D
  · obtain ⟨rfl, -⟩ := h.2 hpk
    exact ⟨rfl, by decide⟩
  · obtain ⟨-, -, -, -, hb, -⟩ := h.1 hpk
    rw [if_pos rfl]
    exact ⟨bts_srt hb (ed_pos hpk), Nat.lt_of_lt_of_le hb.1 (by decide)⟩
theorem mask_bit : ∀ q, q < 64 → (18446742974197923839 : Nat).testBit q = decide (q ≠ 40) := by decide
theorem last_bits {nul : Bool} {l : Nat} {S : List Int} (h : BitS l S) : thL nul l 1099511627776 &&& 18446742974197923839 = l := by
  apply Nat.eq_of_testBit_eq
  intro q
  rw [Nat.testBit_and]
  have h40 : (1099511627776 : Nat).testBit q = decide (40 = q) := by rw [show (1099511627776 : Nat) = 2 ^ 40 by decide, Nat.testBit_two_pow]
  by_cases hq : q < 64
  · rw [mask_bit q hq]
    by_cases e : q = 40
    · subst e
      have hl : l.testBit 40 = false := Nat.testBit_lt_two_pow (show l < 2 ^ 40 from h.1)
      rw [hl]; simp
    · rw [decide_eq_true e, Bool.and_true]
      cases nul
      · rfl
      · show (l ||| 1099511627776).testBit q = _
        rw [Nat.testBit_or, h40, decide_eq_false (fun h => e h.symm), Bool.or_false]
  · have h1 : (18446742974197923839 : Nat).testBit q = false := Nat.testBit_lt_two_pow (Nat.lt_of_lt_of_le (show (18446742974197923839 : Nat) < 2 ^ 64 by decide) (Nat.pow_le_pow_right (by decide) (by omega)))
    have h2 : l.testBit q = false := Nat.testBit_lt_two_pow (Nat.lt_of_lt_of_le (show l < 2 ^ 40 from h.1) (Nat.pow_le_pow_right (by decide) (by omega)))
    rw [h1, h2, Bool.and_false]
theorem tk_last {D : Pn} {a : Option Addr} {n cap : Nat} {b : Option Addr} {m c : Nat} {F : Nat → Nat} {e : Nat} (h : TkAns D a n cap b m c F e) : bts (e &&& 18446742974197923839) = laV D ∧ e < 18446744073709551616 ∧ e &&& 18446742974197923839 < 18446744073709551616 := by
  unfold laV
  cases hpk : pkB D
  · obtain ⟨-, rfl⟩ := h.2 hpk
    exact ⟨by simp [bts_zero], by decide, by decide⟩
  · obtain ⟨-, -, -, -, -, l, hl, rfl⟩ := h.1 hpk
    rw [if_pos rfl, last_bits hl]
    exact ⟨bts_srt hl (ed_pos hpk), Nat.lt_of_lt_of_le (thL_lt hl) (by decide), Nat.lt_of_lt_of_le hl.1 (by decide)⟩
/-- An answer of numbers in memory of its own. -/
def IntAns (L : List Int) (w : World) (r : Ending) (w' : World) : Prop := ∃ ad c, r = .returned (.slice ad L.length c) ∧ IntR w.heap.size w' ad c L ∧ Below w.heap.size w w'
set_option maxRecDepth 100000 in
set_option maxHeartbeats 4000000 in
theorem i_firstOf (D : Pn) (n : Nat) (a : Option Addr) (cap : Nat) (w : World) (hD : D.n = n) (hz : pnTot D ≤ 1048576) (hr : PnAt w a D w.heap.size) (hT : TzT w) :
    Calls Tryd.prog 13 #[.slice a n cap] w (IntAns (foV D) w) := by
  have hzz := tk_zero
  have hne := tkN_ne
  have CT := hide (i_tracks2 D n a cap w hD hz hr hT)
  have HT := hide hT
  clear hr hD hz hT
  go_enter Tryd.func13, Tryd.ntmps13
  go_wp2_with (first
    | (go_at_call 34; refine CT.out.mono ?_; rintro r w1 ⟨b9, m9, c9, F, e, rfl, hA, hb1⟩; have HA := hide (tk_first hA); have HB1 := hide hb1; obtain ⟨hsz, hzs⟩ := tk_fit b9 m9 c9 F e; have hall := tkC_one b9 m9 c9 F e; have HC := hide (cellsAt_new w1 (tkC (.slice b9 m9 c9) F e) 55); have f40 := (cellsAt_cell HC.out 41).trans (tkC_at (.slice b9 m9 c9) F e 40 (by decide)); obtain ⟨CS, hCS⟩ : ∃ CS, tkC (.slice b9 m9 c9) F e = CS := ⟨_, rfl⟩; have HCS := hide hCS; rw [hCS] at hsz hzs hall HC f40 ⊢; clear hA hb1 hCS)
    | (refine wpList_store_row rfl 55 _ _ rfl w1.heap.size CS rfl rfl 55 _ (heap_alloc_last w1 _) hsz hzs hall ?_; rw [World.setRow_alloc_new])
    | (go_at_call 43; refine (i_list (F 40) _ HA.out.2 (tzT_go HT.out (HB1.out.alloc HB1.out.size _) (Nat.le_refl _))).mono ?_; rintro r w3 ⟨ad3, c3, rfl, ho3, hb3⟩; have HO3 := hide ho3; have HB3 := hide ((HB1.out.alloc HB1.out.size _).trans (hb3.mono (HB1.out.alloc HB1.out.size _).size)); clear ho3 hb3))
  go_ret
  rw [← HA.out.1]
  exact ⟨ad3, c3, rfl, gOwn_lower HO3.out (HB1.out.alloc HB1.out.size _).size, HB3.out⟩
set_option maxRecDepth 100000 in
set_option maxHeartbeats 4000000 in
theorem i_lastOf (D : Pn) (n : Nat) (a : Option Addr) (cap : Nat) (w : World) (hD : D.n = n) (hz : pnTot D ≤ 1048576) (hr : PnAt w a D w.heap.size) (hT : TzT w) :
    Calls Tryd.prog 16 #[.slice a n cap] w (IntAns (laV D) w) := by
  have hzz := tk_zero
  have hne := tkN_ne
  have CT := hide (i_tracks2 D n a cap w hD hz hr hT)
  have CN := hide (fun (W : World) => i_only 40 W (by omega))
  have HT := hide hT
  clear hr hD hz hT
  go_enter Tryd.func16, Tryd.ntmps16
  go_wp2_with (first
    | (go_at_call 34; refine CT.out.mono ?_; rintro r w1 ⟨b9, m9, c9, F, e, rfl, hA, hb1⟩; have HA := hide (tk_last hA); have HB1 := hide hb1; obtain ⟨hsz, hzs⟩ := tk_fit b9 m9 c9 F e; have hall := tkC_one b9 m9 c9 F e; have HC := hide (cellsAt_new w1 (tkC (.slice b9 m9 c9) F e) 55); have f42 := (cellsAt_cell HC.out 42).trans (tkC_get (.slice b9 m9 c9) F e 42 (by decide)); have f43 : tkV (.slice b9 m9 c9) F e 42 = .int .u64 (e : Int) := rfl; rw [f43] at f42; clear f43; have hbn : bits .andNot .u64 (e : Int) 1099511627776 = ((e &&& 18446742974197923839 : Nat) : Int) := u64_andNot_nat e 1099511627776 HA.out.2.1 (by decide); obtain ⟨x9, hx9⟩ : ∃ x9, e &&& 18446742974197923839 = x9 := ⟨_, rfl⟩; rw [hx9] at hbn HA; obtain ⟨CS, hCS⟩ : ∃ CS, tkC (.slice b9 m9 c9) F e = CS := ⟨_, rfl⟩; have HCS := hide hCS; rw [hCS] at hsz hzs hall HC f42 ⊢; clear hA hb1 hCS hx9)
    | (go_at_call 35; refine (CN.out _).mono ?_; rintro r9 w9 ⟨rfl, h9⟩; rw [h9]; clear h9 w9)
    | (refine wpList_store_row rfl 55 _ _ rfl w1.heap.size CS rfl rfl 55 _ (heap_alloc_last w1 _) hsz hzs hall ?_; rw [World.setRow_alloc_new]))
  have hWb : Below w.heap.size w (w1.alloc (.cells CS 55)).drew := (HB1.out.alloc HB1.out.size _).drew
  have HWB := hide hWb
  clear hWb
  go_region_with (first
    | (go_at_call 35; refine (CN.out _).mono ?_; rintro r9 w9 ⟨rfl, h9⟩; rw [h9]; clear h9 w9)
    | (go_at_call 43; refine (i_list x9 _ HA.out.2.2 (tzT_go HT.out HWB.out (Nat.le_refl _))).mono ?_; rintro r w3 ⟨ad3, c3, rfl, ho3, hb3⟩; have HO3 := hide ho3; have HB3 := hide (HWB.out.trans (hb3.mono HWB.out.size)); clear ho3 hb3))
  all_goals
    go_wp2
    go_ret
    rw [← HA.out.1]
    exact ⟨ad3, c3, rfl, gOwn_lower HO3.out HWB.out.size, HB3.out⟩
end Go.Proofs.YtfohfljdgmlibaaDoor

/-
  Plain facts: an append of anything that lies in memory, or of nothing (SpRows and SpA have them too, under other names).
-/
namespace Go.Proofs.YtfohfljdgmlibaaDoor
open Go.RowKit
set_option linter.unusedVariables false
set_option linter.unusedSimpArgs false
/-- An append, be there something to append or nothing. -/
theorem wp_append_src {P : Program} {w : World} {o : Oper} {a : Act} {K : Act → World → Prop} {Q : Exit → Act → World → Prop} (s x : Operand) (t : TypeId)
    (ho : o.op = .call { callee := .builtin .append, args := #[s, x], argTypes := #[t, t] })
    (base : Nat) (e : TypeId) (i : TypeInfo) (z : Value) (size bytes : Nat) (ht : P.underlying t = some (.slice e)) (hi : P.info? e = some i) (hz : i.zero = some z)
    (hsize : i.size = size) (hby : i.bytes = bytes) (hzs : z.cells.size = size) (hsz : 0 < size)
    (v : Value) (n : Nat) (xs : List Value) (hs : a.eval s = v) (hown : w.ownsRow base e size v n xs)
    (xa : Option Addr) (m c : Nat) (news : List Value) (hx : a.eval x = .slice xa m c) (hl : news.length = m * size) (hnews : 0 < m → ∃ ad, xa = some ad ∧ ∀ j u, news[j]? = some u → w.cell? (ad.add j) = some u) (h1 : ∀ u ∈ news, u.oneCell' = true)
    (h63 : n + m ≤ maxLen) (hbytes : (n + m) * bytes ≤ 140737488355328) (hbase : base ≤ w.heap.size)
    (h : ∀ a' c' w', w'.ownsRow base e size (.slice a' (n + m) c') (n + m) (xs ++ news) → w.grownBy w' v.ownBlock → K (a.put o.dst (.slice a' (n + m) c')) w') : o.wp P a w K Q := by
  by_cases hm : 0 < m
  · obtain ⟨ad, rfl, hnw⟩ := hnews hm
    exact wp_append_lies w s x t ho base e i z size bytes ht hi hz hsize hby hzs hsz v n xs hs hown ad m c news hx hl hnw h1 hm h63 hbytes hbase _ rfl (fun g cap w' k1 k2 _ _ => h _ _ w' k1 k2)
  · obtain rfl : m = 0 := by omega
    rw [Nat.zero_mul] at hl
    obtain rfl : news = [] := List.length_eq_zero_iff.1 hl
    have hv : ∃ a' c', v = .slice a' n c' ∧ n ≤ c' := by
      rcases hown.2 with ⟨rfl, rfl⟩ | ⟨g, cap, cur, rfl, _, _, hc, _⟩
      · exact ⟨none, 0, rfl, Nat.le_refl _⟩
      · exact ⟨_, cap, rfl, hc⟩
    obtain ⟨a', c', rfl, hc⟩ := hv
    have hsrc : Src P i.size t (.slice xa 0 c) 0 [] w := by
      cases xa with
      | none => exact Src.ofNil w ht c
      | some ad => exact Src.ofSlice w ht ad 0 c [] (by simp) (fun j u hj => by simp at hj) (fun u hu => by cases hu)
    have hr := run_append_nothing (P := P) w t t o.type e i ht hi a' n c' hc (.slice xa 0 c) hsrc
    unfold Oper.wp execOp
    simp only [ho, resolve, invoke, builtin, Sem.run_bind, Sem.run_pure, Result.andThen_ok, List.map_toArray, List.map_cons, List.map_nil, hs, hx, hr]
    exact h a' c' w (by rw [List.append_nil]; exact hown) ⟨rfl, rfl, rfl, Nat.le_refl _, fun _ _ _ => rfl⟩
/-- The same at a list of operations. -/
theorem wpList_append_src {P : Program} {w : World} {ops : Array Oper} {rest : List Oper} {o : Oper} {a : Act} {Q : Exit → Act → World → Prop} (hgd : o.guard = none) (s x : Operand) (t : TypeId)
    (ho : o.op = .call { callee := .builtin .append, args := #[s, x], argTypes := #[t, t] })
    (base : Nat) (e : TypeId) (i : TypeInfo) (z : Value) (size bytes : Nat) (ht : P.underlying t = some (.slice e)) (hi : P.info? e = some i) (hz : i.zero = some z)
    (hsize : i.size = size) (hby : i.bytes = bytes) (hzs : z.cells.size = size) (hsz : 0 < size)
    (v : Value) (n : Nat) (xs : List Value) (hs : a.eval s = v) (hown : w.ownsRow base e size v n xs)
    (xa : Option Addr) (m c : Nat) (news : List Value) (hx : a.eval x = .slice xa m c) (hl : news.length = m * size) (hnews : 0 < m → ∃ ad, xa = some ad ∧ ∀ j u, news[j]? = some u → w.cell? (ad.add j) = some u) (h1 : ∀ u ∈ news, u.oneCell' = true)
    (h63 : n + m ≤ maxLen) (hbytes : (n + m) * bytes ≤ 140737488355328) (hbase : base ≤ w.heap.size)
    (h : ∀ a' c' w', w'.ownsRow base e size (.slice a' (n + m) c') (n + m) (xs ++ news) → w.grownBy w' v.ownBlock → wpList P ops Q rest (a.put o.dst (.slice a' (n + m) c')) w') : wpList P ops Q (o :: rest) a w :=
  wpList_plain hgd fun _ hK => wp_append_src s x t ho base e i z size bytes ht hi hz hsize hby hzs hsz v n xs hs hown xa m c news hx hl hnews h1 h63 hbytes hbase fun a' c' w' h2 h3 => hK _ _ (h a' c' w' h2 h3)
/-- What an append reads of a row of numbers. -/
theorem row_src {w : World} {b off : Nat} {L : List Int} (h : ∀ j, j < L.length → w.cell? ⟨b, off + j, none⟩ = some (.int .i64 (L[j]?.getD 0))) : ∀ j u, (L.map (Value.int .i64))[j]? = some u → w.cell? ((⟨b, off, none⟩ : Addr).add j) = some u := by
  intro j u hu
  have hadd : (⟨b, off, none⟩ : Addr).add j = ⟨b, off + j, none⟩ := by unfold Addr.add; split <;> simp_all
  have hj : j < L.length := by
    rcases Nat.lt_or_ge j L.length with h' | h'
    · exact h'
    · rw [List.getElem?_eq_none (by rw [List.length_map]; exact h')] at hu; cases hu
  rw [hadd, h j hj]
  rw [List.getElem?_map, List.getElem?_eq_getElem hj] at hu
  rw [List.getElem?_eq_getElem hj]
  simpa using hu
theorem ints_one (L : List Int) : ∀ u ∈ L.map (Value.int .i64), u.oneCell' = true := by
  intro u hu
  obtain ⟨z, -, rfl⟩ := List.mem_map.1 hu
  rfl
end Go.Proofs.YtfohfljdgmlibaaDoor
