/-
  Contracts: what is asked of the ways of a model (the program's).
-/
import Derived.Test.YtfohfljdgmlibaaDoorTkN
namespace Go.Proofs.YtfohfljdgmlibaaDoor
open Go.RowKit Go.Joins
set_option linter.unusedVariables false
set_option linter.unusedSimpArgs false
theorem i_mayEnd (T x : Nat) (mv : Value) (F : Nat → Nat) (e : Nat) (w : World) (hx : x < 18446744073709551616) (he : e < 18446744073709551616) (hC : CellsAt w T (tkC mv F e)) :
    Calls Tryd.prog 37 #[.pointer (some ⟨T, 0, none⟩), .int .u64 x] w fun r w' => r = .returned (.bool (decide (x &&& e ≠ 0))) ∧ w' = w := by
  have e0 := (cellsAt_cell hC 42).trans (tkC_get _ _ _ 42 (by decide))
  have e1 : tkV mv F e 42 = .int .u64 (e : Int) := rfl
  rw [e1] at e0
  have b1 : bits .and .u64 (x : Int) (e : Int) = ((x &&& e : Nat) : Int) := bits_and_u64_nat x e hx he
  clear e1 hC
  by_cases h0 : x &&& e = 0
  · have HD : Hid (decide (x &&& e ≠ 0) = false) := hide (by simp [h0])
    rw [h0] at b1
    clear h0
    go_enter Tryd.func37, Tryd.ntmps37
    go_wp2
    go_ret
    exact ⟨ret_bool (by rw [HD.out]), rfl⟩
  · have HD : Hid (decide (x &&& e ≠ 0) = true) := hide (by simp [h0])
    obtain ⟨y, hy⟩ : ∃ y, x &&& e = y := ⟨_, rfl⟩
    rw [hy] at b1 h0
    have hb : ((y : Int) == 0) = false := by rw [beq_eq_false_iff_ne]; omega
    have hb2 : ((y : Int) != 0) = true := by simp [bne, hb]
    clear hy h0
    go_enter Tryd.func37, Tryd.ntmps37
    go_wp2
    go_ret
    exact ⟨ret_bool (by rw [HD.out]), rfl⟩
theorem end_bit {nul : Bool} {l : Nat} {S : List Int} (h : BitS l S) : decide (1099511627776 &&& thL nul l 1099511627776 ≠ 0) = nul := by
  have h40 : ∀ j : Nat, (1099511627776 : Nat).testBit j = decide (40 = j) := fun j => by
    rw [show (1099511627776 : Nat) = 2 ^ 40 by decide, Nat.testBit_two_pow]
  have hl : l.testBit 40 = false := Nat.testBit_lt_two_pow (show l < 2 ^ 40 from h.1)
  cases nul
  · have e : 1099511627776 &&& thL false l 1099511627776 = 0 := by
      apply Nat.eq_of_testBit_eq
      intro j
      rw [Nat.testBit_and, h40, Nat.zero_testBit]
      by_cases e : 40 = j
      · subst e
        show (_ && l.testBit 40) = false
        rw [hl]; simp
      · rw [decide_eq_false e]; rfl
    rw [e]; simp
  · have e : ¬ (1099511627776 &&& thL true l 1099511627776 = 0) := fun e => by
      have := congrArg (fun z => Nat.testBit z 40) e
      simp only [Nat.testBit_and, h40, Nat.zero_testBit, thL, if_pos, Nat.testBit_or] at this
      simp at this
    simp [e]
theorem thL_lt {nul : Bool} {l : Nat} {S : List Int} (h : BitS l S) : thL nul l 1099511627776 < 2199023255552 := by
  unfold thL
  split
  · exact Nat.or_lt_two_pow (n := 41) (Nat.lt_of_lt_of_le h.1 (by decide)) (by decide)
  · exact Nat.lt_of_lt_of_le h.1 (by decide)
/-- The ways of a model, right or not. -/
def TkAns (D : Pn) (a : Option Addr) (n cap : Nat) (b : Option Addr) (m c : Nat) (F : Nat → Nat) (e : Nat) : Prop := (pkB D = true → b = a ∧ m = n ∧ c = cap ∧ TkOf D F e) ∧ (pkB D = false → F = (fun _ => 0) ∧ e = 0)
theorem i_tracks2 (D : Pn) (n : Nat) (a : Option Addr) (cap : Nat) (w : World) (hD : D.n = n) (hz : pnTot D ≤ 1048576) (hr : PnAt w a D w.heap.size) (hT : TzT w) :
    Calls Tryd.prog 34 #[.slice a n cap] w fun r w' => ∃ b m c F e, r = .returned (.tuple #[.agg (tkC (.slice b m c) F e), .bool (pkB D)]) ∧ TkAns D a n cap b m c F e ∧ Below w.heap.size w w' := by
  cases hpk : pkB D
  · refine (i_tracksN D n a cap w hD hz hr hpk).mono ?_
    rintro r w1 ⟨rfl, hb⟩
    exact ⟨none, 0, 0, fun _ => 0, 0, rfl, ⟨fun h => (by rw [hpk] at h; cases h), fun _ => ⟨rfl, rfl⟩⟩, hb⟩
  · refine (i_tracks D n a cap w hD hz hr hpk hT).mono ?_
    rintro r w1 ⟨F, e, rfl, h, hb⟩
    exact ⟨a, n, cap, F, e, rfl, ⟨fun _ => ⟨rfl, rfl, rfl, h⟩, fun h => (by rw [hpk] at h; cases h)⟩, hb⟩
theorem tk_null {D : Pn} {a : Option Addr} {n cap : Nat} {b : Option Addr} {m c : Nat} {F : Nat → Nat} {e : Nat} (h : TkAns D a n cap b m c F e) : decide (1099511627776 &&& e ≠ 0) = (pkB D && nl D (D.n - 1)) ∧ e < 18446744073709551616 := by
  cases hpk : pkB D
  · obtain ⟨-, rfl⟩ := h.2 hpk
    exact ⟨by simp, by decide⟩
  · obtain ⟨-, -, -, -, -, l, hl, rfl⟩ := h.1 hpk
    exact ⟨by rw [end_bit hl]; simp, Nat.lt_of_lt_of_le (thL_lt hl) (by decide)⟩
theorem tk_fit (b : Option Addr) (m c : Nat) (F : Nat → Nat) (e : Nat) : (Tryd.prog.info? 55).map (·.size) = some (tkC (.slice b m c) F e).size ∧ (tkN (.slice none 0 0)).size = (tkC (.slice b m c) F e).size := by
  unfold tkN
  rw [tkC_size, tkC_size]
  exact ⟨tk_size, rfl⟩
set_option maxRecDepth 100000 in
set_option maxHeartbeats 4000000 in
theorem i_nullable (D : Pn) (n : Nat) (a : Option Addr) (cap : Nat) (w : World) (hD : D.n = n) (hz : pnTot D ≤ 1048576) (hr : PnAt w a D w.heap.size) (hT : TzT w) :
    Calls Tryd.prog 12 #[.slice a n cap] w fun r w' => r = .returned (.bool (pkB D && nl D (D.n - 1))) ∧ Below w.heap.size w w' := by
  have hzz := tk_zero
  have hne := tkN_ne
  have CN := hide (fun (W : World) => i_only 40 W (by omega))
  have CT := hide (i_tracks2 D n a cap w hD hz hr hT)
  clear hr hD hz hT
  go_enter Tryd.func12, Tryd.ntmps12
  go_wp2_with (first
    | (go_at_call 34; refine CT.out.mono ?_; rintro r w1 ⟨b9, m9, c9, F, e, rfl, hA, hb1⟩; have HA := hide hA; have HB1 := hide hb1; obtain ⟨hsz, hzs⟩ := tk_fit b9 m9 c9 F e; have hall := tkC_one b9 m9 c9 F e; have HC := hide (cellsAt_new w1 (tkC (.slice b9 m9 c9) F e) 55); obtain ⟨CS, hCS⟩ : ∃ CS, tkC (.slice b9 m9 c9) F e = CS := ⟨_, rfl⟩; have HCS := hide hCS; rw [hCS] at hsz hzs hall HC ⊢; clear hA hb1 hCS)
    | (go_at_call 35; refine (CN.out _).mono ?_; rintro r9 w9 ⟨rfl, h9⟩; rw [h9]; clear h9 w9)
    | (refine wpList_store_row rfl 55 _ _ rfl w1.heap.size CS rfl rfl 55 _ (heap_alloc_last w1 _) hsz hzs hall ?_; rw [World.setRow_alloc_new])
    | (go_at_call 37; refine (i_mayEnd w1.heap.size 1099511627776 (.slice b9 m9 c9) F e _ (by decide) (tk_null HA.out).2 (by rw [HCS.out]; exact HC.out)).mono ?_; rintro r9 w9 ⟨rfl, h9⟩; rw [h9, (tk_null HA.out).1]; clear h9 w9))
  go_ret
  exact ⟨rfl, HB1.out.alloc HB1.out.size _⟩
end Go.Proofs.YtfohfljdgmlibaaDoor
