/-
  Texts put together: FiI, FiS, FwM, HaS.
-/
import Derived.Test.YtfohfljdgmlibaaDoorQ11
import Derived.Test.YtfohfljdgmlibaaDoorQ7
import Derived.Test.YtfohfljdgmlibaaDoorQ8
/-
  Contracts: where rows of a model begin and end (the program's).
-/
namespace Go.Proofs.YtfohfljdgmlibaaDoor
open Go.RowKit Go.Joins
set_option linter.unusedVariables false
set_option linter.unusedSimpArgs false
theorem sorted_ext {L M : List Int} (h1 : L.Pairwise (· < ·)) (h2 : M.Pairwise (· < ·)) (h : ∀ x, x ∈ L ↔ x ∈ M) : L = M := by
  have hp : L.Perm M := (List.perm_ext_iff_of_nodup (lt_nodup h1) (lt_nodup h2)).2 h
  refine List.Perm.eq_of_pairwise (le := fun a b => a ≤ b) (fun a b _ _ h3 h4 => Int.le_antisymm h3 h4) (h1.imp fun h => Int.le_of_lt h) (h2.imp fun h => Int.le_of_lt h) hp
theorem bts_srt {x : Nat} {S : List Int} (h : BitS x S) (hS : ∀ z ∈ S, 0 ≤ z) : bts x = srtL S := by
  have hx : x < 18446744073709551616 := Nat.lt_of_lt_of_le h.1 (by decide)
  refine sorted_ext (bts_sorted (x + 1) x (by omega) hx) (srt_sorted S) (fun z => ?_)
  rw [srt_mem, bts_mem (x + 1) x (by omega) hx]
  constructor
  · rintro ⟨j, rfl, hj⟩; exact (h.2 j).1 hj
  · intro hz
    have := hS z hz
    exact ⟨z.toNat, by omega, (h.2 z.toNat).2 (by rw [Int.toNat_of_nonneg this]; exact hz)⟩
def foV (D : Pn) : List Int := if pkB D = true then srtL (ed D false (D.n - 1)) else []
def laV (D : Pn) : List Int := if pkB D = true then srtL (ed D true (D.n - 1)) else []
theorem lo_root {D : Pn} (h : pkB D = true) : Lo D (D.n - 1) := fun j hj => (pk_lo h j (by have := (pk_facts h).1; omega)).2
theorem ed_pos {D : Pn} {rev : Bool} (h : pkB D = true) : ∀ z ∈ ed D rev (D.n - 1), 0 ≤ z := fun z hz => (ed_range (D.n - 1 + 1) (D.n - 1) (by omega) (lo_root h) z hz).1
theorem tk_first {D : Pn} {a : Option Addr} {n cap : Nat} {b : Option Addr} {m c : Nat} {F : Nat → Nat} {e : Nat} (h : TkAns D a n cap b m c F e) : bts (F 40) = foV D ∧ F 40 < 18446744073709551616 := by
  unfold foV
  cases hpk : pkB D
  · obtain ⟨rfl, -⟩ := h.2 hpk
    exact ⟨rfl, by decide⟩
  · obtain ⟨-, -, -, -, hb, -⟩ := h.1 hpk
    rw [if_pos rfl]
    exact ⟨bts_srt hb (ed_pos hpk), Nat.lt_of_lt_of_le hb.1 (by decide)⟩
theorem mask_bit : ∀ q, q < 64 → (18446742974197923839 : Nat).testBit q = decide (q ≠ 40) := by decide
theorem last_bits {nul : Bool} {l : Nat} {S : List Int} (h : BitS l S) : thL nul l 1099511627776 &&& 18446742974197923839 = l := by
  apply Nat.eq_of_testBit_eq
  intro q
  rw [Nat.testBit_and]
  have h40 : (1099511627776 : Nat).testBit q = decide (40 = q) := by rw [show (1099511627776 : Nat) = 2 ^ 40 by decide, Nat.testBit_two_pow]
  by_cases hq : q < 64
  · rw [mask_bit q hq]
    by_cases e : q = 40
    · subst e
      have hl : l.testBit 40 = false := Nat.testBit_lt_two_pow (show l < 2 ^ 40 from h.1)
      rw [hl]; simp
    · rw [decide_eq_true e, Bool.and_true]
      cases nul
      · rfl
      · show (l ||| 1099511627776).testBit q = _
        rw [Nat.testBit_or, h40, decide_eq_false (fun h => e h.symm), Bool.or_false]
  · have h1 : (18446742974197923839 : Nat).testBit q = false := Nat.testBit_lt_two_pow (Nat.lt_of_lt_of_le (show (18446742974197923839 : Nat) < 2 ^ 64 by decide) (Nat.pow_le_pow_right (by decide) (by omega)))
    have h2 : l.testBit q = false := Nat.testBit_lt_two_pow (Nat.lt_of_lt_of_le (show l < 2 ^ 40 from h.1) (Nat.pow_le_pow_right (by decide) (by omega)))
    rw [h1, h2, Bool.and_false]
theorem tk_last {D : Pn} {a : Option Addr} {n cap : Nat} {b : Option Addr} {m c : Nat} {F : Nat → Nat} {e : Nat} (h : TkAns D a n cap b m c F e) : bts (e &&& 18446742974197923839) = laV D ∧ e < 18446744073709551616 ∧ e &&& 18446742974197923839 < 18446744073709551616 := by
  unfold laV
  cases hpk : pkB D
  · obtain ⟨-, rfl⟩ := h.2 hpk
    exact ⟨by simp [bts_zero], by decide, by decide⟩
  · obtain ⟨-, -, -, -, -, l, hl, rfl⟩ := h.1 hpk
    rw [if_pos rfl, last_bits hl]
    exact ⟨bts_srt hl (ed_pos hpk), Nat.lt_of_lt_of_le (thL_lt hl) (by decide), Nat.lt_of_lt_of_le hl.1 (by decide)⟩
/-- An answer of numbers in memory of its own. -/
def IntAns (L : List Int) (w : World) (r : Ending) (w' : World) : Prop := ∃ ad c, r = .returned (.slice ad L.length c) ∧ IntR w.heap.size w' ad c L ∧ Below w.heap.size w w'
set_option maxRecDepth 100000 in
set_option maxHeartbeats 4000000 in
theorem i_firstOf (D : Pn) (n : Nat) (a : Option Addr) (cap : Nat) (w : World) (hD : D.n = n) (hz : pnTot D ≤ 1048576) (hr : PnAt w a D w.heap.size) (hT : TzT w) :
    Calls Tryd.prog 13 #[.slice a n cap] w (IntAns (foV D) w) := by
  have hzz := tk_zero
  have hne := tkN_ne
  have CT := hide (i_tracks2 D n a cap w hD hz hr hT)
  have HT := hide hT
  clear hr hD hz hT
  go_enter Tryd.func13, Tryd.ntmps13
  go_wp2_with (first
    | (go_at_call 34; refine CT.out.mono ?_; rintro r w1 ⟨b9, m9, c9, F, e, rfl, hA, hb1⟩; have HA := hide (tk_first hA); have HB1 := hide hb1; obtain ⟨hsz, hzs⟩ := tk_fit b9 m9 c9 F e; have hall := tkC_one b9 m9 c9 F e; have HC := hide (cellsAt_new w1 (tkC (.slice b9 m9 c9) F e) 55); have f40 := (cellsAt_cell HC.out 41).trans (tkC_at (.slice b9 m9 c9) F e 40 (by decide)); obtain ⟨CS, hCS⟩ : ∃ CS, tkC (.slice b9 m9 c9) F e = CS := ⟨_, rfl⟩; have HCS := hide hCS; rw [hCS] at hsz hzs hall HC f40 ⊢; clear hA hb1 hCS)
    | (refine wpList_store_row rfl 55 _ _ rfl w1.heap.size CS rfl rfl 55 _ (heap_alloc_last w1 _) hsz hzs hall ?_; rw [World.setRow_alloc_new])
    | (go_at_call 43; refine (i_list (F 40) _ HA.out.2 (tzT_go HT.out (HB1.out.alloc HB1.out.size _) (Nat.le_refl _))).mono ?_; rintro r w3 ⟨ad3, c3, rfl, ho3, hb3⟩; have HO3 := hide ho3; have HB3 := hide ((HB1.out.alloc HB1.out.size _).trans (hb3.mono (HB1.out.alloc HB1.out.size _).size)); clear ho3 hb3))
  go_ret
  rw [← HA.out.1]
  exact ⟨ad3, c3, rfl, gOwn_lower HO3.out (HB1.out.alloc HB1.out.size _).size, HB3.out⟩
set_option maxRecDepth 100000 in
set_option maxHeartbeats 4000000 in
theorem i_lastOf (D : Pn) (n : Nat) (a : Option Addr) (cap : Nat) (w : World) (hD : D.n = n) (hz : pnTot D ≤ 1048576) (hr : PnAt w a D w.heap.size) (hT : TzT w) :
    Calls Tryd.prog 16 #[.slice a n cap] w (IntAns (laV D) w) := by
  have hzz := tk_zero
  have hne := tkN_ne
  have CT := hide (i_tracks2 D n a cap w hD hz hr hT)
  have CN := hide (fun (W : World) => i_only 40 W (by omega))
  have HT := hide hT
  clear hr hD hz hT
  go_enter Tryd.func16, Tryd.ntmps16
  go_wp2_with (first
    | (go_at_call 34; refine CT.out.mono ?_; rintro r w1 ⟨b9, m9, c9, F, e, rfl, hA, hb1⟩; have HA := hide (tk_last hA); have HB1 := hide hb1; obtain ⟨hsz, hzs⟩ := tk_fit b9 m9 c9 F e; have hall := tkC_one b9 m9 c9 F e; have HC := hide (cellsAt_new w1 (tkC (.slice b9 m9 c9) F e) 55); have f42 := (cellsAt_cell HC.out 42).trans (tkC_get (.slice b9 m9 c9) F e 42 (by decide)); have f43 : tkV (.slice b9 m9 c9) F e 42 = .int .u64 (e : Int) := rfl; rw [f43] at f42; clear f43; have hbn : bits .andNot .u64 (e : Int) 1099511627776 = ((e &&& 18446742974197923839 : Nat) : Int) := u64_andNot_nat e 1099511627776 HA.out.2.1 (by decide); obtain ⟨x9, hx9⟩ : ∃ x9, e &&& 18446742974197923839 = x9 := ⟨_, rfl⟩; rw [hx9] at hbn HA; obtain ⟨CS, hCS⟩ : ∃ CS, tkC (.slice b9 m9 c9) F e = CS := ⟨_, rfl⟩; have HCS := hide hCS; rw [hCS] at hsz hzs hall HC f42 ⊢; clear hA hb1 hCS hx9)
    | (go_at_call 35; refine (CN.out _).mono ?_; rintro r9 w9 ⟨rfl, h9⟩; rw [h9]; clear h9 w9)
    | (refine wpList_store_row rfl 55 _ _ rfl w1.heap.size CS rfl rfl 55 _ (heap_alloc_last w1 _) hsz hzs hall ?_; rw [World.setRow_alloc_new]))
  have hWb : Below w.heap.size w (w1.alloc (.cells CS 55)).drew := (HB1.out.alloc HB1.out.size _).drew
  have HWB := hide hWb
  clear hWb
  go_region_with (first
    | (go_at_call 35; refine (CN.out _).mono ?_; rintro r9 w9 ⟨rfl, h9⟩; rw [h9]; clear h9 w9)
    | (go_at_call 43; refine (i_list x9 _ HA.out.2.2 (tzT_go HT.out HWB.out (Nat.le_refl _))).mono ?_; rintro r w3 ⟨ad3, c3, rfl, ho3, hb3⟩; have HO3 := hide ho3; have HB3 := hide (HWB.out.trans (hb3.mono HWB.out.size)); clear ho3 hb3))
  all_goals
    go_wp2
    go_ret
    rw [← HA.out.1]
    exact ⟨ad3, c3, rfl, gOwn_lower HO3.out HWB.out.size, HB3.out⟩
end Go.Proofs.YtfohfljdgmlibaaDoor

/-
  Contracts: where rows of a model begin and end, by the specification.
-/
namespace Go.Proofs.YtfohfljdgmlibaaDoor
open Go.RowKit Go.Joins
set_option linter.unusedVariables false
set_option linter.unusedSimpArgs false
theorem intR_zero (w : World) : IntR w.heap.size (w.alloc (.cells #[] 2)) (some ⟨w.heap.size, 0, none⟩) 0 [] := World.ownsRow_made (base := w.heap.size) (e := 2) (size := 1) w #[] 0 (Nat.le_refl _) (Nat.zero_le _) rfl
theorem ed_small {D : Pn} {n : Nat} {rev : Bool} (hRN : RN D n) {i : Nat} (hi : i < n) : (ed D rev i).length ≤ 40 := by
  obtain ⟨cc, hcc⟩ := hRN.2.2.2.2.1 i hi
  have := (ed_len (rev := rev) (by rw [hRN.1]; exact hRN.2.2.2.1) (i + 1) i cc (by omega) (by rw [hRN.1]; exact hi) hcc).1
  have := hRN.2.1
  omega
set_option maxRecDepth 100000 in
set_option maxHeartbeats 4000000 in
theorem s_firstOf (D : Pn) (n : Nat) (a : Option Addr) (cap : Nat) (w : World) (hD : D.n = n) (hz : pnTot D ≤ 1048576) (hr : PnAt w a D w.heap.size) :
    Calls Tryd.prog 46 #[.slice a n cap] w (IntAns (foV D) w) := by
  have HP := hide (s_particle D n a cap w hD hz hr)
  cases hpk : pkB D
  · rw [hpk] at HP
    have HE : Hid (foV D = []) := hide (by unfold foV; rw [hpk]; rfl)
    clear hD hz hr hpk
    go_enter Tryd.func46, Tryd.ntmps46
    go_wp2_with (first | (go_at_call 11; refine HP.out.mono ?_; rintro r w1 ⟨rfl, hb1⟩; have HB1 := hide hb1; clear hb1))
    go_ret
    rw [HE.out]
    exact ⟨_, 0, rfl, gOwn_lower (intR_zero w1) HB1.out.size, HB1.out.alloc HB1.out.size _⟩
  · have hRN := rn_of hD hpk hz
    have hn1 : 1 ≤ n ∧ n ≤ 40 := by rw [← hD]; exact (pk_facts hpk).1
    obtain ⟨b0, off, rfl, hb0, hrow⟩ := hr (by rw [hD]; omega)
    have CE := hide (fun (W : World) (hW : Below w.heap.size w W) => s_edge D n b0 off cap false hRN n (n - 1) (by omega) (by omega) W (Nat.lt_of_lt_of_le hb0 hW.size) (pnRow_up (pnRow_go hrow hb0 hW) hW.size))
    have hel := ed_small (rev := false) hRN (i := n - 1) (by omega)
    rw [hpk] at HP
    have hnn : (n : Int) - 1 = ((n - 1 : Nat) : Int) := by omega
    have hwp : IntKind.i64.wrap ((n - 1 : Nat) : Int) = ((n - 1 : Nat) : Int) := by rw [IntKind.wrap_i64]; omega
    have HE : Hid (foV D = srtL (ed D false (n - 1))) := hide (by unfold foV; rw [hpk, hD]; rfl)
    obtain ⟨P, hPp⟩ : ∃ P, ed D false (n - 1) = P := ⟨_, rfl⟩
    rw [hPp] at CE hel HE
    clear hD hz hr hpk hrow hRN hPp
    go_enter Tryd.func46, Tryd.ntmps46
    go_wp2_with (first
      | (go_at_call 11; refine HP.out.mono ?_; rintro r w1 ⟨rfl, hb1⟩; have HB1 := hide hb1; clear hb1)
      | (go_at_call 79; refine (CE.out _ HB1.out).mono ?_; rintro r w2 ⟨ad2, c2, rfl, ho2, hb2⟩; have HO2 := hide ho2; have HB2 := hide (HB1.out.trans (hb2.mono HB1.out.size)); clear ho2 hb2)
      | (go_at_call 78; refine (s_sorted ad2 P.length c2 P w2 rfl (by omega) (own_rowAt9 HO2.out)).mono ?_; rintro r w3 ⟨ad3, c3, rfl, ho3, hb3⟩; have HO3 := hide ho3; have HB3 := hide (HB2.out.trans (hb3.mono HB2.out.size)); clear ho3 hb3))
    go_ret
    rw [HE.out]
    exact ⟨ad3, c3, rfl, gOwn_lower HO3.out HB2.out.size, HB3.out⟩
set_option maxRecDepth 100000 in
set_option maxHeartbeats 4000000 in
theorem s_lastOf (D : Pn) (n : Nat) (a : Option Addr) (cap : Nat) (w : World) (hD : D.n = n) (hz : pnTot D ≤ 1048576) (hr : PnAt w a D w.heap.size) :
    Calls Tryd.prog 50 #[.slice a n cap] w (IntAns (laV D) w) := by
  have HP := hide (s_particle D n a cap w hD hz hr)
  cases hpk : pkB D
  · rw [hpk] at HP
    have HE : Hid (laV D = []) := hide (by unfold laV; rw [hpk]; rfl)
    clear hD hz hr hpk
    go_enter Tryd.func50, Tryd.ntmps50
    go_wp2_with (first | (go_at_call 11; refine HP.out.mono ?_; rintro r w1 ⟨rfl, hb1⟩; have HB1 := hide hb1; clear hb1))
    go_ret
    rw [HE.out]
    exact ⟨_, 0, rfl, gOwn_lower (intR_zero w1) HB1.out.size, HB1.out.alloc HB1.out.size _⟩
  · have hRN := rn_of hD hpk hz
    have hn1 : 1 ≤ n ∧ n ≤ 40 := by rw [← hD]; exact (pk_facts hpk).1
    obtain ⟨b0, off, rfl, hb0, hrow⟩ := hr (by rw [hD]; omega)
    have CE := hide (fun (W : World) (hW : Below w.heap.size w W) => s_edge D n b0 off cap true hRN n (n - 1) (by omega) (by omega) W (Nat.lt_of_lt_of_le hb0 hW.size) (pnRow_up (pnRow_go hrow hb0 hW) hW.size))
    have hel := ed_small (rev := true) hRN (i := n - 1) (by omega)
    rw [hpk] at HP
    have hnn : (n : Int) - 1 = ((n - 1 : Nat) : Int) := by omega
    have hwp : IntKind.i64.wrap ((n - 1 : Nat) : Int) = ((n - 1 : Nat) : Int) := by rw [IntKind.wrap_i64]; omega
    have HE : Hid (laV D = srtL (ed D true (n - 1))) := hide (by unfold laV; rw [hpk, hD]; rfl)
    obtain ⟨P, hPp⟩ : ∃ P, ed D true (n - 1) = P := ⟨_, rfl⟩
    rw [hPp] at CE hel HE
    clear hD hz hr hpk hrow hRN hPp
    go_enter Tryd.func50, Tryd.ntmps50
    go_wp2_with (first
      | (go_at_call 11; refine HP.out.mono ?_; rintro r w1 ⟨rfl, hb1⟩; have HB1 := hide hb1; clear hb1)
      | (go_at_call 79; refine (CE.out _ HB1.out).mono ?_; rintro r w2 ⟨ad2, c2, rfl, ho2, hb2⟩; have HO2 := hide ho2; have HB2 := hide (HB1.out.trans (hb2.mono HB1.out.size)); clear ho2 hb2)
      | (go_at_call 78; refine (s_sorted ad2 P.length c2 P w2 rfl (by omega) (own_rowAt9 HO2.out)).mono ?_; rintro r w3 ⟨ad3, c3, rfl, ho3, hb3⟩; have HO3 := hide ho3; have HB3 := hide (HB2.out.trans (hb3.mono HB2.out.size)); clear ho3 hb3))
    go_ret
    rw [HE.out]
    exact ⟨ad3, c3, rfl, gOwn_lower HO3.out HB2.out.size, HB3.out⟩
theorem pos_len {L : List Int} {n : Nat} (hn : n ≤ 40) (h : ∀ z ∈ L, 0 ≤ z ∧ z < (n : Int)) : (srtL L).length ≤ 40 := by
  have := sorted_len (srt_sorted L) (fun z hz => h z ((srt_mem L z).1 hz))
  omega
theorem foV_len {D : Pn} : (foV D).length ≤ 40 := by
  unfold foV
  split
  · rename_i hpk
    have h1 := (pk_facts hpk).1
    refine pos_len (n := D.n) h1.2 (fun z hz => ?_)
    have := ed_range (D.n - 1 + 1) (D.n - 1) (by omega) (lo_root hpk) z hz
    omega
  · simp
theorem laV_len {D : Pn} : (laV D).length ≤ 40 := by
  unfold laV
  split
  · rename_i hpk
    have h1 := (pk_facts hpk).1
    refine pos_len (n := D.n) h1.2 (fun z hz => ?_)
    have := ed_range (D.n - 1 + 1) (D.n - 1) (by omega) (lo_root hpk) z hz
    omega
  · simp
end Go.Proofs.YtfohfljdgmlibaaDoor

/-
  Plain facts on what may follow a position, as the specification gathers it, of no program's run.
-/
namespace Go.Proofs.YtfohfljdgmlibaaDoor
set_option linter.unusedVariables false
set_option linter.unusedSimpArgs false
/-- What a node lets follow when it stands again. -/
def sgL (D : Pn) (z : Int) (i : Nat) : List Int := if 2 ≤ D.OC i ∧ z ∈ ed D true i then ed D false i else []
/-- What begins behind the a-th kid. -/
def kdL (D : Pn) (z : Int) (L : List Int) (a : Nat) : List Int := if z ∈ ed D true (L[a]?.getD 0).toNat then seqE (fun k => ed D false k.toNat) (fun k => nl D k.toNat) (L.drop (a + 1)) else []
def skL (D : Pn) (z : Int) (L : List Int) : Nat → List Int
  | 0 => []
  | a + 1 => skL D z L a ++ kdL D z L a
def ndL (D : Pn) (z : Int) (i : Nat) : List Int := sgL D z i ++ (if D.K i = 2 then skL D z (D.KL i) (D.KL i).length else [])
def foL (D : Pn) (z : Int) : Nat → List Int
  | 0 => []
  | i + 1 => foL D z i ++ ndL D z i
theorem mem_skL {D : Pn} {z q : Int} {L : List Int} : ∀ m, q ∈ skL D z L m ↔ ∃ a, a < m ∧ q ∈ kdL D z L a
  | 0 => by constructor
            · intro h; exact absurd h (List.not_mem_nil)
            · rintro ⟨a, ha, -⟩; omega
  | m + 1 => by
    rw [skL, List.mem_append, mem_skL m]
    constructor
    · rintro (⟨a, ha, h⟩ | h)
      · exact ⟨a, by omega, h⟩
      · exact ⟨m, by omega, h⟩
    · rintro ⟨a, ha, h⟩
      by_cases e : a = m
      · subst e; exact .inr h
      · exact .inl ⟨a, by omega, h⟩
theorem mem_foL {D : Pn} {z q : Int} : ∀ m, q ∈ foL D z m ↔ ∃ i, i < m ∧ q ∈ ndL D z i
  | 0 => by constructor
            · intro h; exact absurd h (List.not_mem_nil)
            · rintro ⟨a, ha, -⟩; omega
  | m + 1 => by
    rw [foL, List.mem_append, mem_foL m]
    constructor
    · rintro (⟨a, ha, h⟩ | h)
      · exact ⟨a, by omega, h⟩
      · exact ⟨m, by omega, h⟩
    · rintro ⟨a, ha, h⟩
      by_cases e : a = m
      · subst e; exact .inr h
      · exact .inl ⟨a, by omega, h⟩
theorem mem_ndL {D : Pn} {z q : Int} {i : Nat} : q ∈ ndL D z i ↔ OwP D i z q := by
  unfold ndL OwP
  rw [List.mem_append]
  refine or_congr ?_ ?_
  · unfold sgL
    split
    · rename_i h; exact ⟨fun hq => ⟨h.1, h.2, hq⟩, fun hq => hq.2.2⟩
    · rename_i h; exact ⟨fun hq => absurd hq (List.not_mem_nil), fun hq => absurd ⟨hq.1, hq.2.1⟩ h⟩
  · by_cases hk : D.K i = 2
    · rw [if_pos hk, mem_skL, ow_spec (L := D.KL i) (nul := fun k => nl D k.toNat) (g := fun k => ed D true k.toNat) (h := fun k => ed D false k.toNat) (p := z) (q := q)]
      constructor
      · rintro ⟨a, ha, h⟩
        unfold kdL at h
        split at h
        · rename_i hz
          refine ⟨hk, (D.KL i).take a, (D.KL i)[a], (D.KL i).drop (a + 1), ?_, ?_, h⟩
          · rw [← List.drop_eq_getElem_cons ha, List.take_append_drop]
          · rw [List.getElem?_eq_getElem ha] at hz; exact hz
        · exact absurd h (List.not_mem_nil)
      · rintro ⟨-, L1, a, R, e, h1, h2⟩
        refine ⟨L1.length, by rw [e]; simp, ?_⟩
        unfold kdL
        rw [e, List.getElem?_append_right (Nat.le_refl _), Nat.sub_self, List.getElem?_cons_zero]
        have e2 : (L1 ++ a :: R).drop (L1.length + 1) = R := by
          rw [List.drop_append]
          simp
        rw [e2]
        show q ∈ (if z ∈ ed D true a.toNat then _ else _)
        rw [if_pos h1]
        exact h2
    · rw [if_neg hk]
      exact ⟨fun h => absurd h (List.not_mem_nil), fun h => absurd h.1 hk⟩
theorem mem_root {D : Pn} (h : pkB D = true) {p q : Int} : q ∈ foL D p D.n ↔ lk D (D.n - 1) p q := by
  have h1 := (pk_facts h).1
  rw [mem_foL]
  constructor
  · rintro ⟨i, hi, hq⟩
    exact tr_lk (D.n) (D.n - 1) 0 (by omega) (lo_root h) (pk_facts h).2.2.1 i (Nat.zero_le _) (by omega) (mem_ndL.1 hq)
  · intro hq
    obtain ⟨j, hj, h2⟩ := lk_node (D.n) (D.n - 1) (by omega) (lo_root h) hq
    exact ⟨j, by omega, mem_ndL.2 h2⟩
theorem fd_klen {g : Nat → Option Nat} : ∀ (ks : List Int) (a f : Nat), (∀ j c, j < a → g j = some c → c ≤ j) → fd g ks a = some f → ks.length ≤ a
  | [], a, f, _, _ => by simp
  | k :: ks, a, f, h2, h => by
    by_cases hc : 0 < a ∧ k = (a : Int) - 1
    · cases hg : g (a - 1) with
      | none => rw [fd_none hc hg] at h; cases h
      | some c =>
        have hb := h2 _ c (by omega) hg
        rw [fd_yes hc hg] at h
        have := fd_klen ks c f (fun j d hj => h2 j d (by omega)) h
        rw [List.length_cons]
        omega
    · rw [fd_no hc] at h; cases h
theorem rn_klen {D : Pn} {n : Nat} (h : RN D n) {i : Nat} (hi : i < n) : (D.KL i).length ≤ 40 := by
  obtain ⟨c, hc⟩ := h.2.2.2.2.1 i hi
  rw [tr_eq] at hc
  have := fd_klen _ i c (fun j d _ hd => tr_le hd) hc
  rw [List.length_reverse] at this
  have := h.2.1
  omega
theorem flat_drop (g : Int → List Int) (M : List Int) (k : Nat) : ((M.drop k).map g).flatten.length ≤ (M.map g).flatten.length := by
  have h : ((M.take k).map g).flatten ++ ((M.drop k).map g).flatten = (M.map g).flatten := by rw [← List.flatten_append, ← List.map_append, List.take_append_drop]
  have := congrArg List.length h
  rw [List.length_append] at this
  omega
theorem rn_flat {D : Pn} {n : Nat} {rev : Bool} (hRN : RN D n) {i : Nat} (hi : i < n) : ((D.KL i).map fun k => ed D rev k.toNat).flatten.length ≤ 40 := by
  obtain ⟨cc, hcc⟩ := hRN.2.2.2.2.1 i hi
  have := (ed_len (rev := rev) (by rw [hRN.1]; exact hRN.2.2.2.1) (i + 1) i cc (by omega) (by rw [hRN.1]; exact hi) hcc).2
  have := hRN.2.1
  omega
theorem rn_seq {D : Pn} {n : Nat} (hRN : RN D n) {i : Nat} (hi : i < n) (a m : Nat) : (seqE (fun k => ed D false k.toNat) (fun k => nl D k.toNat) (((D.KL i).drop a).take m)).length ≤ 40 :=
  Nat.le_trans (seqE_len _) (Nat.le_trans (flat_take _ _ _) (Nat.le_trans (flat_drop _ _ _) (rn_flat hRN hi)))
theorem kdL_len {D : Pn} {n : Nat} (hRN : RN D n) {i : Nat} (hi : i < n) (z : Int) (a : Nat) : (kdL D z (D.KL i) a).length ≤ 40 := by
  unfold kdL
  split
  · have := rn_seq hRN hi (a + 1) (D.KL i).length
    rwa [List.take_of_length_le (by rw [List.length_drop]; omega)] at this
  · simp
theorem skL_len {D : Pn} {n : Nat} (hRN : RN D n) {i : Nat} (hi : i < n) (z : Int) : ∀ m, (skL D z (D.KL i) m).length ≤ 40 * m
  | 0 => by simp [skL]
  | m + 1 => by
    rw [skL, List.length_append]
    have h1 := skL_len hRN hi z m
    have h2 := kdL_len hRN hi z m
    omega
theorem ed_small9 {D : Pn} {n : Nat} {rev : Bool} (hRN : RN D n) {i : Nat} (hi : i < n) : (ed D rev i).length ≤ 40 := by
  obtain ⟨cc, hcc⟩ := hRN.2.2.2.2.1 i hi
  have := (ed_len (rev := rev) (by rw [hRN.1]; exact hRN.2.2.2.1) (i + 1) i cc (by omega) (by rw [hRN.1]; exact hi) hcc).1
  have := hRN.2.1
  omega
theorem sgL_len {D : Pn} {n : Nat} (hRN : RN D n) {i : Nat} (hi : i < n) (z : Int) : (sgL D z i).length ≤ 40 := by
  unfold sgL
  split
  · exact ed_small9 hRN hi
  · simp
theorem foL_len {D : Pn} {n : Nat} (hRN : RN D n) (z : Int) : ∀ m, m ≤ n → (foL D z m).length ≤ 1640 * m
  | 0, _ => by simp [foL]
  | m + 1, hm => by
    rw [foL, List.length_append]
    have h1 := foL_len hRN z m (by omega)
    have h2 := sgL_len hRN (i := m) (by omega) z
    have h3 := skL_len hRN (i := m) (by omega) z (D.KL m).length
    have h4 := rn_klen hRN (i := m) (by omega)
    have h5 : (ndL D z m).length ≤ 1640 := by
      unfold ndL
      rw [List.length_append]
      split
      · omega
      · simp; omega
    omega
/-- Only leaves are positions. -/
theorem ed_leaves {D : Pn} {rev : Bool} (hk : ∀ j, j < D.n → D.K j = 1 ∨ D.K j = 2 ∨ D.K j = 3 ∨ D.K j = 4) : ∀ (m i : Nat), i < m → i < D.n → Lo D i → ∀ x ∈ ed D rev i, D.K x.toNat = 1 ∨ D.K x.toNat = 4
  | 0, i, hm, _, _ => by omega
  | m + 1, i, hm, hi, hl => by
    intro x hx
    rw [ed_eq hl] at hx
    unfold bdE at hx
    split at hx
    · obtain ⟨L1, k, L2, e, -, hx⟩ := mem_seqE.1 hx
      have hk2 := hl i (Nat.le_refl _) k (mem_ordL.1 (by rw [e]; simp))
      exact ed_leaves hk m k.toNat (by omega) (by omega) (lo_less hl (by omega)) x hx
    · rename_i hn
      simp at hx
      subst hx
      have := hk i hi
      simp only [Int.toNat_natCast]
      omega
theorem lk_leaf {D : Pn} {n : Nat} (hRN : RN D n) {p q : Int} (hn : 1 ≤ n) (h : lk D (n - 1) p q) : 0 ≤ p ∧ p < (n : Int) ∧ (D.K p.toNat = 1 ∨ D.K p.toNat = 4) := by
  have hlo : Lo D (n - 1) := fun j hj => hRN.2.2.2.1 j (by omega)
  have hkk : ∀ j, j < D.n → D.K j = 1 ∨ D.K j = 2 ∨ D.K j = 3 ∨ D.K j = 4 := fun j hj => rn_kinds hRN (by rw [← hRN.1]; exact hj)
  obtain ⟨j, hj, h8⟩ := lk_node n (n - 1) (by omega) hlo h
  rcases h8 with ⟨-, h8, -⟩ | ⟨-, L1, a, L2, b, L3, e9, -, h8, -⟩
  · have h1 := ed_range (j + 1) j (by omega) (lo_less hlo hj) _ h8
    exact ⟨h1.1, by omega, ed_leaves hkk (j + 1) j (by omega) (by rw [hRN.1]; omega) (lo_less hlo hj) _ h8⟩
  · have hk := hlo j hj a (by rw [e9]; simp)
    have h1 := ed_range (a.toNat + 1) a.toNat (by omega) (lo_less hlo (by omega)) _ h8
    exact ⟨h1.1, by omega, ed_leaves hkk (a.toNat + 1) a.toNat (by omega) (by rw [hRN.1]; omega) (lo_less hlo (by omega)) _ h8⟩
def posB (D : Pn) (x : Int) : Bool := decide (0 ≤ x ∧ x ≤ (D.n : Int) - 1) && decide (D.K x.toNat = 1 ∨ D.K x.toNat = 4)
/-- What may follow a position of a model. -/
def flV (D : Pn) (x : Int) : List Int := if pkB D = true ∧ posB D x = true then srtL (foL D x D.n) else []
theorem foL_range {D : Pn} (h : pkB D = true) {x : Int} : ∀ z ∈ foL D x D.n, 0 ≤ z ∧ z < (D.n : Int) := by
  intro z hz
  have h1 := (pk_facts h).1
  have hlo := lo_root h
  obtain ⟨j, hj, h8⟩ := lk_node D.n (D.n - 1) (by omega) hlo ((mem_root h).1 hz)
  rcases h8 with ⟨-, -, h8⟩ | ⟨-, L1, a, L2, b, L3, e9, -, -, h8⟩
  · have h1 := ed_range (j + 1) j (by omega) (lo_less hlo hj) _ h8
    omega
  · have hk := hlo j hj b (by rw [e9]; simp)
    have h1 := ed_range (b.toNat + 1) b.toNat (by omega) (lo_less hlo (by omega)) _ h8
    omega
theorem flV_len {D : Pn} {x : Int} : (flV D x).length ≤ 40 := by
  unfold flV
  split
  · rename_i h
    have := sorted_len (n := D.n) (srt_sorted (foL D x D.n)) (fun z hz => foL_range h.1 z ((srt_mem _ z).1 hz))
    have := (pk_facts h.1).1
    omega
  · simp
/-- The program's ways tell the same. -/
theorem tk_follow {D : Pn} {F : Nat → Nat} {e : Nat} (hpk : pkB D = true) (hT : TkOf D F e) {x : Nat} (hx : x < D.n) : bts (F x) = flV D x ∧ F x < 18446744073709551616 := by
  have hn := (pk_facts hpk).1
  obtain ⟨h1, h2⟩ := hT.1 x (by omega)
  have hb : BitS (F x) (foL D x D.n) := ⟨h1, fun q => by rw [h2 q, mem_root hpk]⟩
  refine ⟨?_, Nat.lt_of_lt_of_le h1 (by decide)⟩
  rw [bts_srt hb (fun z hz => (foL_range hpk z hz).1)]
  unfold flV
  by_cases hp : posB D x = true
  · rw [if_pos ⟨hpk, hp⟩]
  · rw [if_neg (fun h => hp h.2)]
    have : foL D x D.n = [] := by
      rw [List.eq_nil_iff_forall_not_mem]
      intro q hq
      have hRN : RN D D.n := ⟨rfl, hn.2, (pk_facts hpk).2.1, fun j hj => (pk_lo hpk j hj).2, fun j hj => (pk_lo hpk j hj).1, fun j hj => by
        obtain ⟨c, hc⟩ := (pk_lo hpk j hj).1
        rw [tr_eq] at hc
        have := fd_klen _ j c (fun j d _ hd => tr_le hd) hc
        rw [List.length_reverse] at this
        omega⟩
      have := lk_leaf hRN hn.1 ((mem_root hpk).1 hq)
      apply hp
      unfold posB
      rw [decide_eq_true (by omega), decide_eq_true this.2.2]
      rfl
    rw [this]
    rfl
end Go.Proofs.YtfohfljdgmlibaaDoor

/-
  Contract: whether a number is in a row, by the specification.
-/
namespace Go.Proofs.YtfohfljdgmlibaaDoor
open Go.RowKit Go.Joins
set_option linter.unusedVariables false
set_option linter.unusedSimpArgs false
set_option maxHeartbeats 2000000 in
theorem s_has (ad : Option Addr) (n c : Nat) (L : List Int) (z : Int) (w : World) (hn : L.length = n) (hx : n ≤ 1048576) (hr : RowAt .i64 w ad L w.heap.size) :
    Calls Tryd.prog 49 #[.slice ad n c, .int .i64 z] w fun r w' => r = .returned (.bool (decide (z ∈ L))) ∧ w' = w := by
  have HN := hide hn
  have HR := hide hr
  clear hr hn
  go_enter Tryd.func49, Tryd.ntmps49
  go_wp2
  go_loopw [5] (fun mv wr => ∃ (m : Nat), m ≤ n ∧ mv = .int .i64 m ∧ Hid (wr = w) ∧ Hid (∀ j, j < m → L[j]?.getD 0 ≠ z)) (fun mv _ => n - (intOf mv).toNat)
  case atStart => exact ⟨0, Nat.zero_le _, rfl, hide rfl, hide (fun j hj => by omega)⟩
  case round =>
    obtain ⟨m, hm, rfl, HW, HA⟩ := hrel
    by_cases hlt : m < n
    · obtain ⟨b, off, rfl, hb, hc⟩ := rowAt_cell HR.out m (by rw [HN.out]; exact hlt)
      have k0 : wr.cell? ⟨b, off + m, none⟩ = some (.int .i64 (L[m]?.getD 0)) := by rw [HW.out]; exact hc m (by rw [HN.out]; exact hlt)
      have hmL : m < L.length := by rw [HN.out]; exact hlt
      have HMM : Hid (L[m]?.getD 0 ∈ L) := hide (by rw [List.getElem?_eq_getElem hmL]; exact List.getElem_mem hmL)
      obtain ⟨v, hv⟩ : ∃ v, L[m]?.getD 0 = v := ⟨_, rfl⟩
      have HV := hide hv
      rw [hv] at k0 HMM
      have hmi : (m : Int) < (n : Int) := by omega
      have hm0 : (0 : Int) ≤ (m : Int) := by omega
      clear hc hv hmL
      by_cases he : v = z
      · have HD : Hid (decide (z ∈ L) = true) := hide (decide_eq_true (he ▸ HMM.out))
        subst he
        go_wp2
        go_ret
        exact ⟨ret_bool HD.out.symm, HW.out⟩
      · have heq : (v == z) = false := by rw [beq_eq_false_iff_ne]; exact he
        have HA2 : Hid (∀ j, j < m + 1 → L[j]?.getD 0 ≠ z) := hide (fun j hj => by
          by_cases e : j = m
          · subst e; rw [HV.out]; exact he
          · exact HA.out j (by omega))
        clear he
        go_wp2
        go_roundw
        case rel => exact ⟨m + 1, by omega, by go_num, HW, HA2⟩
        case measure => simp [intOf]; omega
    · have HD : Hid (decide (z ∈ L) = false) := hide (decide_eq_false (fun h => by
        obtain ⟨j, hj, e⟩ := List.mem_iff_getElem.1 h
        exact HA.out j (by rw [HN.out] at hj; omega) (by rw [List.getElem?_eq_getElem hj]; exact e)))
      go_wp2
      go_ret
      exact ⟨ret_bool HD.out.symm, HW.out⟩
end Go.Proofs.YtfohfljdgmlibaaDoor
