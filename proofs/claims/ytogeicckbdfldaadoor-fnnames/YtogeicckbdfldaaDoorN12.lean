/-
  Texts put together: TxI, ItEq, BnW, Draw.
-/
import Derived.Test.YtogeicckbdfldaaDoorN10
import Derived.Test.YtogeicckbdfldaaDoorN1
import Derived.Test.YtogeicckbdfldaaDoorN2
import Derived.Test.YtogeicckbdfldaaDoorN4
import Derived.Test.YtogeicckbdfldaaDoorN11
import Derived.Test.YtogeicckbdfldaaDoorChecked
import Derived.WalkKit
import Derived.WalkLawsBesides
import Derived.Below
import Derived.OwnWalk
import Derived.Laws.OwnMore
import Derived.RegionTactic
import Derived.Deep.QuietTactic
import Derived.BigQuiet
import Derived.Deep.Draws
import Derived.KernelRfl
/-
  Contracts: the text of an element, by the program.
-/
namespace Go.Proofs.YtogeicckbdfldaaDoor
open Go.RowKit Go.Joins
set_option linter.unusedVariables false
set_option linter.unusedSimpArgs false
def hasB' (D : Dc) (x : Int) : Bool := docokB D && decide (0 ≤ x ∧ x ≤ (D.n : Int) - 1)
set_option maxHeartbeats 2000000 in
theorem i_hasItem (D : Dc) (n : Nat) (a : Option Addr) (cap : Nat) (x : Int) (w : World) (hD : D.n = n) (hz : dcTot D ≤ 1048576) (hr : DcAt w a D w.heap.size) (hT : Tabs w) :
    Calls Tryd.prog 26 #[.slice a n cap, .int .i64 x] w fun e w' => e = .returned (.bool (hasB' D x)) ∧ Below w.heap.size w w' := by
  have HD := hide hD
  have hn : n ≤ 1048576 := by rw [← hD]; exact (dc_sz hz).1
  have CD := hide (i_docok D n a cap w hD hz hr hT)
  clear hr hD hz hT
  cases hd : docokB D
  · have HW : Hid (hasB' D x = false) := hide (by unfold hasB'; rw [hd]; rfl)
    rw [hd] at CD
    go_enter Tryd.func26, Tryd.ntmps26
    go_wp2_with (first | (go_at_call 13; refine CD.out.mono ?_; rintro e w1 ⟨rfl, hb1⟩; have HB := hide hb1; clear hb1))
    go_ret
    exact ⟨ret_bool HW.out.symm, HB.out⟩
  · rw [hd] at CD
    by_cases h0 : 0 ≤ x
    · by_cases h1 : x < (n : Int)
      · have HW : Hid (hasB' D x = true) := hide (by unfold hasB'; rw [hd, HD.out, decide_eq_true ⟨h0, by omega⟩]; rfl)
        go_enter Tryd.func26, Tryd.ntmps26
        go_wp2_with (first | (go_at_call 13; refine CD.out.mono ?_; rintro e w1 ⟨rfl, hb1⟩; have HB := hide hb1; clear hb1))
        go_ret
        exact ⟨ret_bool (by rw [HW.out]; try simp_all), HB.out⟩
      · have HW : Hid (hasB' D x = false) := hide (by unfold hasB'; rw [hd, HD.out, decide_eq_false (by omega)]; rfl)
        go_enter Tryd.func26, Tryd.ntmps26
        go_wp2_with (first | (go_at_call 13; refine CD.out.mono ?_; rintro e w1 ⟨rfl, hb1⟩; have HB := hide hb1; clear hb1))
        go_ret
        exact ⟨ret_bool (by rw [HW.out]; try simp_all), HB.out⟩
    · have HW : Hid (hasB' D x = false) := hide (by unfold hasB'; rw [hd, HD.out, decide_eq_false (by omega)]; rfl)
      go_enter Tryd.func26, Tryd.ntmps26
      go_wp2_with (first | (go_at_call 13; refine CD.out.mono ?_; rintro e w1 ⟨rfl, hb1⟩; have HB := hide hb1; clear hb1))
      go_ret
      exact ⟨ret_bool (by rw [HW.out]; try simp_all), HB.out⟩
theorem txI_no {D : Dc} {x : Int} (h : txOk D x = false) : txV D x = ⟨#[]⟩ := by unfold txV; rw [h]; rfl
theorem txI_yes {D : Dc} {x : Int} (h : txOk D x = true) : txV D x = txF D x D.n := by unfold txV; rw [h]; rfl
theorem txI_ret {a a' : ByteArray} {b b' : Bool} (h1 : a = a') (h2 : b = b') : Ending.returned (.tuple #[.string a, .bool b]) = .returned (.tuple #[.string a', .bool b']) := by rw [h1, h2]
end Go.Proofs.YtogeicckbdfldaaDoor

/-
  Contracts: two rows of items that are alike are told so.
-/
namespace Go.Proofs.YtogeicckbdfldaaDoor
open Go.RowKit Go.Joins
set_option linter.unusedVariables false
set_option linter.unusedSimpArgs false
theorem two_items {w w2 : World} {up : Int} {nm tx : ByteArray} {a a' : Option Addr} {n c c' : Nat} {T U : TypeId}
    (k : Below ((w.alloc (.cells #[.int .i64 up, .string nm, .string tx, .slice a n c] T)).alloc (.cells #[.int .i64 up, .string nm, .string tx, .slice a' n c'] U)).heap.size ((w.alloc (.cells #[.int .i64 up, .string nm, .string tx, .slice a n c] T)).alloc (.cells #[.int .i64 up, .string nm, .string tx, .slice a' n c'] U)) w2) :
    ItAt w2 w.heap.size up nm tx a n c ∧ ItAt w2 (w.heap.size + 1) up nm tx a' n c' ∧ Below w.heap.size w w2 := by
  have h1 := itAt_new w up nm tx a n c T
  have h2 := itAt_new (w.alloc (.cells #[.int .i64 up, .string nm, .string tx, .slice a n c] T)) up nm tx a' n c' U
  have st : ∀ (x : World) (o : Obj), Below x.heap.size x (x.alloc o) := fun x o => (Below.refl _ _).alloc (Nat.le_refl _) _
  refine ⟨itAt_go (itAt_go h1 (st _ _)) k, ?_, ?_⟩
  · have := itAt_go h2 k
    simpa using this
  · exact (((Below.refl w.heap.size w).alloc (Nat.le_refl _) _).alloc (by simp) _).trans (k.mono (by simp; omega))
def EQI (w w' : World) (b o b' o' : Nat) (D : Dc) (k : Nat) (ad : Option Addr) (cp : Nat) (ad' : Option Addr) (cp' : Nat) : Prop := Below w.heap.size w w' ∧ (b < w.heap.size ∧ b' < w.heap.size) ∧
  DcCells w' b o D k ad cp ∧ DcCells w' b' o' D k ad' cp' ∧ AtAt w' ad (D.AC k) (D.AN k) (D.AV k) w.heap.size ∧ AtAt w' ad' (D.AC k) (D.AN k) (D.AV k) w.heap.size
section
variable {w w1 w2 : World} {b o b' o' : Nat} {D : Dc} {k : Nat} {ad : Option Addr} {cp : Nat} {ad' : Option Addr} {cp' : Nat}
theorem eqi_go (x : EQI w w1 b o b' o' D k ad cp ad' cp') (h : Below w1.heap.size w1 w2) : EQI w w2 b o b' o' D k ad cp ad' cp' := by
  obtain ⟨hb, ⟨h1, h2⟩, c1, c2, r1, r2⟩ := x
  have hh := h.mono hb.size
  exact ⟨hb.trans hh, ⟨h1, h2⟩, dcCells_go c1 h1 hh, dcCells_go c2 h2 hh, atAt_go r1 hh, atAt_go r2 hh⟩
theorem eqi_drew (x : EQI w w1 b o b' o' D k ad cp ad' cp') : EQI w w1.drew b o b' o' D k ad cp ad' cp' := eqi_go x ⟨rfl, rfl, rfl, Nat.le_refl _, fun _ _ => rfl⟩
theorem eqi_all (x : EQI w w1 b o b' o' D k ad cp ad' cp') : EQI w w1 b o b' o' D k ad cp ad' cp' ∧ (w1.cell? ⟨b, o, none⟩ = some (.int .i64 (D.U k)) ∧ w1.cell? ⟨b, o + 1, none⟩ = some (.string (D.NM k)) ∧ w1.cell? ⟨b, o + 2, none⟩ = some (.string (D.TX k)) ∧ w1.cell? ⟨b, o + 3, none⟩ = some (.slice ad (D.AC k) cp)) ∧ w1.cell? ⟨b', o', none⟩ = some (.int .i64 (D.U k)) ∧ w1.cell? ⟨b', o' + 1, none⟩ = some (.string (D.NM k)) ∧ w1.cell? ⟨b', o' + 2, none⟩ = some (.string (D.TX k)) ∧ w1.cell? ⟨b', o' + 3, none⟩ = some (.slice ad' (D.AC k) cp') := ⟨x, x.2.2.1, x.2.2.2.1⟩
theorem eqi_r1 (x : EQI w w1 b o b' o' D k ad cp ad' cp') : AtAt w1 ad (D.AC k) (D.AN k) (D.AV k) w1.heap.size := atAt_up x.2.2.2.2.1 x.1.size
theorem eqi_r2 (x : EQI w w1 b o b' o' D k ad cp ad' cp') : AtAt w1 ad' (D.AC k) (D.AN k) (D.AV k) w1.heap.size := atAt_up x.2.2.2.2.2 x.1.size
end
end Go.Proofs.YtogeicckbdfldaaDoor

/-
  Contracts: BoundAt, the program's and the specification's; the walk of FnExactBoundAt.
-/
namespace Go.Proofs.YtogeicckbdfldaaDoor
open Go.RowKit Go.Joins Go.Maps
set_option linter.unusedVariables false
set_option linter.unusedSimpArgs false
def baV (D : Dc) (x : Int) (p : ByteArray) : ByteArray := if hasB' D x = true then bnV D x p else ⟨#[]⟩
def baK (D : Dc) (x : Int) (p : ByteArray) : Bool := if hasB' D x = true then bnK D x p else false
theorem ba_no {D : Dc} {x : Int} {p : ByteArray} (h : hasB' D x = false) : baV D x p = ⟨#[]⟩ ∧ baK D x p = false := by unfold baV baK; rw [h]; exact ⟨rfl, rfl⟩
theorem ba_yes {D : Dc} {x : Int} {p : ByteArray} (h : hasB' D x = true) : baV D x p = bnV D x p ∧ baK D x p = bnK D x p := by unfold baV baK; rw [h]; exact ⟨rfl, rfl⟩
theorem has_facts {D : Dc} {x : Int} (h : hasB' D x = true) : docokB D = true ∧ 0 ≤ x ∧ x ≤ (D.n : Int) - 1 := by
  unfold hasB' at h
  simp only [Bool.and_eq_true, decide_eq_true_eq] at h
  exact h
theorem attrs_ok {D : Dc} (h : docokB D = true) : AttrsOk D D.n := by
  intro j hj
  have h1 := (docok_facts h).2.1 j hj
  unfold itB at h1
  rw [Bool.and_eq_true] at h1
  have h2 := h1.2
  unfold pB partB at h2
  split at h2
  · simp only [Bool.and_eq_true, beq_iff_eq] at h2
    have h3 : D.AC j = 0 := by have := h2.2.1; omega
    rw [h3]
    exact ⟨fun k hk => absurd hk (Nat.not_lt_zero _), fun k i hk => absurd hk (Nat.not_lt_zero _)⟩
  · rw [Bool.and_eq_true, Bool.and_eq_true] at h2
    have h3 := h2.2.2
    unfold attrsB at h3
    rw [Bool.and_eq_true] at h3
    have h4 : ∀ k, k < D.AC j → atB (D.AN j) (D.AV j) k = true := fun k hk => List.all_eq_true.1 h3.2 k (by simpa using hk)
    have h5 : ∀ k, k < D.AC j → (spl (D.AN j k)).2.2 = true := fun k hk => by
      have := h4 k hk
      unfold atB at this
      rw [Bool.and_eq_true] at this
      exact this.1
    have h6 : ∀ k i, k < i → i < D.AC j → D.AN j k ≠ D.AN j i := fun k i hk hi e => by
      have := h4 i hi
      unfold atB at this
      simp only [Bool.and_eq_true, Bool.not_eq_true'] at this
      have h7 := this.2.2
      rw [anyS_hit (k := k) hk (by rw [e]; simp)] at h7
      cases h7
    refine ⟨h5, fun k i hk hi e => ?_⟩
    rcases Nat.lt_trichotomy k i with h | h | h
    · exact absurd e (h6 k i h hi)
    · exact h
    · exact absurd e.symm (h6 i k h hk)
set_option maxRecDepth 100000 in
set_option maxHeartbeats 4000000 in
theorem s_boundat (D : Dc) (n : Nat) (a : Option Addr) (cap : Nat) (x : Int) (p : ByteArray) (w : World) (hp : p.size ≤ 1048576) (hD : D.n = n) (hz : dcTot D ≤ 1048576) (hr : DcAt w a D w.heap.size) :
    Calls Tryd.prog 21 #[.slice a n cap, .int .i64 x, .string p] w fun e w' => e = .returned (.tuple #[.string (baV D x p), .bool (baK D x p)]) ∧ Below w.heap.size w w' := by
  have HD := hide hD
  have HR := hide hr
  have HSZ := hide (dc_sz hz)
  have hn : n ≤ 1048576 := by rw [← hD]; exact (dc_sz hz).1
  have CD := hide (s_docok D n a cap w hD hz hr)
  clear hr hD hz
  cases hd : docokB D
  · have HV := hide (ba_no (p := p) (show hasB' D x = false by unfold hasB'; rw [hd]; rfl))
    rw [hd] at CD
    go_enter Tryd.func21, Tryd.ntmps21
    go_wp2_with (first | (go_at_call 22; refine CD.out.mono ?_; rintro e w1 ⟨rfl, hb1⟩; have HB := hide hb1; clear hb1))
    go_ret2
    exact ⟨bn_ret HV.out.1 HV.out.2, HB.out⟩
  · obtain ⟨⟨g1, g2⟩, -, -⟩ := docok_facts hd
    have HDEC := hide (docok_dec hd)
    rw [HD.out] at g1 g2 HDEC
    rw [hd] at CD
    have hlen : (1 : Int) ≤ (n : Int) := by omega
    by_cases hin : 0 ≤ x ∧ x ≤ (n : Int) - 1
    · have HIN := hide hin
      obtain ⟨h0, h1⟩ := hin
      have HV := hide (ba_yes (p := p) (show hasB' D x = true by unfold hasB'; rw [hd, HD.out, decide_eq_true HIN.out]; rfl))
      obtain ⟨b, off, rfl, hbs, hrow⟩ := HR.out (by rw [HD.out]; omega)
      have HRW := hide hrow
      clear hrow
      go_enter Tryd.func21, Tryd.ntmps21
      go_wp2_with fail
      refine CD.out.mono ?_
      rintro e w1 ⟨rfl, hb1⟩
      have hbw : b < w1.heap.size := Nat.lt_of_lt_of_le hbs hb1.size
      have hx' : x = (x.toNat : Int) := by omega
      have CT : Hid (Calls Tryd.prog 41 #[.slice (some ⟨b, off, none⟩) n cap, .int .i64 x, .string p] w1 fun e w' => e = .returned (.tuple #[.string (bnV D x p), .bool (bnK D x p)]) ∧ w' = w1) := hide (by
        rw [hx']
        exact s_bound D n b off cap w1 x.toNat p HD.out g2 (by omega) hbw (dcRow_up (dcRow_go HRW.out hbs hb1) hb1.size) (fun j hj => (HDEC.out j hj).2) (fun j hj => (HDEC.out j hj).1) (fun j hj => by have := (HSZ.out.2 j (by rw [HD.out]; exact hj)).1; omega) hp)
      have HB := hide hb1
      clear hb1 hx'
      go_wp2_with (first | (go_at_call 30; refine (s_inT _ _ _ _ HIN.out).mono ?_; rintro e w9 ⟨rfl, rfl⟩) | (go_at_call 41; refine CT.out.mono ?_; rintro e w2 ⟨rfl, rfl⟩))
      go_ret2
      exact ⟨bn_ret HV.out.1 HV.out.2, HB.out⟩
    · have HV := hide (ba_no (p := p) (show hasB' D x = false by unfold hasB'; rw [HD.out, decide_eq_false hin]; simp))
      have HIN := hide hin
      clear hin
      go_enter Tryd.func21, Tryd.ntmps21
      go_wp2_with (first | (go_at_call 22; refine CD.out.mono ?_; rintro e w1 ⟨rfl, hb1⟩; have HB := hide hb1; clear hb1) | (go_at_call 30; refine (s_inF _ _ _ _ HIN.out).mono ?_; rintro e w9 ⟨rfl, rfl⟩))
      go_ret2
      exact ⟨bn_ret HV.out.1 HV.out.2, HB.out⟩
set_option maxRecDepth 100000 in
set_option maxHeartbeats 4000000 in
theorem i_boundat (D : Dc) (n : Nat) (a : Option Addr) (cap : Nat) (x : Int) (p : ByteArray) (w : World) (hp : p.size ≤ 1048576) (hD : D.n = n) (hz : dcTot D ≤ 1048576) (hr : DcAt w a D w.heap.size) (hT : Tabs w) :
    Calls Tryd.prog 18 #[.slice a n cap, .int .i64 x, .string p] w fun e w' => e = .returned (.tuple #[.string (baV D x p), .bool (baK D x p)]) ∧ Below w.heap.size w w' := by
  have HD := hide hD
  have HR := hide hr
  have HSZ := hide (dc_sz hz)
  have CH := hide (i_hasItem D n a cap x w hD hz hr hT)
  clear hr hD hz hT
  cases hh : hasB' D x
  · have HV := hide (ba_no (p := p) hh)
    rw [hh] at CH
    go_enter Tryd.func18, Tryd.ntmps18
    go_wp2_with (first | (go_at_call 26; refine CH.out.mono ?_; rintro e w1 ⟨rfl, hb1⟩; have HB := hide hb1; clear hb1))
    go_ret2
    exact ⟨bn_ret HV.out.1 HV.out.2, HB.out⟩
  · have HV := hide (ba_yes (p := p) hh)
    obtain ⟨hd, h0, h1⟩ := has_facts hh
    obtain ⟨⟨g1, g2⟩, -, -⟩ := docok_facts hd
    have HDEC := hide (docok_dec hd)
    have HOK := hide (attrs_ok hd)
    rw [HD.out] at g1 g2 HDEC HOK h1
    rw [hh] at CH
    obtain ⟨b, off, rfl, hbs, hrow⟩ := HR.out (by rw [HD.out]; omega)
    have HRW := hide hrow
    clear hrow
    go_enter Tryd.func18, Tryd.ntmps18
    go_wp2_with fail
    refine CH.out.mono ?_
    rintro e w1 ⟨rfl, hb1⟩
    have hbw : b < w1.heap.size := Nat.lt_of_lt_of_le hbs hb1.size
    have hrow1 := dcRow_up (dcRow_go HRW.out hbs hb1) hb1.size
    have CS := hide (i_scopes D n b off cap w1 HD.out g2 hbw hrow1 (fun j hj => by have h := HSZ.out.2 j (by rw [HD.out]; exact hj); exact ⟨by have := h.1; omega, fun i hi => (h.2 i hi).1⟩))
    have HRW1 := hide hrow1
    have HB := hide hb1
    clear hb1 hrow1
    go_wp2_with fail
    refine CS.out.mono ?_
    rintro e w2 ⟨sa, c, ms, rfl, hml, ho, hms, hb2⟩
    have hx' : x = (x.toNat : Int) := by omega
    have CL : Hid (Calls Tryd.prog 45 #[.agg #[.slice (some ⟨b, off, none⟩) n cap, .slice sa n c], .int .i64 x, .string p] w2 fun e w' => e = .returned (.tuple #[.string (bnV D x p), .bool (bnK D x p)]) ∧ Below w2.heap.size w2 w') := hide (by
      rw [hx']
      exact i_look D n b off cap sa c ms w2 x.toNat p HD.out g2 (by omega) (Nat.lt_of_lt_of_le hbw hb2.size) (dcRow_up (dcRow_go HRW1.out hbw hb2) hb2.size) HDEC.out HOK.out hp hml ⟨_, ho⟩ hms)
    have HB2 := hide (HB.out.trans (hb2.mono HB.out.size))
    clear hx' ho hms hb2
    go_wp2_with fail
    refine CL.out.mono ?_
    rintro e w3 ⟨rfl, hb3⟩
    have HB3 := hide (HB2.out.trans (hb3.mono HB2.out.size))
    clear hb3
    go_wp2
    go_ret2
    exact ⟨bn_ret HV.out.1 HV.out.2, HB3.out⟩
end Go.Proofs.YtogeicckbdfldaaDoor

/-
  Contracts of the drawing reader: whatever the code is, each draw answers a number in its range and writes the reader's own place alone.
-/
namespace Go.Proofs.YtogeicckbdfldaaDoor
open Go.RowKit
set_option linter.unusedVariables false
set_option linter.unusedSimpArgs false

/-- A row's first cells hold 'zs', in a block below 'B'. -/
def SrcAt (w : World) (a : Option Addr) (zs : List Int) (B : Nat) : Prop :=
  zs ≠ [] → ∃ b off, a = some ⟨b, off, none⟩ ∧ b < B ∧ ∀ j, j < zs.length → w.cell? ⟨b, off + j, none⟩ = some (.int .u8 (zs[j]?.getD 0))
/-- The reader lies in block 'G', over the code 'zs', somewhere in it. -/
def RdAt (w : World) (G : Nat) (a : Option Addr) (n cap : Nat) (zs : List Int) : Prop :=
  (∃ p : Nat, p ≤ n ∧ w.heap[G]? = some (.cells #[.slice a n cap, .int .i64 p] 75 (0, 0))) ∧ SrcAt w a zs G ∧ zs.length = n ∧ (∀ x ∈ zs, 0 ≤ x ∧ x ≤ 255) ∧ n ≤ 1048576
theorem grown_trans {w w1 w2 : World} {row : Option Nat} (h1 : w.grownBy w1 row) (h2 : w1.grownBy w2 row) : w.grownBy w2 row :=
  ⟨h2.os.trans h1.os, h2.tape.trans h1.tape, h2.output.trans h1.output, Nat.le_trans h1.size h2.size, fun k hk hne => (h2.block k (Nat.lt_of_lt_of_le hk h1.size) hne).trans (h1.block k hk hne)⟩
theorem grown_refl (w : World) (row : Option Nat) : w.grownBy w row := ⟨rfl, rfl, rfl, Nat.le_refl _, fun _ _ _ => rfl⟩
theorem src_grown {w w' : World} {a : Option Addr} {zs : List Int} {B : Nat} {row : Option Nat} (h : SrcAt w a zs B) (hB : B ≤ w.heap.size) (hg : w.grownBy w' row) (hr : ∀ k, row = some k → B ≤ k) : SrcAt w' a zs B := by
  intro hne
  obtain ⟨b, off, rfl, hb, hc⟩ := h hne
  refine ⟨b, off, rfl, hb, fun j hj => ?_⟩
  exact (World.cell?_of_block (hg.block b (by omega) (fun e => by have := hr b e.symm; omega))).trans (hc j hj)
theorem rd_lt {w : World} {G : Nat} {a : Option Addr} {n cap : Nat} {zs : List Int} (h : RdAt w G a n cap zs) : G < w.heap.size := by
  obtain ⟨⟨p, _, hg⟩, _⟩ := h
  exact (Array.getElem?_eq_some_iff.1 hg).1
/-- What is written behind the reader leaves it as it was. -/
theorem rd_grown {w w' : World} {G : Nat} {a : Option Addr} {n cap : Nat} {zs : List Int} {row : Option Nat} (h : RdAt w G a n cap zs) (hg : w.grownBy w' row) (hr : ∀ k, row = some k → G < k) : RdAt w' G a n cap zs := by
  have hlt := rd_lt h
  obtain ⟨⟨p, hp, hG⟩, hs, hl, hz, hn⟩ := h
  refine ⟨⟨p, hp, ?_⟩, src_grown hs (by omega) hg (fun k hk => by have := hr k hk; omega), hl, hz, hn⟩
  rw [hg.block G hlt (fun e => by have := hr G e.symm; omega)]; exact hG
theorem rd_alloc {w : World} {G : Nat} {a : Option Addr} {n cap : Nat} {zs : List Int} (h : RdAt w G a n cap zs) (o : Obj) : RdAt (w.alloc o) G a n cap zs :=
  rd_grown h (World.grownBy_alloc w o none) (fun k hk => by cases hk)
theorem rd_drewN {w : World} {G : Nat} {a : Option Addr} {n cap : Nat} {zs : List Int} (h : RdAt w G a n cap zs) (q : Nat) : RdAt (w.drewN q) G a n cap zs := h
/-- What one draw leaves. -/
def Drew (G : Nat) (a : Option Addr) (n cap : Nat) (zs : List Int) (w w' : World) : Prop := RdAt w' G a n cap zs ∧ w.grownBy w' (some G)
theorem drew_trans {G : Nat} {a : Option Addr} {n cap : Nat} {zs : List Int} {w w1 w2 : World} (h1 : Drew G a n cap zs w w1) (h2 : Drew G a n cap zs w1 w2) : Drew G a n cap zs w w2 := ⟨h2.1, grown_trans h1.2 h2.2⟩

theorem drew_step {w : World} {G : Nat} {a : Option Addr} {n cap : Nat} {zs : List Int} (h : RdAt w G a n cap zs) {p : Nat} (hp : p < n) (hG : w.heap[G]? = some (.cells #[.slice a n cap, .int .i64 p] 75 (0, 0))) (q1 q2 : Nat) :
    Drew G a n cap zs w (((w.drewN q1).setCell ⟨G, 1, none⟩ (.int .i64 ((p : Int) + 1))).drewN q2) := by
  have hlt := rd_lt h
  have hset := heap_setCell_same (w.drewN q1) G 1 _ 75 (.int .i64 ((p : Int) + 1)) hG
  have hgr : w.grownBy (((w.drewN q1).setCell ⟨G, 1, none⟩ (.int .i64 ((p : Int) + 1))).drewN q2) (some G) := by
    refine ⟨rfl, rfl, rfl, ?_, fun k hk hne => ?_⟩
    · simp
    · exact Below.heap_setCell (w.drewN q1) ⟨G, 1, none⟩ _ k (fun e => hne (by rw [e]))
  obtain ⟨_, hs, hl, hz, hn⟩ := h
  refine ⟨⟨⟨p + 1, by omega, ?_⟩, src_grown hs (by omega) hgr (fun k hk => by cases hk; exact Nat.le_refl _), hl, hz, hn⟩, hgr⟩
  exact hset

set_option maxHeartbeats 1000000 in
theorem d_next (G : Nat) (a : Option Addr) (n cap : Nat) (zs : List Int) (w : World) (h : RdAt w G a n cap zs) :
    Calls Tryd.prog 68 #[.pointer (some ⟨G, 0, none⟩)] w fun e w' => ∃ x : Int, 0 ≤ x ∧ x ≤ 255 ∧ e = .returned (.int .i64 x) ∧ Drew G a n cap zs w w' := by
  have HH := hide h
  obtain ⟨⟨p, hp, hG⟩, hs, hl, hz, hn⟩ := h
  have c0 : w.cell? ⟨G, 0, none⟩ = some (.slice a n cap) := by rw [cell_of_row w G 0 _ 75 (0, 0) hG]; rfl
  have c1 : w.cell? ⟨G, 1, none⟩ = some (.int .i64 p) := by rw [cell_of_row w G 1 _ 75 (0, 0) hG]; rfl
  have hf : w.frozen? ⟨G, 1, none⟩ = false := frozen_of_row w G 1 _ 75 hG
  have HG := hide hG
  have HS := hide hs
  have HL := hide hl
  have HZ := hide hz
  clear hG hs hl hz
  by_cases hlt : p < n
  · have hlt' : ¬ (n : Int) ≤ (p : Int) := by omega
    obtain ⟨b, off, rfl, hbG, hc⟩ := HS.out (fun e => by have := HL.out; rw [e] at this; simp at this; omega)
    have hcb := hc p (by rw [HL.out]; exact hlt)
    have hmem : 0 ≤ zs[p]?.getD 0 ∧ zs[p]?.getD 0 ≤ 255 := by
      have hpl : p < zs.length := by rw [HL.out]; exact hlt
      rw [List.getElem?_eq_getElem hpl]
      exact HZ.out _ (List.getElem_mem hpl)
    obtain ⟨x, hx⟩ : ∃ x, zs[p]?.getD 0 = x := ⟨_, rfl⟩
    rw [hx] at hcb hmem
    obtain ⟨hx0, hx1⟩ := hmem
    have hset := heap_setCell_same w G 1 _ 75 (.int .i64 ((p : Int) + 1)) HG.out
    have s2 : ∀ q, ((w.drewN q).setCell ⟨G, 1, none⟩ (.int .i64 ((p : Int) + 1))).cell? ⟨b, off + p, none⟩ = some (.int .u8 x) := fun q =>
      (World.cell?_of_block (Below.heap_setCell w ⟨G, 1, none⟩ _ b (by show b ≠ G; omega))).trans hcb
    have hwr : IntKind.i64.wrap (p : Int) = (p : Int) := by rw [IntKind.wrap_i64]; omega
    have hi0 : (0 : Int) ≤ (p : Int) := by omega
    have hi1 : (p : Int) < (n : Int) := by omega
    have HSET := hide hset
    clear hset hx hc
    go_enter Tryd.func68, Tryd.ntmps68
    go_wp2
    go_quiet (fail)
    go_wp2
    go_quiet (fail)
    go_wp2
    go_ret
    exact ⟨x, hx0, hx1, rfl, drew_step HH.out hlt HG.out _ _⟩
  · have hlt' : (n : Int) ≤ (p : Int) := by omega
    go_enter Tryd.func68, Tryd.ntmps68
    go_wp2
    go_quiet (fail)
    go_wp2
    go_ret
    exact ⟨0, by omega, by omega, rfl, HH.out, ⟨rfl, rfl, rfl, Nat.le_refl _, fun _ _ _ => rfl⟩⟩

set_option maxHeartbeats 1000000 in
theorem d_below (G : Nat) (a : Option Addr) (n cap : Nat) (zs : List Int) (m : Int) (w : World) (hm : 2 ≤ m) (hm' : m ≤ 256) (h : RdAt w G a n cap zs) :
    Calls Tryd.prog 46 #[.pointer (some ⟨G, 0, none⟩), .int .i64 m] w fun e w' => ∃ x : Int, 0 ≤ x ∧ x < m ∧ e = .returned (.int .i64 x) ∧ Drew G a n cap zs w w' := by
  have HH := hide h
  clear h
  have hm1 : ¬ m ≤ 1 := by omega
  go_enter Tryd.func46, Tryd.ntmps46
  go_wp2_with fail
  refine (d_next G a n cap zs _ HH.out).mono ?_
  rintro e w1 ⟨x, hx0, hx1, rfl, hd⟩
  have HD := hide hd
  clear hd
  go_wp2
  go_ret
  exact ⟨x % m, Int.emod_nonneg _ (by omega), Int.emod_lt_of_pos _ (by omega), rfl, HD.out⟩

set_option maxHeartbeats 1000000 in
theorem d_once (G : Nat) (a : Option Addr) (n cap : Nat) (zs : List Int) (m : Int) (w : World) (hm : 2 ≤ m) (hm' : m ≤ 256) (h : RdAt w G a n cap zs) :
    Calls Tryd.prog 53 #[.pointer (some ⟨G, 0, none⟩), .int .i64 m] w fun e w' => ∃ x : Bool, e = .returned (.bool x) ∧ Drew G a n cap zs w w' := by
  have HH := hide h
  clear h
  go_enter Tryd.func53, Tryd.ntmps53
  go_wp2_with fail
  refine (d_below G a n cap zs m _ hm hm' HH.out).mono ?_
  rintro e w1 ⟨x, hx0, hx1, rfl, hd⟩
  have HD := hide hd
  clear hd
  go_wp2
  go_ret
  exact ⟨_, rfl, HD.out⟩

set_option maxHeartbeats 1000000 in
theorem d_open (a : Option Addr) (n cap : Nat) (zs : List Int) (w : World) (hl : zs.length = n) (hz : ∀ x ∈ zs, 0 ≤ x ∧ x ≤ 255) (hn : n ≤ 1048576) (hs : SrcAt w a zs w.heap.size) :
    Calls Tryd.prog 23 #[.slice a n cap] w fun e w' => e = .returned (.pointer (some ⟨w.heap.size, 0, none⟩)) ∧ RdAt w' w.heap.size a n cap zs ∧ Below w.heap.size w w' := by
  have HS := hide hs
  have HL := hide hl
  have HZ := hide hz
  clear hs hl hz
  go_enter Tryd.func23, Tryd.ntmps23
  go_wp2
  go_ret
  exact ⟨rfl, ⟨⟨0, Nat.zero_le _, heap_alloc_new w _⟩, src_grown HS.out (Nat.le_refl _) (World.grownBy_alloc w _ none) (fun k hk => by cases hk), HL.out, HZ.out, hn⟩, (Below.refl _ _).alloc (Nat.le_refl _) _⟩

/-- What a draw leaves that also laid new blocks. -/
def Drawn (G : Nat) (a : Option Addr) (n cap : Nat) (zs : List Int) (w w' : World) : Prop := Drew G a n cap zs w w'
theorem drew_alloc {G : Nat} {a : Option Addr} {n cap : Nat} {zs : List Int} {w w1 : World} (o : Obj) (h : Drew G a n cap zs (w.alloc o) w1) : Drew G a n cap zs w w1 :=
  ⟨h.1, grown_trans (World.grownBy_alloc w o (some G)) h.2⟩
theorem name_cell (w w1 : World) (G : Nat) (x : Int) (h0 : 0 ≤ x) (h7 : x < 7) (hG : G < w.heap.size)
    (hg : (w.alloc (.cells #[.string ⟨#[97]⟩, .string ⟨#[98]⟩, .string ⟨#[99]⟩, .string ⟨#[100]⟩, .string ⟨#[120, 49]⟩, .string ⟨#[95, 121]⟩, .string ⟨#[97, 46, 98, 45, 99]⟩] 9)).grownBy w1 (some G)) :
    ∃ s : ByteArray, w1.cell? ⟨w.heap.size, x.toNat, none⟩ = some (.string s) ∧ 1 ≤ s.size ∧ s.size ≤ 5 := by
  have hb := hg.block w.heap.size (by simp) (fun e => by cases e; omega)
  rw [World.cell?_of_block (a := ⟨w.heap.size, x.toNat, none⟩) hb, cell_of_row _ w.heap.size x.toNat _ 9 (0, 0) (heap_alloc_new w _)]
  have hx : x.toNat = 0 ∨ x.toNat = 1 ∨ x.toNat = 2 ∨ x.toNat = 3 ∨ x.toNat = 4 ∨ x.toNat = 5 ∨ x.toNat = 6 := by omega
  rcases hx with e | e | e | e | e | e | e <;> rw [e] <;> exact ⟨_, rfl, by decide, by decide⟩

set_option maxHeartbeats 1000000 in
theorem d_name (G : Nat) (a : Option Addr) (n cap : Nat) (zs : List Int) (w : World) (h : RdAt w G a n cap zs) :
    Calls Tryd.prog 52 #[.pointer (some ⟨G, 0, none⟩)] w fun e w' => ∃ s : ByteArray, 1 ≤ s.size ∧ s.size ≤ 5 ∧ e = .returned (.string s) ∧ Drew G a n cap zs w w' := by
  have HH := hide h
  have hG := rd_lt h
  clear h
  go_enter Tryd.func52, Tryd.ntmps52
  go_wp2_with fail
  refine (d_below G a n cap zs 7 _ (by omega) (by omega) (rd_alloc HH.out _)).mono ?_
  rintro e w1 ⟨x, hx0, hx1, rfl, hd⟩
  obtain ⟨s, hs, hs1, hs2⟩ := name_cell w w1 G x hx0 hx1 hG hd.2
  have HD := hide (drew_alloc _ hd)
  clear hd
  go_wp2
  go_ret
  exact ⟨s, hs1, hs2, rfl, HD.out⟩
end Go.Proofs.YtogeicckbdfldaaDoor
