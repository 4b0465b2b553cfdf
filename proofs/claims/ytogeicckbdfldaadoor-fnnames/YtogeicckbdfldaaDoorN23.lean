/-
  Texts put together: QnI, QnJ, QnK.
-/
import Derived.Test.YtogeicckbdfldaaDoorN22
import Derived.Test.YtogeicckbdfldaaDoorN4
import Derived.Test.YtogeicckbdfldaaDoorN12
import Derived.Test.YtogeicckbdfldaaDoorN17
/-
  Contracts: the name of an element or attribute, and the names of an item's attributes, by the program.
-/
namespace Go.Proofs.YtogeicckbdfldaaDoor
open Go.RowKit Go.Joins Go.Maps
set_option linter.unusedVariables false
set_option linter.unusedSimpArgs false
/-- The document, and the maps of what its items bind. -/
def ScAt (w : World) (D : Dc) (n b off cap : Nat) (sa : Option Addr) (c : Nat) (ms : List Nat) : Prop := b < w.heap.size ∧ DcRow w b off D w.heap.size ∧ ms.length = n ∧ (∃ B, w.ownsRow B MT 1 (.slice sa n c) n (ms.map fun b => Value.map (some b))) ∧ MapsAt w D ms
theorem scAt_go {w w2 : World} {D : Dc} {n b off cap : Nat} {sa : Option Addr} {c : Nat} {ms : List Nat} (h : ScAt w D n b off cap sa c ms) (hb : Below w.heap.size w w2) : ScAt w2 D n b off cap sa c ms := by
  obtain ⟨h1, h2, h3, ⟨B, h4⟩, h5⟩ := h
  exact ⟨Nat.lt_of_lt_of_le h1 hb.size, dcRow_up (dcRow_go h2 h1 hb) hb.size, h3, ⟨B, gOwn_after h4 hb⟩, fun j hj => map_below (h5 j hj) hb⟩
/-- What is known of a right document. -/
def DcFacts (D : Dc) (n : Nat) : Prop := D.n = n ∧ n ≤ 200 ∧ (∀ j, j < n → -1 ≤ D.U j ∧ D.U j < j) ∧ AttrsOk D n ∧ ∀ j, j < n → D.AC j ≤ 1048576 ∧ ∀ i, i < D.AC j → (D.AN j i).size ≤ 1048576
theorem i_splitB (s : ByteArray) (w : World) (hs : s.size ≤ 1048576) : Calls Tryd.prog 17 #[.string s] w fun e w' => e = .returned (.tuple #[.string (spl s).1, .string (spl s).2.1, .bool (spl s).2.2]) ∧ Below w.heap.size w w' := by
  refine (i_split s w hs).mono ?_
  rintro e w' ⟨rfl, q, rfl⟩
  exact ⟨rfl, ⟨rfl, rfl, rfl, Nat.le_refl _, fun _ _ => rfl⟩⟩
theorem i_bindsB (nm : ByteArray) (w : World) (hs : nm.size ≤ 1048576) : Calls Tryd.prog 61 #[.string nm] w fun e w' => ∃ p, e = .returned (.tuple #[.string p, .bool (qsk nm)]) ∧ Below w.heap.size w w' := by
  refine (i_binds nm w hs).mono ?_
  rintro e w' ⟨rfl, q, rfl⟩
  exact ⟨_, rfl, ⟨rfl, rfl, rfl, Nat.le_refl _, fun _ _ => rfl⟩⟩
section
variable {w w1 w2 : World} {o1 o2 : Obj}
theorem twoQ_below (h : Below ((w.alloc o1).alloc o2).heap.size ((w.alloc o1).alloc o2) w2) : Below w.heap.size w w2 := gBox_below (gBox_below h)
theorem below_2 : Below w.heap.size w ((w.alloc o1).alloc o2) := ((Below.refl _ _).alloc (Nat.le_refl _) _).alloc (by simp) _
end
theorem ret_q {a a' b b' : ByteArray} {k k' : Bool} (h1 : a' = a) (h2 : b' = b) (h3 : k' = k) : Ending.returned (.tuple #[.agg #[.string a, .string b], .bool k]) = .returned (.tuple #[.agg #[.string a', .string b'], .bool k']) := by rw [h1, h2, h3]
set_option maxRecDepth 100000 in
set_option maxHeartbeats 4000000 in
theorem i_nameOf (D : Dc) (n b off cap : Nat) (sa : Option Addr) (c : Nat) (ms : List Nat) (w : World) (x : Nat) (nm : ByteArray) (hF : DcFacts D n) (hx : x < n) (hnm : nm.size ≤ 1048576) (hne : nm.toList.isEmpty = false) (hS : ScAt w D n b off cap sa c ms) :
    Calls Tryd.prog 38 #[.agg #[.slice (some ⟨b, off, none⟩) n cap, .slice sa n c], .int .i64 x, .string nm] w fun e w' => e = .returned (.tuple #[.agg #[.string (bnV D x (spl nm).1), .string (spl nm).2.1], .bool (bnK D x (spl nm).1)]) ∧ Below w.heap.size w w' := by
  have hpz := (spl_sz nm).1
  have CS := hide (fun w9 => i_splitB nm w9 hnm)
  have CL : Hid (∀ w9, ScAt w9 D n b off cap sa c ms → Calls Tryd.prog 45 #[.agg #[.slice (some ⟨b, off, none⟩) n cap, .slice sa n c], .int .i64 x, .string (spl nm).1] w9 fun e w' => e = .returned (.tuple #[.string (bnV D x (spl nm).1), .bool (bnK D x (spl nm).1)]) ∧ Below w9.heap.size w9 w') := hide fun w9 h => by
    obtain ⟨h1, h2, h3, h4, h5⟩ := h
    exact i_look D n b off cap sa c ms w9 x _ hF.1 hF.2.1 hx h1 h2 hF.2.2.1 hF.2.2.2.1 (by omega) h3 h4 h5
  have HS := hide hS
  obtain ⟨P, hP⟩ : ∃ P, (spl nm).1 = P := ⟨_, rfl⟩
  obtain ⟨Lo, hLo⟩ : ∃ Lo, (spl nm).2.1 = Lo := ⟨_, rfl⟩
  rw [hP] at CL
  rw [hP, hLo] at CS ⊢
  obtain ⟨V, hV⟩ : ∃ V, bnV D x P = V := ⟨_, rfl⟩
  obtain ⟨K, hK⟩ : ∃ K, bnK D x P = K := ⟨_, rfl⟩
  rw [hV, hK] at CL ⊢
  clear hS hP hLo hV hK hpz hF
  go_enter Tryd.func38, Tryd.ntmps38
  go_wp2_with fail
  refine (CS.out _).mono ?_
  rintro e w2 ⟨rfl, hb2⟩
  have K1 := hide (cellsAt_go (cellsAt_go (cellsAt_new w #[.slice (some ⟨b, off, none⟩) n cap, .slice sa n c] 62) ((Below.refl (w.heap.size + 1) _).alloc (by simp) (.cells #[.string ⟨#[]⟩, .string ⟨#[]⟩] 41)) (by omega)) hb2 (by simp; omega))
  have K2 := hide (cellsAt_go (cellsAt_new (w.alloc (.cells #[.slice (some ⟨b, off, none⟩) n cap, .slice sa n c] 62)) #[.string ⟨#[]⟩, .string ⟨#[]⟩] 41) hb2 (by simp))
  have HB2 := hide (twoQ_below hb2)
  have HS2 := hide (scAt_go HS.out HB2.out)
  have k0 : w2.cell? ⟨w.heap.size, 0, none⟩ = some (.slice (some ⟨b, off, none⟩) n cap) := cellsAt_cell K1.out 0
  have k1 : w2.cell? ⟨w.heap.size, 1, none⟩ = some (.slice sa n c) := cellsAt_cell K1.out 1
  clear hb2
  go_wp2_with fail
  refine (CL.out _ HS2.out).mono ?_
  rintro e w3 ⟨rfl, hb3⟩
  have K3 := hide (cellsAt_go K2.out hb3 (cellsAt_lt K2.out))
  have HB3 := hide (HB2.out.trans (hb3.mono HB2.out.size))
  have hsz : (w.alloc (.cells #[.slice (some ⟨b, off, none⟩) n cap, .slice sa n c] 62)).heap.size = w.heap.size + 1 := by simp
  rw [hsz] at K3
  have a0 : w3.cell? ⟨w.heap.size + 1, 0, none⟩ = some (.string ⟨#[]⟩) := cellsAt_cell K3.out 0
  have a1 : w3.cell? ⟨w.heap.size + 1, 1, none⟩ = some (.string ⟨#[]⟩) := cellsAt_cell K3.out 1
  have f0 := cellsAt_frozen K3.out
  clear hb3 k0 k1 hsz
  go_wp2
  have hk := cellsAt_set (i := 1) (cellsAt_set (i := 0) K3.out (.string V)) (.string Lo)
  have q0 := cellsAt_cell hk 0
  have q1 := cellsAt_cell hk 1
  refine bodyPost_ret (v := .tuple #[.agg #[.string V, .string Lo], .bool K]) (by simp [results, Tryd.results38, go_sem, q0, q1]) rfl ⟨rfl, (HB3.out.setCell (p := ⟨w.heap.size + 1, 0, none⟩) (Nat.le_succ _) _).setCell (p := ⟨w.heap.size + 1, 1, none⟩) (Nat.le_succ _) _⟩
theorem i_nameOf0 (l s x : Value) (nm : ByteArray) (w : World) (hne : nm.toList.isEmpty = true) (hx : ∃ z, x = .int .i64 z) (hl : ∃ a n c, l = .slice a n c) (hs : ∃ a n c, s = .slice a n c) :
    Calls Tryd.prog 38 #[.agg #[l, s], x, .string nm] w fun e w' => e = .returned (.tuple #[.agg #[.string ⟨#[]⟩, .string ⟨#[]⟩], .bool true]) ∧ Below w.heap.size w w' := by
  obtain ⟨z, rfl⟩ := hx
  obtain ⟨a, n, c, rfl⟩ := hl
  obtain ⟨a', n', c', rfl⟩ := hs
  go_enter Tryd.func38, Tryd.ntmps38
  go_wp2
  refine bodyPost_ret (v := .tuple #[.agg #[.string ⟨#[]⟩, .string ⟨#[]⟩], .bool true]) (by simp [results, Tryd.results38, go_sem]) rfl ⟨rfl, below_2⟩
set_option maxRecDepth 100000 in
set_option maxHeartbeats 4000000 in
theorem i_attrName (D : Dc) (n b off cap : Nat) (sa : Option Addr) (c : Nat) (ms : List Nat) (w : World) (x : Nat) (nm : ByteArray) (hF : DcFacts D n) (hx : x < n) (hnm : nm.size ≤ 1048576) (hq : (spl nm).2.2 = true) (hS : ScAt w D n b off cap sa c ms) :
    Calls Tryd.prog 62 #[.agg #[.slice (some ⟨b, off, none⟩) n cap, .slice sa n c], .int .i64 x, .string nm] w fun e w' => e = .returned (.tuple #[.agg #[.string (qsp D x nm), .string (spl nm).2.1], .bool (qok D x nm)]) ∧ Below w.heap.size w w' := by
  have CS := hide (fun w9 => i_splitB nm w9 hnm)
  have HS := hide hS
  cases f2 : (spl nm).1.toList.isEmpty
  · have hne : nm.toList.isEmpty = false := by
      cases he : nm.toList.isEmpty
      · rfl
      · have e : nm = ⟨#[]⟩ := by
          rw [List.isEmpty_iff, ByteArray.toList_eq] at he
          exact ByteArray.ext (Array.ext' he)
        subst e
        have hc : colon ⟨#[]⟩ = -1 := rfl
        rw [spl_b hc (nameB_none _ rfl)] at hq
        cases hq
    have CN := hide (fun w9 h => i_nameOf D n b off cap sa c ms w9 x nm hF hx hnm hne h)
    have HV : Hid (bnV D x (spl nm).1 = qsp D x nm ∧ bnK D x (spl nm).1 = qok D x nm) := hide (by unfold qsp qok; rw [f2, if_neg (by decide)]; exact ⟨rfl, rfl⟩)
    rw [HV.out.1, HV.out.2] at CN
    obtain ⟨P, hP⟩ : ∃ P, (spl nm).1 = P := ⟨_, rfl⟩
    obtain ⟨Lo, hLo⟩ : ∃ Lo, (spl nm).2.1 = Lo := ⟨_, rfl⟩
    rw [hP] at f2
    rw [hLo] at CN
    rw [hP, hLo] at CS
    rw [hLo]
    obtain ⟨V, hV⟩ : ∃ V, qsp D x nm = V := ⟨_, rfl⟩
    obtain ⟨K, hK⟩ : ∃ K, qok D x nm = K := ⟨_, rfl⟩
    rw [hV, hK] at CN ⊢
    clear hS hP hLo hV hK hF HV hq
    go_enter Tryd.func62, Tryd.ntmps62
    go_wp2_with fail
    refine (CS.out _).mono ?_
    rintro e w2 ⟨rfl, hb2⟩
    have K1 := hide (cellsAt_go (cellsAt_go (cellsAt_new w #[.slice (some ⟨b, off, none⟩) n cap, .slice sa n c] 62) ((Below.refl (w.heap.size + 1) _).alloc (by simp) (.cells #[.string ⟨#[]⟩, .string ⟨#[]⟩] 41)) (by omega)) hb2 (by simp; omega))
    have K2 := hide (cellsAt_go (cellsAt_new (w.alloc (.cells #[.slice (some ⟨b, off, none⟩) n cap, .slice sa n c] 62)) #[.string ⟨#[]⟩, .string ⟨#[]⟩] 41) hb2 (by simp))
    have HB2 := hide (twoQ_below hb2)
    have HS2 := hide (scAt_go HS.out HB2.out)
    have k0 : w2.cell? ⟨w.heap.size, 0, none⟩ = some (.slice (some ⟨b, off, none⟩) n cap) := cellsAt_cell K1.out 0
    have k1 : w2.cell? ⟨w.heap.size, 1, none⟩ = some (.slice sa n c) := cellsAt_cell K1.out 1
    clear hb2
    go_wp2_with fail
    refine (CN.out _ HS2.out).mono ?_
    rintro e w3 ⟨rfl, hb3⟩
    have K3 := hide (cellsAt_go K2.out hb3 (cellsAt_lt K2.out))
    have HB3 := hide (HB2.out.trans (hb3.mono HB2.out.size))
    have hsz : (w.alloc (.cells #[.slice (some ⟨b, off, none⟩) n cap, .slice sa n c] 62)).heap.size = w.heap.size + 1 := by simp
    rw [hsz] at K3
    have a0 : w3.cell? ⟨w.heap.size + 1, 0, none⟩ = some (.string ⟨#[]⟩) := cellsAt_cell K3.out 0
    have a1 : w3.cell? ⟨w.heap.size + 1, 1, none⟩ = some (.string ⟨#[]⟩) := cellsAt_cell K3.out 1
    have f0 := cellsAt_frozen K3.out
    clear hb3 k0 k1 hsz
    go_wp2
    have hk := cellsAt_set (i := 1) (cellsAt_set (i := 0) K3.out (.string V)) (.string Lo)
    have q0 := cellsAt_cell hk 0
    have q1 := cellsAt_cell hk 1
    refine bodyPost_ret (v := .tuple #[.agg #[.string V, .string Lo], .bool K]) (by simp [results, Tryd.results62, go_sem, q0, q1]) rfl ⟨rfl, (HB3.out.setCell (p := ⟨w.heap.size + 1, 0, none⟩) (Nat.le_succ _) _).setCell (p := ⟨w.heap.size + 1, 1, none⟩) (Nat.le_succ _) _⟩
  · have HV : Hid (qsp D x nm = ⟨#[]⟩ ∧ qok D x nm = true) := hide (by unfold qsp qok; rw [f2, if_pos rfl]; exact ⟨rfl, rfl⟩)
    rw [HV.out.1, HV.out.2]
    obtain ⟨P, hP⟩ : ∃ P, (spl nm).1 = P := ⟨_, rfl⟩
    obtain ⟨Lo, hLo⟩ : ∃ Lo, (spl nm).2.1 = Lo := ⟨_, rfl⟩
    rw [hP] at f2
    rw [hP, hLo] at CS
    rw [hLo]
    clear hS hP hLo hF HV hq
    go_enter Tryd.func62, Tryd.ntmps62
    go_wp2_with fail
    refine (CS.out _).mono ?_
    rintro e w2 ⟨rfl, hb2⟩
    have K2 := hide (cellsAt_go (cellsAt_new (w.alloc (.cells #[.slice (some ⟨b, off, none⟩) n cap, .slice sa n c] 62)) #[.string ⟨#[]⟩, .string ⟨#[]⟩] 41) hb2 (by simp))
    have HB2 := hide (twoQ_below hb2)
    have hsz : (w.alloc (.cells #[.slice (some ⟨b, off, none⟩) n cap, .slice sa n c] 62)).heap.size = w.heap.size + 1 := by simp
    rw [hsz] at K2
    have a0 : w2.cell? ⟨w.heap.size + 1, 0, none⟩ = some (.string ⟨#[]⟩) := cellsAt_cell K2.out 0
    have a1 : w2.cell? ⟨w.heap.size + 1, 1, none⟩ = some (.string ⟨#[]⟩) := cellsAt_cell K2.out 1
    have f0 := cellsAt_frozen K2.out
    clear hb2 hsz
    go_wp2
    have hk := cellsAt_set (i := 1) (cellsAt_set (i := 0) K2.out (.string ⟨#[]⟩)) (.string Lo)
    have q0 := cellsAt_cell hk 0
    have q1 := cellsAt_cell hk 1
    refine bodyPost_ret (v := .tuple #[.agg #[.string ⟨#[]⟩, .string Lo], .bool true]) (by simp [results, Tryd.results62, go_sem, q0, q1]) rfl ⟨rfl, (HB2.out.setCell (p := ⟨w.heap.size + 1, 0, none⟩) (Nat.le_succ _) _).setCell (p := ⟨w.heap.size + 1, 1, none⟩) (Nat.le_succ _) _⟩
end Go.Proofs.YtogeicckbdfldaaDoor

/-
  Contract: the names of an item's attributes, by the program.
-/
namespace Go.Proofs.YtogeicckbdfldaaDoor
open Go.RowKit Go.Joins Go.Maps
set_option linter.unusedVariables false
set_option linter.unusedSimpArgs false
/-- While the names are told: the block G holds the document and the maps. -/
def QjRel (D : Dc) (x : Int) (n b off cap : Nat) (sa : Option Addr) (c : Nat) (ms : List Nat) (w wr : World) (i : Nat) (L : QL) (ad : Option Addr) (c' : Nat) : Prop :=
  qn D x (D.AN x.toNat) i = some L ∧ OwnQ (w.heap.size + 1) wr ad L.length c' (qA L) (qB L) ∧ Below (w.heap.size + 1) (w.alloc (.cells #[.slice (some ⟨b, off, none⟩) n cap, .slice sa n c] 62)) wr ∧ ScAt wr D n b off cap sa c ms
section
variable {D : Dc} {x : Int} {n b off cap : Nat} {sa : Option Addr} {c : Nat} {ms : List Nat} {w wr w2 : World} {i : Nat} {L : QL} {ad : Option Addr} {c' : Nat}
theorem qj_size (h : QjRel D x n b off cap sa c ms w wr i L ad c') : w.heap.size + 1 ≤ wr.heap.size := by have := h.2.2.1.size; simpa using this
theorem qj_go (h : QjRel D x n b off cap sa c ms w wr i L ad c') (hb : Below wr.heap.size wr w2) : QjRel D x n b off cap sa c ms w w2 i L ad c' :=
  ⟨h.1, ownQ_go h.2.1 hb, h.2.2.1.trans (hb.mono (qj_size h)), scAt_go h.2.2.2 hb⟩
theorem qj_below (h : QjRel D x n b off cap sa c ms w wr i L ad c') : Below w.heap.size w wr := ((Below.refl w.heap.size w).alloc (Nat.le_refl _) _).trans (h.2.2.1.mono (Nat.le_succ _))
theorem qj_box (h : QjRel D x n b off cap sa c ms w wr i L ad c') : CellsAt wr w.heap.size #[.slice (some ⟨b, off, none⟩) n cap, .slice sa n c] := cellsAt_go (cellsAt_new w _ _) h.2.2.1 (Nat.lt_succ_self _)
end
theorem gBelow_oneB {B : Nat} {a wr w2 : World} {o : Obj} {e : TypeId} {z : Nat} {ad : Option Addr} {n c : Nat} {xs : List Value} (hb : Below B a wr) (hB : B ≤ wr.heap.size) (hown : wr.ownsRow B e z (.slice ad n c) n xs)
    (hg : (wr.alloc o).grownBy w2 (Value.slice ad n c).ownBlock) : Below B a w2 := by
  have h2 : Below B a (wr.alloc o) := hb.alloc hB o
  refine h2.grown hg (by simp; omega) fun j hj => ?_
  rcases hown.2 with ⟨hv, h0⟩ | ⟨g, cap, cur, hv, hB, rest⟩
  · rw [hv] at hj
    simp [Value.ownBlock] at hj
  · rw [hv] at hj
    simp [Value.ownBlock] at hj
    omega
set_option maxRecDepth 100000 in
set_option maxHeartbeats 8000000 in
theorem i_attrNames (D : Dc) (n b off cap : Nat) (sa : Option Addr) (c : Nat) (ms : List Nat) (w : World) (x : Nat) (hF : DcFacts D n) (hx : x < n) (hS : ScAt w D n b off cap sa c ms) :
    Calls Tryd.prog 39 #[.agg #[.slice (some ⟨b, off, none⟩) n cap, .slice sa n c], .int .i64 x] w (QAns (qn D x (D.AN x) (D.AC x)) w) := by
  obtain ⟨i0, hi, hz0, hz1, hz2⟩ := info_parts infoQ
  have hxn : (x : Int) < (n : Int) := by omega
  have hac := hF.2.2.2.2 x hx
  have HSZ := hide hac.2
  have hacx := hac.1
  have HOK := hide (hF.2.2.2.1 x hx).1
  have HXN : Hid ((x : Int).toNat = x) := hide (by omega)
  have HFF := hide hF
  have HS := hide hS
  have hbs := hS.1
  obtain ⟨adx, cpx, hcx, hatx, hlx⟩ := hS.2.1 x (by rw [hF.1]; exact hx)
  have HCX := hide hcx
  have HAX := hide hatx
  obtain ⟨m, hm⟩ : ∃ m, D.AC x = m := ⟨_, rfl⟩
  have HMM := hide hm
  rw [hm] at hacx HSZ HOK HAX hlx ⊢
  obtain ⟨c0, c1, c2, c3⟩ := hcx
  rw [hm] at c3
  have HC3 := hide c3
  clear hS hF hac hatx hm
  go_enter Tryd.func39, Tryd.ntmps39
  go_wp2
  go_loopw [6, 20] (fun v iv wr => ∃ (i : Nat) (L : QL) (ad : Option Addr) (c' : Nat), i ≤ m ∧ iv = .int .i64 i ∧ v = .slice ad L.length c' ∧ QjRel D x n b off cap sa c ms w wr i L ad c') (fun _ iv _ => m - (intOf iv).toNat)
  case atStart =>
    refine ⟨0, [], none, 0, Nat.zero_le _, rfl, rfl, rfl, ownQ_none _ _ _ _, Below.refl _ _, scAt_go HS.out ((Below.refl _ _).alloc (Nat.le_refl _) _)⟩
  case round =>
    obtain ⟨i, L, ad, c', hi9, rfl, rfl, hrel⟩ := hrel
    have HRL := hide hrel
    have hLi := qn_len i L hrel.1
    have hsz := qj_size hrel
    have HBw := hide (qj_below hrel)
    clear hrel
    by_cases hlt : i < m
    · obtain ⟨ba, oa, rfl, hba, hca⟩ := HAX.out (by omega)
      have a0 : wr.cell? ⟨ba, oa + i * 2, none⟩ = some (.string (D.AN x i)) := (HBw.out.cell hba).trans (hca i hlt).1
      have a1 : wr.cell? ⟨ba, oa + i * 2 + 1, none⟩ = some (.string (D.AV x i)) := (HBw.out.cell hba).trans (hca i hlt).2
      have hiI : (i : Int) < (m : Int) := by omega
      have hi00 : (0 : Int) ≤ (i : Int) := by omega
      have hnz := HSZ.out i hlt
      have HQ9 := hide (HOK.out i hlt)
      obtain ⟨N, hN⟩ : ∃ N, D.AN x i = N := ⟨_, rfl⟩
      obtain ⟨AV, hAV⟩ : ∃ AV, D.AV x i = AV := ⟨_, rfl⟩
      rw [hN] at a0 hnz HQ9
      rw [hAV] at a1
      have HN : Hid (D.AN (x : Int).toNat i = N) := hide (by rw [HXN.out]; exact hN)
      have CB := hide (fun w9 => i_bindsB N w9 hnz)
      have CA := hide (fun w9 h => i_attrName D n b off cap sa c ms w9 x N HFF.out hx hnz HQ9.out h)
      obtain ⟨V, hV⟩ : ∃ V, qsp D x N = V := ⟨_, rfl⟩
      obtain ⟨Lo, hLo⟩ : ∃ Lo, (spl N).2.1 = Lo := ⟨_, rfl⟩
      obtain ⟨K, hK⟩ : ∃ K, qok D x N = K := ⟨_, rfl⟩
      have HV := hide hV
      have HLo := hide hLo
      have HK := hide hK
      rw [hV, hLo, hK] at CA
      clear hca hN hAV hnz hV hLo hK
      go_wp2_with fail
      refine (CB.out _).mono ?_
      rintro e w2 ⟨pp, rfl, hb2⟩
      have HRL2 := hide (qj_go HRL.out (gBox_below hb2))
      have KA := hide (cellsAt_go (cellsAt_new wr #[.string N, .string AV] _) hb2 (by simp))
      clear hb2
      cases hsk : qsk N
      · have HSK : Hid (qsk (D.AN (x : Int).toNat i) = false) := hide (by rw [HN.out]; exact hsk)
        have k0 : w2.cell? ⟨wr.heap.size, 0, none⟩ = some (.string N) := cellsAt_cell KA.out 0
        have g0 : w2.cell? ⟨w.heap.size, 0, none⟩ = some (.slice (some ⟨b, off, none⟩) n cap) := cellsAt_cell (qj_box HRL2.out) 0
        have g1 : w2.cell? ⟨w.heap.size, 1, none⟩ = some (.slice sa n c) := cellsAt_cell (qj_box HRL2.out) 1
        go_wp2_with fail
        refine (CA.out _ HRL2.out.2.2.2).mono ?_
        rintro e w3 ⟨rfl, hb3⟩
        have HRL3 := hide (qj_go HRL2.out hb3)
        clear hb3 k0 g0 g1
        have HRL4 := hide (qj_go HRL3.out ((Below.refl w3.heap.size w3).alloc (Nat.le_refl _) (.cells #[.string V, .string Lo] 41)))
        have K4 := hide (cellsAt_new w3 #[.string V, .string Lo] 41)
        cases K
        · go_wp2
          go_ret2
          refine ⟨qj_below HRL4.out, .inl ⟨?_, rfl⟩⟩
          have h := qn_none (qn_bad HRL3.out.1 HSK.out (by rw [HN.out]; exact HK.out)) m (by omega)
          rw [HXN.out] at h
          exact h
        · have CH := hide (i_hasQ ad L.length c' (qA L) (qB L) V Lo (w3.alloc (.cells #[.string V, .string Lo] 41)) (by omega) (ownQ_at HRL4.out.2.1))
          obtain ⟨dp, hdp⟩ : ∃ dp, anyQ L.length (qA L) (qB L) V Lo = dp := ⟨_, rfl⟩
          rw [hdp] at CH
          have HDP : Hid (qdup L (qsp D x (D.AN (x : Int).toNat i)) (spl (D.AN (x : Int).toNat i)).2.1 = dp) := hide (by rw [HN.out, HV.out, HLo.out]; exact hdp)
          clear hdp
          go_wp2_with fail
          refine CH.out.mono ?_
          rintro e w5 ⟨rfl, hb5⟩
          have HRL5 := hide (qj_go HRL4.out hb5)
          have K5 := hide (cellsAt_go K4.out hb5 (by simp))
          have hsz5 := qj_size HRL5.out
          clear hb5
          cases dp
          · have k0 : w5.cell? ⟨w3.heap.size, 0, none⟩ = some (.string V) := cellsAt_cell K5.out 0
            have k1 : w5.cell? ⟨w3.heap.size, 1, none⟩ = some (.string Lo) := cellsAt_cell K5.out 1
            obtain ⟨xs, hox, hpx⟩ := HRL5.out.2.1
            have HOX := hide hox
            have HPX := hide hpx
            have HNE := hide (qn_put HRL5.out.1 HSK.out (by rw [HN.out]; exact HK.out) HDP.out)
            clear hox hpx
            go_wp2_with (first | (at_builtin; refine wpList_append_own _ rfl (.tmp 46) (.tmp 48) 37 rfl (w.heap.size + 1) 41 i0 (.agg #[.string ⟨#[]⟩, .string ⟨#[]⟩]) 2 32 Tryd.underlying37 hi hz0 hz1 hz2 rfl (by decide) _ _ _ rfl (HOX.out.alloc _) ⟨w5.heap.size, 0, none⟩ 1 1 [.string V, .string Lo] rfl rfl (fun j u hj => gTwo_new w5 _ _ _ j u hj) (gStr_two _ _) (by unfold maxLen; omega) (by omega) (by simp; omega) ?_; intro v2 w6 hown2 hgrow2 _; obtain ⟨ad2, c2', hv2⟩ := gOwn_shape hown2; rw [hv2] at hown2 ⊢; clear hv2; have HB6 := hide (gBelow_oneB HRL5.out.2.2.1 (qj_size HRL5.out) HOX.out hgrow2); have HG6 := hide hgrow2; have HO6 := hide hown2; clear hown2 hgrow2))
            go_roundw
            case rel =>
              refine ⟨i + 1, L ++ [(V, Lo)], ad2, c2', by omega, by go_num, by simp, ?_, ?_, HB6.out, ?_⟩
              · rw [HNE.out, HN.out, HV.out, HLo.out]
              · have h := own_put HPX.out HOX.out.1 rfl (V, Lo) HO6.out
                simpa using h
              · exact scAt_go HS.out (((Below.refl w.heap.size w).alloc (Nat.le_refl _) _).trans (HB6.out.mono (Nat.le_succ _)))
            case measure => simp [intOf]; omega
          · go_wp2
            go_ret2
            refine ⟨qj_below HRL5.out, .inl ⟨?_, rfl⟩⟩
            have h := qn_none (qn_dup HRL5.out.1 HSK.out (by rw [HN.out]; exact HK.out) HDP.out) m (by omega)
            rw [HXN.out] at h
            exact h
      · have HSK : Hid (qsk (D.AN (x : Int).toNat i) = true) := hide (by rw [HN.out]; exact hsk)
        go_wp2
        go_roundw
        case rel => exact ⟨i + 1, L, ad, c', by omega, by go_num, rfl, qn_skip HRL2.out.1 HSK.out, HRL2.out.2⟩
        case measure => simp [intOf]; omega
    · have him : i = m := by omega
      subst him
      go_wp2
      go_ret2
      refine ⟨HBw.out, .inr ⟨L, ad, c', ?_, rfl, ownQ_lower HRL.out.2.1 (Nat.le_succ _)⟩⟩
      have := HRL.out.1
      rw [HXN.out] at this
      exact this
end Go.Proofs.YtogeicckbdfldaaDoor

/-
  Contracts: AttrNames, the program's and the specification's; the walk of FnExactAttrNames.
-/
namespace Go.Proofs.YtogeicckbdfldaaDoor
open Go.RowKit Go.Joins Go.Maps
set_option linter.unusedVariables false
set_option linter.unusedSimpArgs false
def lst (o : Option QL) : QL := o.getD []
/-- An answer of names, told as a row and a flag. -/
def QTell (o : Option QL) (w : World) (e : Ending) (w' : World) : Prop := ∃ ad c, e = .returned (.tuple #[.slice ad (lst o).length c, .bool o.isSome]) ∧ OwnQ w.heap.size w' ad (lst o).length c (qA (lst o)) (qB (lst o)) ∧ Below w.heap.size w w'
theorem tell_of {o : Option QL} {w w' : World} {e : Ending} (h : QAns o w e w') : QTell o w e w' := by
  obtain ⟨hb, ⟨rfl, rfl⟩ | ⟨L, ad, c, rfl, rfl, ho⟩⟩ := h
  · exact ⟨none, 0, rfl, ownQ_none _ _ _ _, hb⟩
  · exact ⟨ad, c, rfl, ho, hb⟩
theorem qans_no {o : Option QL} {w w' : World} (h : o = none) (hb : Below w.heap.size w w') : QAns o w (.returned (.tuple #[.slice none 0 0, .bool false])) w' := ⟨hb, .inl ⟨h, rfl⟩⟩
theorem qans_up {o o' : Option QL} {w w1 w2 : World} {e : Ending} (h : QAns o w1 e w2) (hb : Below w.heap.size w w1) (ho : o' = o) : QAns o' w e w2 := by
  subst ho
  obtain ⟨hb2, ⟨h1, h2⟩ | ⟨L, ad, c, h1, h2, h3⟩⟩ := h
  · exact ⟨hb.trans (hb2.mono hb.size), .inl ⟨h1, h2⟩⟩
  · exact ⟨hb.trans (hb2.mono hb.size), .inr ⟨L, ad, c, h1, h2, ownQ_lower h3 hb.size⟩⟩
theorem dc_facts {D : Dc} (hd : docokB D = true) (hz : dcTot D ≤ 1048576) : DcFacts D D.n := by
  obtain ⟨⟨g1, g2⟩, -, -⟩ := docok_facts hd
  refine ⟨rfl, g2, docok_dec hd, attrs_ok hd, fun j hj => ?_⟩
  have h := (dc_sz hz).2 j hj
  exact ⟨by have := h.1; omega, fun i hi => (h.2 i hi).1⟩
theorem sumN_acQ {D : Dc} (h : dcTot D ≤ 1048576) : sumN D.AC D.n ≤ 1048576 := by
  unfold dcTot at h
  have h1 : ∀ m, sumN D.AC m ≤ sumN (itSz D) m := by
    intro m
    induction m with
    | zero => exact Nat.le_refl _
    | succ m ih =>
      show sumN D.AC m + D.AC m ≤ sumN (itSz D) m + itSz D m
      have : D.AC m ≤ itSz D m := by unfold itSz atTot; omega
      omega
  have := h1 D.n
  omega
def anQ (D : Dc) (x : Int) : Option QL := if hasB' D x = true then qn D x (D.AN x.toNat) (D.AC x.toNat) else none
theorem anQ_no {D : Dc} {x : Int} (h : hasB' D x = false) : anQ D x = none := by unfold anQ; rw [h]; rfl
theorem anQ_yes {D : Dc} {x : Int} (h : hasB' D x = true) : anQ D x = qn D x (D.AN x.toNat) (D.AC x.toNat) := by unfold anQ; rw [h]; rfl
theorem anQ_len {D : Dc} {x : Int} (hz : dcTot D ≤ 1048576) : (lst (anQ D x)).length ≤ 1048576 := by
  unfold lst anQ
  cases h : hasB' D x
  · exact Nat.zero_le _
  · rw [if_pos rfl]
    obtain ⟨hd, h0, h1⟩ := has_facts h
    cases hq : qn D x (D.AN x.toNat) (D.AC x.toNat) with
    | none => exact Nat.zero_le _
    | some L =>
      have h1' := qn_len _ L hq
      have h2 := ((dc_facts hd hz).2.2.2.2 x.toNat (by omega)).1
      show L.length ≤ _
      omega
set_option maxRecDepth 100000 in
set_option maxHeartbeats 4000000 in
theorem i_attrnames (D : Dc) (n : Nat) (a : Option Addr) (cap : Nat) (x : Int) (w : World) (hD : D.n = n) (hz : dcTot D ≤ 1048576) (hr : DcAt w a D w.heap.size) (hT : Tabs w) :
    Calls Tryd.prog 19 #[.slice a n cap, .int .i64 x] w (QAns (anQ D x) w) := by
  have HD := hide hD
  have HR := hide hr
  have HZ := hide hz
  have CH := hide (i_hasItem D n a cap x w hD hz hr hT)
  clear hr hD hz hT
  cases hh : hasB' D x
  · have HV := hide (anQ_no hh)
    rw [hh] at CH
    go_enter Tryd.func19, Tryd.ntmps19
    go_wp2_with (first | (go_at_call 26; refine CH.out.mono ?_; rintro e w1 ⟨rfl, hb1⟩; have HB := hide hb1; clear hb1))
    go_ret2
    exact qans_no HV.out HB.out
  · have HV := hide (anQ_yes hh)
    obtain ⟨hd, h0, h1⟩ := has_facts hh
    have HF := hide (dc_facts hd HZ.out)
    obtain ⟨⟨g1, g2⟩, -, -⟩ := docok_facts hd
    rw [HD.out] at g1 g2 HF h1
    rw [hh] at CH
    obtain ⟨b, off, rfl, hbs, hrow⟩ := HR.out (by rw [HD.out]; omega)
    have HRW := hide hrow
    clear hrow
    go_enter Tryd.func19, Tryd.ntmps19
    go_wp2_with fail
    refine CH.out.mono ?_
    rintro e w1 ⟨rfl, hb1⟩
    have hbw : b < w1.heap.size := Nat.lt_of_lt_of_le hbs hb1.size
    have hrow1 := dcRow_up (dcRow_go HRW.out hbs hb1) hb1.size
    have CS := hide (i_scopes D n b off cap w1 HD.out g2 hbw hrow1 HF.out.2.2.2.2)
    have HRW1 := hide hrow1
    have HB := hide hb1
    clear hb1 hrow1
    go_wp2_with fail
    refine CS.out.mono ?_
    rintro e w2 ⟨sa, c, ms, rfl, hml, ho, hms, hb2⟩
    have hx' : x = (x.toNat : Int) := by omega
    have CL : Hid (Calls Tryd.prog 39 #[.agg #[.slice (some ⟨b, off, none⟩) n cap, .slice sa n c], .int .i64 x] w2 (QAns (qn D x (D.AN x.toNat) (D.AC x.toNat)) w2)) := hide (by
      have h := i_attrNames D n b off cap sa c ms w2 x.toNat HF.out (by omega) ⟨Nat.lt_of_lt_of_le hbw hb2.size, dcRow_up (dcRow_go HRW1.out hbw hb2) hb2.size, hml, ⟨_, ho⟩, hms⟩
      rw [← hx'] at h
      exact h)
    have HB2 := hide (HB.out.trans (hb2.mono HB.out.size))
    clear hx' ho hms hb2
    go_wp2_with fail
    refine CL.out.mono ?_
    intro e w3 hq
    obtain ⟨hb3, ⟨h1, rfl⟩ | ⟨L, ad, c3, h1, rfl, ho⟩⟩ := hq
    · have HQ : Hid (QAns (anQ D x) w (.returned (.tuple #[.slice none 0 0, .bool false])) w3) := hide (qans_up ⟨hb3, .inl ⟨h1, rfl⟩⟩ HB2.out HV.out)
      clear hb3 h1
      go_wp2
      go_ret2
      exact HQ.out
    · have HQ : Hid (QAns (anQ D x) w (.returned (.tuple #[.slice ad L.length c3, .bool true])) w3) := hide (qans_up ⟨hb3, .inr ⟨L, ad, c3, h1, rfl, ho⟩⟩ HB2.out HV.out)
      clear hb3 h1 ho
      go_wp2
      go_ret2
      exact HQ.out
end Go.Proofs.YtogeicckbdfldaaDoor
