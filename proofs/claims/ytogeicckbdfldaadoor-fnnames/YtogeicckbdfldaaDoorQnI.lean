/-
  Contracts: the name of an element or attribute, and the names of an item's attributes, by the program.
-/
import Derived.Test.YtogeicckbdfldaaDoorQnS
import Derived.Test.YtogeicckbdfldaaDoorBnSd
namespace Go.Proofs.YtogeicckbdfldaaDoor
open Go.RowKit Go.Joins Go.Maps
set_option linter.unusedVariables false
set_option linter.unusedSimpArgs false
/-- The document, and the maps of what its items bind. -/
def ScAt (w : World) (D : Dc) (n b off cap : Nat) (sa : Option Addr) (c : Nat) (ms : List Nat) : Prop := b < w.heap.size ∧ DcRow w b off D w.heap.size ∧ ms.length = n ∧ (∃ B, w.ownsRow B MT 1 (.slice sa n c) n (ms.map fun b => Value.map (some b))) ∧ MapsAt w D ms
theorem scAt_go {w w2 : World} {D : Dc} {n b off cap : Nat} {sa : Option Addr} {c : Nat} {ms : List Nat} (h : ScAt w D n b off cap sa c ms) (hb : Below w.heap.size w w2) : ScAt w2 D n b off cap sa c ms := by
  obtain ⟨h1, h2, h3, ⟨B, h4⟩, h5⟩ := h
  exact ⟨Nat.lt_of_lt_of_le h1 hb.size, dcRow_up (dcRow_go h2 h1 hb) hb.size, h3, ⟨B, gOwn_after h4 hb⟩, fun j hj => map_below (h5 j hj) hb⟩
/-- What is known of a right document. -/
def DcFacts (D : Dc) (n : Nat) : Prop := D.n = n ∧ n ≤ 200 ∧ (∀ j, j < n → -1 ≤ D.U j ∧ D.U j < j) ∧ AttrsOk D n ∧ ∀ j, j < n → D.AC j ≤ 1048576 ∧ ∀ i, i < D.AC j → (D.AN j i).size ≤ 1048576
theorem i_splitB (s : ByteArray) (w : World) (hs : s.size ≤ 1048576) : Calls Tryd.prog 17 #[.string s] w fun e w' => e = .returned (.tuple #[.string (spl s).1, .string (spl s).2.1, .bool (spl s).2.2]) ∧ Below w.heap.size w w' := by
  refine (i_split s w hs).mono ?_
  rintro e w' ⟨rfl, q, rfl⟩
  exact ⟨rfl, ⟨rfl, rfl, rfl, Nat.le_refl _, fun _ _ => rfl⟩⟩
theorem i_bindsB (nm : ByteArray) (w : World) (hs : nm.size ≤ 1048576) : Calls Tryd.prog 61 #[.string nm] w fun e w' => ∃ p, e = .returned (.tuple #[.string p, .bool (qsk nm)]) ∧ Below w.heap.size w w' := by
  refine (i_binds nm w hs).mono ?_
  rintro e w' ⟨rfl, q, rfl⟩
  exact ⟨_, rfl, ⟨rfl, rfl, rfl, Nat.le_refl _, fun _ _ => rfl⟩⟩
section
variable {w w1 w2 : World} {o1 o2 : Obj}
theorem twoQ_below (h : Below ((w.alloc o1).alloc o2).heap.size ((w.alloc o1).alloc o2) w2) : Below w.heap.size w w2 := gBox_below (gBox_below h)
theorem below_2 : Below w.heap.size w ((w.alloc o1).alloc o2) := ((Below.refl _ _).alloc (Nat.le_refl _) _).alloc (by simp) _
end
theorem ret_q {a a' b b' : ByteArray} {k k' : Bool} (h1 : a' = a) (h2 : b' = b) (h3 : k' = k) : Ending.returned (.tuple #[.agg #[.string a, .string b], .bool k]) = .returned (.tuple #[.agg #[.string a', .string b'], .bool k']) := by rw [h1, h2, h3]
set_option maxRecDepth 100000 in
set_option maxHeartbeats 4000000 in
theorem i_nameOf (D : Dc) (n b off cap : Nat) (sa : Option Addr) (c : Nat) (ms : List Nat) (w : World) (x : Nat) (nm : ByteArray) (hF : DcFacts D n) (hx : x < n) (hnm : nm.size ≤ 1048576) (hne : nm.toList.isEmpty = false) (hS : ScAt w D n b off cap sa c ms) :
    Calls Tryd.prog 38 #[.agg #[.slice (some ⟨b, off, none⟩) n cap, .slice sa n c], .int .i64 x, .string nm] w fun e w' => e = .returned (.tuple #[.agg #[.string (bnV D x (spl nm).1), .string (spl nm).2.1], .bool (bnK D x (spl nm).1)]) ∧ Below w.heap.size w w' := by
  have hpz := (spl_sz nm).1
  have CS := hide (fun w9 => i_splitB nm w9 hnm)
  have CL : Hid (∀ w9, ScAt w9 D n b off cap sa c ms → Calls Tryd.prog 45 #[.agg #[.slice (some ⟨b, off, none⟩) n cap, .slice sa n c], .int .i64 x, .string (spl nm).1] w9 fun e w' => e = .returned (.tuple #[.string (bnV D x (spl nm).1), .bool (bnK D x (spl nm).1)]) ∧ Below w9.heap.size w9 w') := hide fun w9 h => by
    obtain ⟨h1, h2, h3, h4, h5⟩ := h
    exact i_look D n b off cap sa c ms w9 x _ hF.1 hF.2.1 hx h1 h2 hF.2.2.1 hF.2.2.2.1 (by omega) h3 h4 h5
  have HS := hide hS
  obtain ⟨P, hP⟩ : ∃ P, (spl nm).1 = P := ⟨_, rfl⟩
  obtain ⟨Lo, hLo⟩ : ∃ Lo, (spl nm).2.1 = Lo := ⟨_, rfl⟩
  rw [hP] at CL
  rw [hP, hLo] at CS ⊢
  obtain ⟨V, hV⟩ : ∃ V, bnV D x P = V := ⟨_, rfl⟩
  obtain ⟨K, hK⟩ : ∃ K, bnK D x P = K := ⟨_, rfl⟩
  rw [hV, hK] at CL ⊢
  clear hS hP hLo hV hK hpz hF
  go_enter Tryd.func38, Tryd.ntmps38
  go_wp2_with fail
  refine (CS.out _).mono ?_
  rintro e w2 ⟨rfl, hb2⟩
  have K1 := hide (cellsAt_go (cellsAt_go (cellsAt_new w #[.slice (some ⟨b, off, none⟩) n cap, .slice sa n c] 62) ((Below.refl (w.heap.size + 1) _).alloc (by simp) (.cells #[.string ⟨#[]⟩, .string ⟨#[]⟩] 41)) (by omega)) hb2 (by simp; omega))
  have K2 := hide (cellsAt_go (cellsAt_new (w.alloc (.cells #[.slice (some ⟨b, off, none⟩) n cap, .slice sa n c] 62)) #[.string ⟨#[]⟩, .string ⟨#[]⟩] 41) hb2 (by simp))
  have HB2 := hide (twoQ_below hb2)
  have HS2 := hide (scAt_go HS.out HB2.out)
  have k0 : w2.cell? ⟨w.heap.size, 0, none⟩ = some (.slice (some ⟨b, off, none⟩) n cap) := cellsAt_cell K1.out 0
  have k1 : w2.cell? ⟨w.heap.size, 1, none⟩ = some (.slice sa n c) := cellsAt_cell K1.out 1
  clear hb2
  go_wp2_with fail
  refine (CL.out _ HS2.out).mono ?_
  rintro e w3 ⟨rfl, hb3⟩
  have K3 := hide (cellsAt_go K2.out hb3 (cellsAt_lt K2.out))
  have HB3 := hide (HB2.out.trans (hb3.mono HB2.out.size))
  have hsz : (w.alloc (.cells #[.slice (some ⟨b, off, none⟩) n cap, .slice sa n c] 62)).heap.size = w.heap.size + 1 := by simp
  rw [hsz] at K3
  have a0 : w3.cell? ⟨w.heap.size + 1, 0, none⟩ = some (.string ⟨#[]⟩) := cellsAt_cell K3.out 0
  have a1 : w3.cell? ⟨w.heap.size + 1, 1, none⟩ = some (.string ⟨#[]⟩) := cellsAt_cell K3.out 1
  have f0 := cellsAt_frozen K3.out
  clear hb3 k0 k1 hsz
  go_wp2
  have hk := cellsAt_set (i := 1) (cellsAt_set (i := 0) K3.out (.string V)) (.string Lo)
  have q0 := cellsAt_cell hk 0
  have q1 := cellsAt_cell hk 1
  refine bodyPost_ret (v := .tuple #[.agg #[.string V, .string Lo], .bool K]) (by simp [results, Tryd.results38, go_sem, q0, q1]) rfl ⟨rfl, (HB3.out.setCell (p := ⟨w.heap.size + 1, 0, none⟩) (Nat.le_succ _) _).setCell (p := ⟨w.heap.size + 1, 1, none⟩) (Nat.le_succ _) _⟩
theorem i_nameOf0 (l s x : Value) (nm : ByteArray) (w : World) (hne : nm.toList.isEmpty = true) (hx : ∃ z, x = .int .i64 z) (hl : ∃ a n c, l = .slice a n c) (hs : ∃ a n c, s = .slice a n c) :
    Calls Tryd.prog 38 #[.agg #[l, s], x, .string nm] w fun e w' => e = .returned (.tuple #[.agg #[.string ⟨#[]⟩, .string ⟨#[]⟩], .bool true]) ∧ Below w.heap.size w w' := by
  obtain ⟨z, rfl⟩ := hx
  obtain ⟨a, n, c, rfl⟩ := hl
  obtain ⟨a', n', c', rfl⟩ := hs
  go_enter Tryd.func38, Tryd.ntmps38
  go_wp2
  refine bodyPost_ret (v := .tuple #[.agg #[.string ⟨#[]⟩, .string ⟨#[]⟩], .bool true]) (by simp [results, Tryd.results38, go_sem]) rfl ⟨rfl, below_2⟩
set_option maxRecDepth 100000 in
set_option maxHeartbeats 4000000 in
theorem i_attrName (D : Dc) (n b off cap : Nat) (sa : Option Addr) (c : Nat) (ms : List Nat) (w : World) (x : Nat) (nm : ByteArray) (hF : DcFacts D n) (hx : x < n) (hnm : nm.size ≤ 1048576) (hq : (spl nm).2.2 = true) (hS : ScAt w D n b off cap sa c ms) :
    Calls Tryd.prog 62 #[.agg #[.slice (some ⟨b, off, none⟩) n cap, .slice sa n c], .int .i64 x, .string nm] w fun e w' => e = .returned (.tuple #[.agg #[.string (qsp D x nm), .string (spl nm).2.1], .bool (qok D x nm)]) ∧ Below w.heap.size w w' := by
  have CS := hide (fun w9 => i_splitB nm w9 hnm)
  have HS := hide hS
  cases f2 : (spl nm).1.toList.isEmpty
  · have hne : nm.toList.isEmpty = false := by
      cases he : nm.toList.isEmpty
      · rfl
      · have e : nm = ⟨#[]⟩ := by
          rw [List.isEmpty_iff, ByteArray.toList_eq] at he
          exact ByteArray.ext (Array.ext' he)
        subst e
        have hc : colon ⟨#[]⟩ = -1 := rfl
        rw [spl_b hc (nameB_none _ rfl)] at hq
        cases hq
    have CN := hide (fun w9 h => i_nameOf D n b off cap sa c ms w9 x nm hF hx hnm hne h)
    have HV : Hid (bnV D x (spl nm).1 = qsp D x nm ∧ bnK D x (spl nm).1 = qok D x nm) := hide (by unfold qsp qok; rw [f2, if_neg (by decide)]; exact ⟨rfl, rfl⟩)
    rw [HV.out.1, HV.out.2] at CN
    obtain ⟨P, hP⟩ : ∃ P, (spl nm).1 = P := ⟨_, rfl⟩
    obtain ⟨Lo, hLo⟩ : ∃ Lo, (spl nm).2.1 = Lo := ⟨_, rfl⟩
    rw [hP] at f2
    rw [hLo] at CN
    rw [hP, hLo] at CS
    rw [hLo]
    obtain ⟨V, hV⟩ : ∃ V, qsp D x nm = V := ⟨_, rfl⟩
    obtain ⟨K, hK⟩ : ∃ K, qok D x nm = K := ⟨_, rfl⟩
    rw [hV, hK] at CN ⊢
    clear hS hP hLo hV hK hF HV hq
    go_enter Tryd.func62, Tryd.ntmps62
    go_wp2_with fail
    refine (CS.out _).mono ?_
    rintro e w2 ⟨rfl, hb2⟩
    have K1 := hide (cellsAt_go (cellsAt_go (cellsAt_new w #[.slice (some ⟨b, off, none⟩) n cap, .slice sa n c] 62) ((Below.refl (w.heap.size + 1) _).alloc (by simp) (.cells #[.string ⟨#[]⟩, .string ⟨#[]⟩] 41)) (by omega)) hb2 (by simp; omega))
    have K2 := hide (cellsAt_go (cellsAt_new (w.alloc (.cells #[.slice (some ⟨b, off, none⟩) n cap, .slice sa n c] 62)) #[.string ⟨#[]⟩, .string ⟨#[]⟩] 41) hb2 (by simp))
    have HB2 := hide (twoQ_below hb2)
    have HS2 := hide (scAt_go HS.out HB2.out)
    have k0 : w2.cell? ⟨w.heap.size, 0, none⟩ = some (.slice (some ⟨b, off, none⟩) n cap) := cellsAt_cell K1.out 0
    have k1 : w2.cell? ⟨w.heap.size, 1, none⟩ = some (.slice sa n c) := cellsAt_cell K1.out 1
    clear hb2
    go_wp2_with fail
    refine (CN.out _ HS2.out).mono ?_
    rintro e w3 ⟨rfl, hb3⟩
    have K3 := hide (cellsAt_go K2.out hb3 (cellsAt_lt K2.out))
    have HB3 := hide (HB2.out.trans (hb3.mono HB2.out.size))
    have hsz : (w.alloc (.cells #[.slice (some ⟨b, off, none⟩) n cap, .slice sa n c] 62)).heap.size = w.heap.size + 1 := by simp
    rw [hsz] at K3
    have a0 : w3.cell? ⟨w.heap.size + 1, 0, none⟩ = some (.string ⟨#[]⟩) := cellsAt_cell K3.out 0
    have a1 : w3.cell? ⟨w.heap.size + 1, 1, none⟩ = some (.string ⟨#[]⟩) := cellsAt_cell K3.out 1
    have f0 := cellsAt_frozen K3.out
    clear hb3 k0 k1 hsz
    go_wp2
    have hk := cellsAt_set (i := 1) (cellsAt_set (i := 0) K3.out (.string V)) (.string Lo)
    have q0 := cellsAt_cell hk 0
    have q1 := cellsAt_cell hk 1
    refine bodyPost_ret (v := .tuple #[.agg #[.string V, .string Lo], .bool K]) (by simp [results, Tryd.results62, go_sem, q0, q1]) rfl ⟨rfl, (HB3.out.setCell (p := ⟨w.heap.size + 1, 0, none⟩) (Nat.le_succ _) _).setCell (p := ⟨w.heap.size + 1, 1, none⟩) (Nat.le_succ _) _⟩
  · have HV : Hid (qsp D x nm = ⟨#[]⟩ ∧ qok D x nm = true) := hide (by unfold qsp qok; rw [f2, if_pos rfl]; exact ⟨rfl, rfl⟩)
    rw [HV.out.1, HV.out.2]
    obtain ⟨P, hP⟩ : ∃ P, (spl nm).1 = P := ⟨_, rfl⟩
    obtain ⟨Lo, hLo⟩ : ∃ Lo, (spl nm).2.1 = Lo := ⟨_, rfl⟩
    rw [hP] at f2
    rw [hP, hLo] at CS
    rw [hLo]
    clear hS hP hLo hF HV hq
    go_enter Tryd.func62, Tryd.ntmps62
    go_wp2_with fail
    refine (CS.out _).mono ?_
    rintro e w2 ⟨rfl, hb2⟩
    have K2 := hide (cellsAt_go (cellsAt_new (w.alloc (.cells #[.slice (some ⟨b, off, none⟩) n cap, .slice sa n c] 62)) #[.string ⟨#[]⟩, .string ⟨#[]⟩] 41) hb2 (by simp))
    have HB2 := hide (twoQ_below hb2)
    have hsz : (w.alloc (.cells #[.slice (some ⟨b, off, none⟩) n cap, .slice sa n c] 62)).heap.size = w.heap.size + 1 := by simp
    rw [hsz] at K2
    have a0 : w2.cell? ⟨w.heap.size + 1, 0, none⟩ = some (.string ⟨#[]⟩) := cellsAt_cell K2.out 0
    have a1 : w2.cell? ⟨w.heap.size + 1, 1, none⟩ = some (.string ⟨#[]⟩) := cellsAt_cell K2.out 1
    have f0 := cellsAt_frozen K2.out
    clear hb2 hsz
    go_wp2
    have hk := cellsAt_set (i := 1) (cellsAt_set (i := 0) K2.out (.string ⟨#[]⟩)) (.string Lo)
    have q0 := cellsAt_cell hk 0
    have q1 := cellsAt_cell hk 1
    refine bodyPost_ret (v := .tuple #[.agg #[.string ⟨#[]⟩, .string Lo], .bool true]) (by simp [results, Tryd.results62, go_sem, q0, q1]) rfl ⟨rfl, (HB2.out.setCell (p := ⟨w.heap.size + 1, 0, none⟩) (Nat.le_succ _) _).setCell (p := ⟨w.heap.size + 1, 1, none⟩) (Nat.le_succ _) _⟩
end Go.Proofs.YtogeicckbdfldaaDoor
