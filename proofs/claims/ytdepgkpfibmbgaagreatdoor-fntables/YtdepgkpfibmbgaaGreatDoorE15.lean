/-
  Texts put together: DocAt2, DrGrow0.
-/
import Derived.Test.YtdepgkpfibmbgaaGreatDoorE11
import Derived.Test.YtdepgkpfibmbgaaGreatDoorE14
import Derived.Deep.DeepCutAuto
import Derived.Test.YtdepgkpfibmbgaaGreatDoorE10
import Derived.Deep.RegionLaw
import Derived.Deep.AppendLies
/-
  Contracts: names with a prefix or without; rows of attributes, by the specification and by the program.
-/
namespace Go.Proofs.YtdepgkpfibmbgaaGreatDoor
open Go.RowKit Go.Joins
set_option linter.unusedVariables false
set_option linter.unusedSimpArgs false
theorem drewN_below (w : World) (q : Nat) : Below w.heap.size w (w.drewN q) := by
  induction q with
  | zero => exact Below.refl _ _
  | succ q ih => exact ih.drew
theorem tabs_below {w w' : World} (h : Tabs w) (hb : Below w.heap.size w w') : Tabs w' := by
  refine ⟨fun c hc => ?_, fun i hi => ⟨?_, ?_⟩⟩
  · exact (hb.cell (p := ⟨_, c, none⟩) (World.block_lt_of_cell? w _ (h.1 c hc))).trans (h.1 c hc)
  · exact (hb.cell (p := ⟨_, 2 * i, none⟩) (World.block_lt_of_cell? w _ (h.2 i hi).1)).trans (h.2 i hi).1
  · exact (hb.cell (p := ⟨_, 2 * i + 1, none⟩) (World.block_lt_of_cell? w _ (h.2 i hi).2)).trans (h.2 i hi).2
def qualB (s : ByteArray) : Bool := (spl s).2.2
theorem s_qual (s : ByteArray) (w : World) (hs : s.size ≤ 1048576) : Calls Tryz.prog 43 #[.string s] w fun e w' => e = .returned (.bool (qualB s)) ∧ ∃ q, w' = w.drewN q := by
  obtain ⟨x, hx⟩ : ∃ x, (spl s).1 = x := ⟨_, rfl⟩
  obtain ⟨y, hy⟩ : ∃ x, (spl s).2.1 = x := ⟨_, rfl⟩
  obtain ⟨z, hz⟩ : ∃ x, (spl s).2.2 = x := ⟨_, rfl⟩
  have HC := hide (s_split s w hs)
  rw [hx, hy, hz] at HC
  have HZ : Hid (qualB s = z) := hide hz
  clear hx hy hz
  go_enter Tryz.func43, Tryz.ntmps43
  go_wp2_with (go_at_call 77; refine HC.out.mono ?_; rintro e w' ⟨rfl, q, rfl⟩)
  go_ret
  exact ⟨ret_bool HZ.out.symm, _, rfl⟩
theorem i_qual (s : ByteArray) (w : World) (hs : s.size ≤ 1048576) : Calls Tryz.prog 103 #[.string s] w fun e w' => e = .returned (.bool (qualB s)) ∧ ∃ q, w' = w.drewN q := by
  obtain ⟨x, hx⟩ : ∃ x, (spl s).1 = x := ⟨_, rfl⟩
  obtain ⟨y, hy⟩ : ∃ x, (spl s).2.1 = x := ⟨_, rfl⟩
  obtain ⟨z, hz⟩ : ∃ x, (spl s).2.2 = x := ⟨_, rfl⟩
  have HC := hide (i_split s w hs)
  rw [hx, hy, hz] at HC
  have HZ : Hid (qualB s = z) := hide hz
  clear hx hy hz
  go_enter Tryz.func103, Tryz.ntmps103
  go_wp2_with (go_at_call 139; refine HC.out.mono ?_; rintro e w' ⟨rfl, q, rfl⟩)
  go_ret
  exact ⟨ret_bool HZ.out.symm, _, rfl⟩
/-- One attribute is right behind those ahead of it. -/
def atB (N V : Nat → ByteArray) (j : Nat) : Bool := qualB (N j) && (plainB (V j) && !(anyS j N (N j)))
def attrsB (n : Nat) (N V : Nat → ByteArray) : Bool := decide (n ≤ 10) && (List.range n).all (atB N V)
theorem attrsB_long {n : Nat} {N V : Nat → ByteArray} (h : 10 < n) : attrsB n N V = false := by unfold attrsB; rw [decide_eq_false (by omega)]; rfl
theorem attrsB_no {n k : Nat} {N V : Nat → ByteArray} (hk : k < n) (h : atB N V k = false) : attrsB n N V = false := by
  have : (List.range n).all (atB N V) = false := by
    rw [List.all_eq_false]
    exact ⟨k, by simpa using hk, by simp [h]⟩
  unfold attrsB
  rw [this]
  simp
theorem attrsB_yes {n : Nat} {N V : Nat → ByteArray} (hn : n ≤ 10) (h : ∀ k, k < n → atB N V k = true) : attrsB n N V = true := by
  have : (List.range n).all (atB N V) = true := by
    rw [List.all_eq_true]
    intro j hj
    exact h j (by simpa using hj)
  unfold attrsB
  rw [this, decide_eq_true hn]
  rfl
set_option maxRecDepth 100000 in
set_option maxHeartbeats 4000000 in
theorem s_attrs (a : Option Addr) (n c : Nat) (N V : Nat → ByteArray) (w : World) (hn : n ≤ 1048576) (hs : ∀ j, j < n → (N j).size ≤ 1048576 ∧ (V j).size ≤ 1048576) (hr : AtAt w a n N V w.heap.size) :
    Calls Tryz.prog 44 #[.slice a n c] w fun e w' => e = .returned (.bool (attrsB n N V)) ∧ Below w.heap.size w w' := by
  have HS := hide hs
  have HR := hide hr
  clear hr hs
  by_cases h10 : n ≤ 10
  · have h10' : (n : Int) ≤ 10 := by omega
    go_enter Tryz.func44, Tryz.ntmps44
    go_wp2
    go_loopw [3] (fun i wr => ∃ k : Nat, k ≤ n ∧ i = .int .i64 k ∧ Below w.heap.size w wr ∧ Hid (∀ j, j < k → atB N V j = true)) (fun i _ => n - (intOf i).toNat)
    case atStart => exact ⟨0, Nat.zero_le _, rfl, Below.refl _ _, fun j h => by omega⟩
    case round =>
      obtain ⟨k, hk, rfl, hb, HM⟩ := hrel
      by_cases hlt : k < n
      · obtain ⟨b, off, rfl, hbs, hc⟩ := HR.out (by omega)
        have HCC : Hid (∀ (w2 : World), Below w.heap.size w w2 → ∀ j, j < n → w2.cell? ⟨b, off + j * 2, none⟩ = some (.string (N j)) ∧ w2.cell? ⟨b, off + j * 2 + 1, none⟩ = some (.string (V j))) := hide (fun w2 h j hj => ⟨(h.cell (p := ⟨b, off + j * 2, none⟩) hbs).trans (hc j hj).1, (h.cell (p := ⟨b, off + j * 2 + 1, none⟩) hbs).trans (hc j hj).2⟩)
        obtain ⟨c0, c1⟩ := HCC.out wr hb k hlt
        obtain ⟨s0, s1⟩ := HS.out k hlt
        have HS0 := hide s0
        have HS1 := hide s1
        have HB := hide hb
        have hi : (k : Int) < (n : Int) := by omega
        clear hc hb s0 s1
        cases hq : qualB (N k)
        · have hv := hide (attrsB_no (N := N) (V := V) hlt (by unfold atB; rw [hq]; rfl))
          go_wp2_with (go_at_call 43; refine (s_qual _ _ HS0.out).mono ?_; rintro e w2 ⟨rfl, q, rfl⟩; rw [hq])
          go_ret
          exact ⟨ret_bool hv.out.symm, HB.out.trans ((drewN_below _ _).mono HB.out.size)⟩
        · cases hp : plainB (V k)
          · have hv := hide (attrsB_no (N := N) (V := V) hlt (by unfold atB; rw [hq, hp]; rfl))
            go_wp2_with (first | (go_at_call 43; refine (s_qual _ _ HS0.out).mono ?_; rintro e w2 ⟨rfl, q, rfl⟩; rw [hq]) | (go_at_call 42; refine (s_text _ _ HS1.out).mono ?_; rintro e w3 ⟨rfl, hb3⟩; rw [hp]; have HB3 := hide ((HB.out.trans ((drewN_below _ _).mono HB.out.size)).trans (hb3.mono HB.out.size)); clear hb3))
            go_ret
            exact ⟨ret_bool hv.out.symm, HB3.out⟩
          · go_wp2_with (first | (go_at_call 43; refine (s_qual _ _ HS0.out).mono ?_; rintro e w2 ⟨rfl, q, rfl⟩; rw [hq]) | (go_at_call 42; refine (s_text _ _ HS1.out).mono ?_; rintro e w3 ⟨rfl, hb3⟩; rw [hp]; have HB3 := hide ((HB.out.trans ((drewN_below _ _).mono HB.out.size)).trans (hb3.mono HB.out.size)); clear hb3))
            clear c0 c1
            go_loopw [4] (fun i w4 => ∃ m : Nat, m ≤ k ∧ i = .int .i64 m ∧ Below w.heap.size w w4 ∧ Hid (∀ j, j < m → ((N j).toList == (N k).toList) = false)) (fun i _ => k - (intOf i).toNat)
            case atStart => exact ⟨0, Nat.zero_le _, rfl, HB3.out, fun j h => by omega⟩
            case round =>
              obtain ⟨m, hm, rfl, hb4, HM4⟩ := hrel
              by_cases hlt4 : m < k
              · obtain ⟨c0, c1⟩ := HCC.out _ hb4 k hlt
                obtain ⟨d0, d1⟩ := HCC.out _ hb4 m (by omega)
                have HB4 := hide hb4
                have hi4 : (m : Int) < (n : Int) := by omega
                have hi5 : (m : Int) < (k : Int) := by omega
                clear hb4
                cases he : ((N m).toList == (N k).toList)
                · go_wp2
                  go_big_quiet (fail)
                  go_wp2
                  go_roundw
                  case rel =>
                    refine ⟨m + 1, by omega, by go_num, HB4.out.trans ((drewN_below _ _).mono HB4.out.size), fun j hj => ?_⟩
                    by_cases e : j = m
                    · subst e; exact he
                    · exact HM4.out j (by omega)
                  case measure => simp [intOf]; omega
                · have hv := hide (attrsB_no (N := N) (V := V) hlt (by unfold atB; rw [hq, hp, anyS_hit hlt4 he]; rfl))
                  go_wp2
                  go_big_quiet (fail)
                  go_wp2
                  go_ret
                  exact ⟨ret_bool hv.out.symm, HB4.out.trans ((drewN_below _ _).mono HB4.out.size)⟩
              · have hkm : m = k := by omega
                subst hkm
                have hat : atB N V m = true := by unfold atB; rw [hq, hp, anyS_no HM4.out]; rfl
                have HB4 := hide hb4
                clear hb4
                go_wp2
                go_roundw
                case rel =>
                  refine ⟨m + 1, by omega, by go_num, HB4.out, fun j hj => ?_⟩
                  by_cases e : j = m
                  · subst e; exact hat
                  · exact HM.out j (by omega)
                case measure => simp [intOf]; omega
      · have hkn : k = n := by omega
        subst hkn
        go_wp2
        go_ret
        exact ⟨ret_bool (attrsB_yes h10 HM.out).symm, hb⟩
  · have h10' : (10 : Int) < (n : Int) := by omega
    have hv := hide (attrsB_long (N := N) (V := V) (by omega : 10 < n))
    go_enter Tryz.func44, Tryz.ntmps44
    go_wp2
    go_ret
    exact ⟨ret_bool hv.out.symm, Below.refl _ _⟩
end Go.Proofs.YtdepgkpfibmbgaaGreatDoor

/-
  Contract: a drawn document grows: whatever the code is, a row of items of its own, not too long, each with few attributes.
-/
namespace Go.Proofs.YtdepgkpfibmbgaaGreatDoor
open Go.RowKit Go.Joins
set_option linter.unusedVariables false
set_option linter.unusedSimpArgs false
theorem infoIt : (Tryz.prog.info? IT).map (fun i => (i.zero, i.size, i.bytes)) = some (some (.agg #[.int .i64 0, .string ⟨#[]⟩, .string ⟨#[]⟩, .slice none 0 0]), 4, 64) := by kernel_rfl
theorem infoAt : (Tryz.prog.info? AT).map (fun i => (i.zero, i.size, i.bytes)) = some (some (.agg #[.string ⟨#[]⟩, .string ⟨#[]⟩]), 2, 32) := by kernel_rfl
theorem gFour_new (w : World) (x y z u : Value) (T : TypeId) (j : Nat) (v : Value) (hj : [x, y, z, u][j]? = some v) : (w.alloc (.cells #[x, y, z, u] T)).cell? ((⟨w.heap.size, 0, none⟩ : Addr).add j) = some v := by
  match j, hj with
  | 0, hj => simp at hj; subst hj; simp [Addr.add]
  | 1, hj => simp at hj; subst hj; simp [Addr.add]
  | 2, hj => simp at hj; subst hj; simp [Addr.add]
  | 3, hj => simp at hj; subst hj; simp [Addr.add]
theorem gItem_list (u : Int) (x y : ByteArray) (a : Option Addr) (n c : Nat) : ∀ v ∈ [Value.int .i64 u, Value.string x, Value.string y, Value.slice a n c], v.oneCell' = true := by
  intro v hv
  simp at hv
  rcases hv with rfl | rfl | rfl | rfl <;> rfl
def cD : Nat → Nat
  | 0 => 3
  | d + 1 => 3 * (1 + cD d)
theorem grown_below {w w' : World} (h : Below w.heap.size w w') : w.grownBy w' none := ⟨h.os, h.tape, h.output, h.size, fun k hk _ => h.block k hk⟩
/-- While the document grows. -/
def GS (G : Nat) (a : Option Addr) (n cap : Nat) (zs : List Int) (w0 w : World) (ad : Option Addr) (m c : Nat) (D : Dc) : Prop := RdAt w G a n cap zs ∧ DrIt (G + 1) w ad m c D ∧ Below G w0 w ∧ KeepA w0 w
section
variable {G : Nat} {a : Option Addr} {n cap : Nat} {zs : List Int} {w0 w w1 w2 : World} {ad ad2 : Option Addr} {m c c2 : Nat} {D : Dc}
theorem gs_size (h : GS G a n cap zs w0 w ad m c D) : G < w.heap.size := rd_lt h.1
theorem gs_ne (h : GS G a n cap zs w0 w ad m c D) : (Value.slice ad m c).ownBlock ≠ some G := fun e => by have := drIt_lt h.2.1 G e; omega
theorem gs_drew (h : GS G a n cap zs w0 w ad m c D) (hd : Drew G a n cap zs w w1) : GS G a n cap zs w0 w1 ad m c D :=
  ⟨hd.1, drIt_kept h.2.1 hd.2 (fun k hk => by cases hk; exact gs_ne h) (keepA_drew (keepA_refl w) h.1 hd), below_drew h.2.2.1 hd (Nat.le_of_lt (gs_size h)), keepA_drew h.2.2.2 h.1 hd⟩
theorem gs_below (h : GS G a n cap zs w0 w ad m c D) (hb : Below w.heap.size w w1) : GS G a n cap zs w0 w1 ad m c D :=
  ⟨rd_grown h.1 (grown_below hb) (fun k hk => by cases hk), drIt_below h.2.1 hb, h.2.2.1.trans (hb.mono (Nat.le_of_lt (gs_size h))), keepA_below h.2.2.2 hb⟩
theorem gs_alloc (h : GS G a n cap zs w0 w ad m c D) (o : Obj) : GS G a n cap zs w0 (w.alloc o) ad m c D := gs_below h ((Below.refl _ _).alloc (Nat.le_refl _) o)
/-- One item more. -/
theorem gs_put {xs : List Value} {o : Obj} {u : Int} {nm tx : ByteArray} {aa : Option Addr} {ac cp : Nat} {an av : Nat → ByteArray} (hrd : RdAt w G a n cap zs) (hown : w.ownsRow (G + 1) IT 4 (.slice ad m c) m xs) (hits : Its w xs m D) (hbel : Below G w0 w) (hkeep : KeepA w0 w)
    (ho2 : w2.ownsRow (G + 1) IT 4 (.slice ad2 (m + 1) c2) (m + 1) (xs ++ [.int .i64 u, .string nm, .string tx, .slice aa ac cp])) (hg : (w.alloc o).grownBy w2 (Value.slice ad m c).ownBlock)
    (ha : AtD w aa ac an av) (hc : ac ≤ cp) (h1 : nm.size ≤ 8) (h2 : tx.size ≤ 8) (h3 : ac ≤ 8) (h4 : ∀ k, k < ac → (an k).size ≤ 8 ∧ (av k).size ≤ 8) : GS G a n cap zs w0 w2 ad2 (m + 1) c2 (D.put u nm tx ac an av) := by
  have hlt := rd_lt hrd
  have hgt : ∀ k, (Value.slice ad m c).ownBlock = some k → G < k := fun k hk => by have := hown.lt k hk; omega
  have hal : Below w.heap.size w (w.alloc o) := (Below.refl _ _).alloc (Nat.le_refl _) o
  have hk1 : KeepA w w2 := keepA_own (keepA_below (keepA_refl w) hal) (hown.alloc o) hg
  refine ⟨rd_grown (rd_alloc hrd o) hg hgt, ⟨_, ho2, its_put (its_keep hits hk1) hown.1 u nm tx aa ac cp an av (atD_keep ha hk1) hc h1 h2 h3 h4⟩, ?_, keepA_trans hkeep hk1⟩
  have hb2 : Below G w0 (w.alloc o) := hbel.alloc (Nat.le_of_lt hlt) o
  exact hb2.grown hg (by simp; omega) (fun k hk => Nat.le_of_lt (hgt k hk))
end
/-- While an item gets its attributes: it lies in block X, the last of wX. -/
def XS (G : Nat) (a : Option Addr) (n cap : Nat) (zs : List Int) (w0 wX w : World) (ad : Option Addr) (m c : Nat) (D : Dc) (X : Nat) (up : Int) (nm : ByteArray) (sa : Option Addr) (ka ca : Nat) (N V : Nat → ByteArray) : Prop :=
  RdAt w G a n cap zs ∧ (∃ xs, w.ownsRow (G + 1) IT 4 (.slice ad m c) m xs ∧ Its wX xs m D) ∧ Below G w0 w ∧ KeepA wX w ∧ w.heap[X]? = some (.cells #[.int .i64 up, .string nm, .string ⟨#[]⟩, .slice sa ka ca] IT (0, 0)) ∧
    (∃ ys, w.ownsRow (X + 1) AT 2 (.slice sa ka ca) ka ys ∧ PairsS ys ka N V) ∧ (∀ k, k < ka → (N k).size ≤ 8 ∧ (V k).size ≤ 8) ∧ (G < X ∧ wX.heap.size = X + 1 ∧ KeepA w0 wX ∧ ∀ k, (Value.slice ad m c).ownBlock = some k → k < X)
section
variable {G : Nat} {a : Option Addr} {n cap : Nat} {zs : List Int} {w0 wX w w1 w2 : World} {ad : Option Addr} {m c : Nat} {D : Dc} {X : Nat} {up : Int} {nm : ByteArray} {sa : Option Addr} {ka ca : Nat} {N V : Nat → ByteArray}
theorem xs_step {row : Option Nat} (h : XS G a n cap zs w0 wX w ad m c D X up nm sa ka ca N V) (hr : RdAt w1 G a n cap zs) (hg : w.grownBy w1 row) (hrow : ∀ k, row = some k → k = G) : XS G a n cap zs w0 wX w1 ad m c D X up nm sa ka ca N V := by
  obtain ⟨h1, ⟨xs, h2, h2'⟩, h3, h4, h5, ⟨ys, h6, h6'⟩, h7, h8, h9, h10, h11⟩ := h
  have hlt := (Array.getElem?_eq_some_iff.1 h5).1
  refine ⟨hr, ⟨xs, h2.kept hg ?_, h2'⟩, ?_, ?_, ?_, ⟨ys, h6.kept hg ?_, h6'⟩, h7, h8, h9, h10, h11⟩
  · cases hv : (Value.slice ad m c).ownBlock with
    | none => exact .inl rfl
    | some k => exact .inr fun e => by have e1 := hrow k e.symm; have := h2.lt k hv; omega
  · exact h3.grown hg (Nat.le_of_lt (rd_lt h1)) (fun k hk => by have := hrow k hk; omega)
  · refine keepA_step h4 hg fun k hk => ?_
    have e := hrow k hk
    subst e
    obtain ⟨⟨p, -, hG⟩, -⟩ := h1
    exact .inr ⟨_, _, _, hG, by decide⟩
  · rw [hg.block X hlt (fun e => by have := hrow X e.symm; omega)]; exact h5
  · cases hv : (Value.slice sa ka ca).ownBlock with
    | none => exact .inl rfl
    | some k => exact .inr fun e => by have e1 := hrow k e.symm; have := h6.lt k hv; omega
theorem xs_drew (h : XS G a n cap zs w0 wX w ad m c D X up nm sa ka ca N V) (hd : Drew G a n cap zs w w1) : XS G a n cap zs w0 wX w1 ad m c D X up nm sa ka ca N V := xs_step h hd.1 hd.2 (fun k hk => by cases hk; rfl)
theorem xs_below (h : XS G a n cap zs w0 wX w ad m c D X up nm sa ka ca N V) (hb : Below w.heap.size w w1) : XS G a n cap zs w0 wX w1 ad m c D X up nm sa ka ca N V :=
  xs_step (row := none) h (rd_grown h.1 (grown_below hb) (fun k hk => by cases hk)) (grown_below hb) (fun k hk => by cases hk)
theorem xs_dr (h : XS G a n cap zs w0 wX w ad m c D X up nm sa ka ca N V) : XS G a n cap zs w0 wX w.drew ad m c D X up nm sa ka ca N V := xs_below h ⟨rfl, rfl, rfl, Nat.le_refl _, fun _ _ => rfl⟩
theorem xs_alloc (h : XS G a n cap zs w0 wX w ad m c D X up nm sa ka ca N V) (o : Obj) : XS G a n cap zs w0 wX (w.alloc o) ad m c D X up nm sa ka ca N V := xs_below h ((Below.refl _ _).alloc (Nat.le_refl _) o)
theorem xs_lt (h : XS G a n cap zs w0 wX w ad m c D X up nm sa ka ca N V) : X + 1 ≤ w.heap.size := by have := h.2.2.2.1.1; have := h.2.2.2.2.2.2.2.2.1; omega
theorem xs_cell (h : XS G a n cap zs w0 wX w ad m c D X up nm sa ka ca N V) (i : Nat) : w.cell? ⟨X, i, none⟩ = #[Value.int .i64 up, .string nm, .string ⟨#[]⟩, .slice sa ka ca][i]? := by rw [cell_of_row w X i _ IT (0, 0) h.2.2.2.2.1]
theorem xs_frozen (h : XS G a n cap zs w0 wX w ad m c D X up nm sa ka ca N V) (i : Nat) : w.frozen? ⟨X, i, none⟩ = false := by simp [World.frozen?, h.2.2.2.2.1]
/-- The store of another list of attributes. -/
theorem xs_store {sa' : Option Addr} {ka' ca' : Nat} {N' V' : Nat → ByteArray} {ys : List Value} (h : XS G a n cap zs w0 wX w ad m c D X up nm sa ka ca N V) (hy : w.ownsRow (X + 1) AT 2 (.slice sa' ka' ca') ka' ys) (hp : PairsS ys ka' N' V') (hs : ∀ k, k < ka' → (N' k).size ≤ 8 ∧ (V' k).size ≤ 8) :
    XS G a n cap zs w0 wX (w.setCell ⟨X, 3, none⟩ (.slice sa' ka' ca')) ad m c D X up nm sa' ka' ca' N' V' := by
  obtain ⟨h1, ⟨xs, h2, h2'⟩, h3, h4, h5, -, -, h8, h9, h10, h11⟩ := h
  have hg := grown_set w ⟨X, 3, none⟩ (.slice sa' ka' ca')
  have hrow : ∀ k, some X = some k → k = X := fun k hk => by cases hk; rfl
  refine ⟨rd_grown h1 hg (fun k hk => by have := hrow k hk; omega), ⟨xs, h2.kept hg ?_, h2'⟩, ?_, ?_, ?_, ⟨ys, hy.kept hg ?_, hp⟩, hs, h8, h9, h10, h11⟩
  · cases hv : (Value.slice ad m c).ownBlock with
    | none => exact .inl rfl
    | some k => exact .inr fun e => by have e1 := hrow k e.symm; have := h11 k hv; omega
  · exact h3.grown hg (Nat.le_of_lt (rd_lt h1)) (fun k hk => by have := hrow k hk; omega)
  · exact keepA_step h4 hg fun k hk => by have e := hrow k hk; subst e; exact .inr ⟨_, _, _, h5, by decide⟩
  · have := block_setCell (i := 3) h5 (.slice sa' ka' ca')
    simpa using this
  · cases hv : (Value.slice sa' ka' ca').ownBlock with
    | none => exact .inl rfl
    | some k => exact .inr fun e => by have e1 := hrow k e.symm; have := hy.lt k hv; omega
/-- What a longer list of attributes leaves. -/
theorem xs_grown {v : Value} {k : Nat} {ys : List Value} (h : XS G a n cap zs w0 wX w ad m c D X up nm sa ka ca N V) (hv : w.ownsRow (X + 1) AT 2 v k ys) (hg : w.grownBy w1 v.ownBlock) {zs' : List Value} {sa' : Option Addr} {ka' ca' : Nat} {N' V' : Nat → ByteArray} (hy : w1.ownsRow (X + 1) AT 2 (.slice sa' ka' ca') ka' zs') (hp : PairsS zs' ka' N' V') (hs : ∀ k, k < ka' → (N' k).size ≤ 8 ∧ (V' k).size ≤ 8) :
    XS G a n cap zs w0 wX (w1.setCell ⟨X, 3, none⟩ (.slice sa' ka' ca')) ad m c D X up nm sa' ka' ca' N' V' := by
  obtain ⟨h1, ⟨xs, h2, h2'⟩, h3, h4, h5, -, -, h8, h9, h10, h11⟩ := h
  have hrow : ∀ k, v.ownBlock = some k → X + 1 ≤ k := fun k hk => (hv.lt k hk).1
  have hlt := (Array.getElem?_eq_some_iff.1 h5).1
  have h5' : w1.heap[X]? = some (.cells #[.int .i64 up, .string nm, .string ⟨#[]⟩, .slice sa ka ca] IT (0, 0)) := by
    rw [hg.block X hlt (fun e => by have := hrow X e.symm; omega)]; exact h5
  have base : ∃ N0 V0, XS G a n cap zs w0 wX (w1.setCell ⟨X, 3, none⟩ (.slice sa' ka' ca')) ad m c D X up nm sa' ka' ca' N0 V0 ∧ N0 = N' ∧ V0 = V' := by
    refine ⟨N', V', ?_, rfl, rfl⟩
    have hr1 : RdAt w1 G a n cap zs := rd_grown h1 hg (fun k hk => by have := hrow k hk; omega)
    have ho1 : w1.ownsRow (G + 1) IT 4 (.slice ad m c) m xs := h2.kept hg (by
      cases hv : (Value.slice ad m c).ownBlock with
      | none => exact .inl rfl
      | some k => exact .inr fun e => by have e1 := hrow k e.symm; have := h11 k hv; omega)
    have hb1 : Below G w0 w1 := h3.grown hg (Nat.le_of_lt (rd_lt h1)) (fun k hk => by have := hrow k hk; omega)
    have hk1 : KeepA wX w1 := keepA_step h4 hg fun k hk => .inl (by have := hrow k hk; omega)
    have hg2 := grown_set w1 ⟨X, 3, none⟩ (.slice sa' ka' ca')
    have hrow2 : ∀ k, some X = some k → k = X := fun k hk => by cases hk; rfl
    refine ⟨rd_grown hr1 hg2 (fun k hk => by have := hrow2 k hk; omega), ⟨xs, ho1.kept hg2 ?_, h2'⟩, ?_, ?_, ?_, ⟨zs', hy.kept hg2 ?_, hp⟩, hs, h8, h9, h10, h11⟩
    · cases hv : (Value.slice ad m c).ownBlock with
      | none => exact .inl rfl
      | some k => exact .inr fun e => by have e1 := hrow2 k e.symm; have := h11 k hv; omega
    · exact hb1.grown hg2 (Nat.le_of_lt (rd_lt hr1)) (fun k hk => by have := hrow2 k hk; omega)
    · exact keepA_step hk1 hg2 fun k hk => by have e := hrow2 k hk; subst e; exact .inr ⟨_, _, _, h5', by decide⟩
    · have := block_setCell (i := 3) h5' (.slice sa' ka' ca')
      simpa using this
    · cases hv : (Value.slice sa' ka' ca').ownBlock with
      | none => exact .inl rfl
      | some k => exact .inr fun e => by have e1 := hrow2 k e.symm; have := hy.lt k hv; omega
  obtain ⟨N0, V0, hX, rfl, rfl⟩ := base
  exact hX
end
def putF (N : Nat → ByteArray) (k : Nat) (x : ByteArray) : Nat → ByteArray := fun j => if j = k then x else N j
theorem pairs_putF {ys : List Value} {k : Nat} {N V : Nat → ByteArray} (h : PairsS ys k N V) (hl : ys.length = k * 2) (x y : ByteArray) : PairsS (ys ++ [.string x, .string y]) (k + 1) (putF N k x) (putF V k y) := by
  intro j hj
  unfold putF
  by_cases e : j = k
  · subst e
    rw [if_pos rfl, if_pos rfl, List.getElem?_append_right (by omega), List.getElem?_append_right (by omega), hl, show j * 2 - j * 2 = 0 by omega, show j * 2 + 1 - j * 2 = 1 by omega]
    exact ⟨rfl, rfl⟩
  · rw [if_neg e, if_neg e, List.getElem?_append_left (by omega), List.getElem?_append_left (by omega)]
    exact h j (by omega)
theorem small_putF {N V : Nat → ByteArray} {k : Nat} {x y : ByteArray} (h : ∀ j, j < k → (N j).size ≤ 8 ∧ (V j).size ≤ 8) (hx : x.size ≤ 8) (hy : y.size ≤ 8) : ∀ j, j < k + 1 → (putF N k x j).size ≤ 8 ∧ (putF V k y j).size ≤ 8 := fun j hj => by
  unfold putF
  by_cases e : j = k
  · rw [if_pos e, if_pos e]; exact ⟨hx, hy⟩
  · rw [if_neg e, if_neg e]; exact h j (by omega)
def GrowAns (G : Nat) (a : Option Addr) (n cap : Nat) (zs : List Int) (w : World) (m0 d : Nat) (e : Ending) (w' : World) : Prop := ∃ ad m c D, e = .returned (.slice ad m c) ∧ GS G a n cap zs w w' ad m c D ∧ m0 ≤ m ∧ m ≤ m0 + cD d
theorem gs_trans {G : Nat} {a : Option Addr} {n cap : Nat} {zs : List Int} {w0 w w1 : World} {ad ad1 : Option Addr} {m c m1 c1 : Nat} {D D1 : Dc} (h : GS G a n cap zs w0 w ad m c D) (k : GS G a n cap zs w w1 ad1 m1 c1 D1) : GS G a n cap zs w0 w1 ad1 m1 c1 D1 :=
  ⟨k.1, k.2.1, h.2.2.1.trans k.2.2.1, keepA_trans h.2.2.2 k.2.2.2⟩
theorem own_cap {w : World} {B : Nat} {e : TypeId} {z : Nat} {ad : Option Addr} {m c : Nat} {xs : List Value} (h : w.ownsRow B e z (.slice ad m c) m xs) : m ≤ c := by
  rcases h.2 with ⟨hv, h0⟩ | ⟨g, cp, cur, hv, -, -, hc, -⟩
  · omega
  · simp only [Value.slice.injEq] at hv
    omega
theorem own_addr {w : World} {B : Nat} {e : TypeId} {z : Nat} {ad : Option Addr} {m c : Nat} {xs : List Value} (h : w.ownsRow B e z (.slice ad m c) m xs) (hm : 0 < m) : ∃ g, ad = some ⟨g, 0, none⟩ := by
  rcases h.2 with ⟨hv, h0⟩ | ⟨g, cp, cur, hv, -⟩
  · omega
  · simp only [Value.slice.injEq] at hv
    exact ⟨g, hv.1⟩
theorem own_less {w : World} {B : Nat} {e : TypeId} {z g m c k : Nat} {xs : List Value} (h : w.ownsRow B e z (.slice (some ⟨g, 0, none⟩) m c) m xs) (hk : k ≤ m) : w.ownsRow B e z (.slice (some ⟨g, 0, none⟩) k c) k (xs.take (k * z)) := by
  have hkm : k * z ≤ m * z := Nat.mul_le_mul_right _ hk
  refine ⟨by rw [List.length_take, h.1]; omega, ?_⟩
  rcases h.2 with ⟨hv, h0⟩ | ⟨g', cp, cur, hv, hB, hh, hc, hm, hs, ht⟩
  · cases hv
  · simp only [Value.slice.injEq, Option.some.injEq, Addr.mk.injEq] at hv
    obtain ⟨⟨rfl, -⟩, -, rfl⟩ := hv
    exact .inr ⟨g, c, cur, rfl, hB, hh, by omega, hm, hs, by rw [← ht, List.take_take, Nat.min_eq_left hkm]⟩
theorem pairs_less {ys : List Value} {m k : Nat} {N V : Nat → ByteArray} (h : PairsS ys m N V) (hk : k ≤ m) : PairsS (ys.take (k * 2)) k N V := fun j hj => by
  rw [List.getElem?_take_of_lt (by omega), List.getElem?_take_of_lt (by omega)]
  exact h j (by omega)
theorem gFour_newS (w : World) (p : Addr) (q x y z u : Value) (T : TypeId) (j : Nat) (v : Value) (hj : [x, y, z, u][j]? = some v) : ((w.setCell p q).alloc (.cells #[x, y, z, u] T)).cell? ((⟨w.heap.size, 0, none⟩ : Addr).add j) = some v := by
  have h := gFour_new (w.setCell p q) x y z u T j v hj
  rw [heap_setCell_size] at h
  exact h
theorem rec_of {d : Nat} {P : Prop} (h : d = 0 ∨ P) (hd : ¬ d = 0) : P := by
  rcases h with h | h
  · exact absurd h hd
  · exact h
end Go.Proofs.YtdepgkpfibmbgaaGreatDoor
