/-
  Contract: the drawn model, whatever the code is: a row of nodes of its own, with what is hurt in it.
-/
import Derived.Test.YtfohfljdgmlibaaW13
import Derived.Deep.RegionLaw
import Derived.Deep.DeepCutAuto
namespace Go.Proofs.Ytfohfljdgmlibaa
open Go.RowKit Go.Joins
set_option linter.unusedVariables false
set_option linter.unusedSimpArgs false
def ST (K : Nat) (x : Value) : Prop := ∃ s : ByteArray, x = .string s ∧ s.size ≤ K
def BLn (N : Nat) (x : Value) : Prop := ∃ y : Int, x = .int .i64 y ∧ 0 ≤ y ∧ y < N
def SLn (G N : Nat) (x : Value) (w : World) : Prop := ∃ b, x = .slice (some ⟨b, 0, none⟩) N N ∧ G < b ∧ ∃ cs : Array Value, w.heap[b]? = some (.cells cs 9 (0, 0)) ∧ cs.size = N ∧ ∀ k, k < N → ∃ s : ByteArray, cs[k]? = some (.string s) ∧ s.size ≤ 1
def ADn (G : Nat) (x : Value) (w : World) : Prop := ∃ b o, x = .pointer (some ⟨b, o, none⟩) ∧ G < b ∧ ∃ (cs : Array Value) (s : ByteArray), w.heap[b]? = some (.cells cs 9 (0, 0)) ∧ cs[o]? = some (.string s) ∧ s.size ≤ 1
def MOn (G : Nat) (x : Value) (w : World) : Prop := ∃ ad m c D, ∃ ok : Bool, x = .tuple #[.slice ad m c, .bool ok] ∧ PO (G + 1) (fun j => G < j) w ad m c D ∧ (m = 0 ∨ pkB D = true) ∧ m ≤ 40
def MSn (G : Nat) (x : Value) (w : World) : Prop := ∃ ad m c D, x = .slice ad m c ∧ PO (G + 1) (fun j => G < j) w ad m c D ∧ (m = 0 ∨ pkB D = true) ∧ m ≤ 40
theorem po_low {B B' : Nat} {S : Nat → Prop} {w : World} {ad : Option Addr} {m c : Nat} {D : Pn} (h : PO B S w ad m c D) (hB : B' ≤ B) : PO B' S w ad m c D := by
  obtain ⟨xs, h1, h2⟩ := h
  exact ⟨xs, gOwn_lower h1 hB, h2⟩
theorem po_G {G : Nat} {w w' : World} {ad : Option Addr} {m c : Nat} {D : Pn} (h : PO (G + 1) (fun j => G < j) w ad m c D) (k : Kp (fun k => k = G) w w') : PO (G + 1) (fun j => G < j) w' ad m c D := by
  refine po_kp h k (fun j hj e => ?_) (fun _ _ _ _ _ j _ _ hs e => ?_)
  · obtain ⟨xs, h1, -⟩ := h
    have := (h1.lt j hj).1
    omega
  · have : G < j := hs
    omega
def MV (G k : Nat) (x : Value) (w : World) : Prop :=
  match k with
  | 0 => x = .pointer (some ⟨G, 0, none⟩)
  | 1 => ST 38 x
  | 2 => ST 39 x
  | 3 => SLn G 2 x w
  | 4 => x = .pointer (some ⟨G, 0, none⟩)
  | 5 => BLn 2 x
  | 6 => ADn G x w
  | 7 => ST 1 x
  | 8 => ST 40 x
  | 9 => x = .pointer (some ⟨G, 0, none⟩)
  | 10 => ST 38 x
  | 11 => ST 78 x
  | 12 => ST 79 x
  | 13 => SLn G 3 x w
  | 14 => x = .pointer (some ⟨G, 0, none⟩)
  | 15 => BLn 3 x
  | 16 => ADn G x w
  | 17 => ST 1 x
  | 18 => ST 80 x
  | 19 => MOn G x w
  | 20 => MOn G x w
  | 21 => MSn G x w
  | 22 => True
  | 23 => MSn G x w
  | 24 => True
  | _ => True

theorem mv_kp {G : Nat} {w w' : World} (h : Kp (fun k => k = G) w w') (k : Nat) (x : Value) (hv : MV G k x w) : MV G k x w' := by
  have hSL : ∀ N, SLn G N x w → SLn G N x w' := by
    rintro N ⟨b, e, hG, cs, hb, h2⟩
    exact ⟨b, e, hG, cs, (h.block b (Array.getElem?_eq_some_iff.1 hb).1 (by omega)).trans hb, h2⟩
  have hAD : ADn G x w → ADn G x w' := by
    rintro ⟨b, o, e, hG, cs, s, hb, h2⟩
    exact ⟨b, o, e, hG, cs, s, (h.block b (Array.getElem?_eq_some_iff.1 hb).1 (by omega)).trans hb, h2⟩
  have hMO : MOn G x w → MOn G x w' := by
    rintro ⟨ad, m, c, D, ok, e, hp, h2⟩
    exact ⟨ad, m, c, D, ok, e, po_G hp h, h2⟩
  have hMS : MSn G x w → MSn G x w' := by
    rintro ⟨ad, m, c, D, e, hp, h2⟩
    exact ⟨ad, m, c, D, e, po_G hp h, h2⟩
  unfold MV at hv ⊢
  split at hv <;> first | exact hSL _ hv | exact hAD hv | exact hMO hv | exact hMS hv | exact hv
def MJ (G : Nat) (a : Option Addr) (n cap : Nat) (zs : List Int) (w w' : World) : Prop := RdAt w' G a n cap zs ∧ Below G w w'
section
variable {G : Nat} {a : Option Addr} {n cap : Nat} {zs : List Int} {w v w1 : World}
theorem mj_drew (h : MJ G a n cap zs w v) (hd : Drew G a n cap zs v w1) : MJ G a n cap zs w w1 := ⟨hd.1, below_drew h.2 hd (Nat.le_of_lt (rd_lt h.1))⟩
theorem mj_alloc (h : MJ G a n cap zs w v) (o : Obj) : MJ G a n cap zs w (v.alloc o) := ⟨rd_alloc h.1 o, h.2.alloc (Nat.le_of_lt (rd_lt h.1)) o⟩
theorem mj_below (h : MJ G a n cap zs w v) (hb : Below v.heap.size v w1) : MJ G a n cap zs w w1 := ⟨rd_grown (row := none) h.1 ⟨hb.os, hb.tape, hb.output, hb.size, fun k hk _ => hb.block k hk⟩ (fun k hk => by cases hk), h.2.trans (hb.mono (Nat.le_of_lt (rd_lt h.1)))⟩
theorem mj_dr (h : MJ G a n cap zs w v) : MJ G a n cap zs w v.drew := ⟨h.1, h.2.drew⟩
end
/-- A drawn model. -/
def MdS (G : Nat) (a : Option Addr) (n cap : Nat) (zs : List Int) (w w' : World) (ad : Option Addr) (m c : Nat) (D : Pn) : Prop := MJ G a n cap zs w w' ∧ PO (G + 1) (fun j => G < j) w' ad m c D ∧ m ≤ 40
theorem mds_drew {G : Nat} {a : Option Addr} {n cap : Nat} {zs : List Int} {w v w1 : World} {ad : Option Addr} {m c : Nat} {D : Pn} (h : MdS G a n cap zs w v ad m c D) (hd : Drew G a n cap zs v w1) : MdS G a n cap zs w w1 ad m c D := ⟨mj_drew h.1 hd, po_G h.2.1 (kp_grown hd.2 (fun k hk => by cases hk; rfl)), h.2.2⟩
theorem mds_dr {G : Nat} {a : Option Addr} {n cap : Nat} {zs : List Int} {w v : World} {ad : Option Addr} {m c : Nat} {D : Pn} (h : MdS G a n cap zs w v ad m c D) : MdS G a n cap zs w v.drew ad m c D := ⟨mj_dr h.1, po_G h.2.1 (kp_drew v), h.2.2⟩
theorem mds_alloc {G : Nat} {a : Option Addr} {n cap : Nat} {zs : List Int} {w v : World} {ad : Option Addr} {m c : Nat} {D : Pn} (h : MdS G a n cap zs w v ad m c D) (o : Obj) : MdS G a n cap zs w (v.alloc o) ad m c D := ⟨mj_alloc h.1 o, po_G h.2.1 (kp_alloc v o), h.2.2⟩
set_option maxHeartbeats 1000000 in
theorem d_belowM (G : Nat) (a : Option Addr) (n cap : Nat) (zs : List Int) (m : Int) (w : World) (hm : 1 ≤ m) (hm' : m ≤ 256) (h : RdAt w G a n cap zs) :
    Calls Try.prog 31 #[.pointer (some ⟨G, 0, none⟩), .int .i64 m] w fun e w' => ∃ x : Int, 0 ≤ x ∧ x < m ∧ e = .returned (.int .i64 x) ∧ Drew G a n cap zs w w' := by
  by_cases h2 : 2 ≤ m
  · exact d_below G a n cap zs m w h2 hm' h
  · have h1 : m ≤ 1 := by omega
    have HH := hide h
    clear h
    go_enter Try.func31, Try.ntmps31
    go_wp2
    go_ret
    exact ⟨0, by omega, by omega, rfl, drew_refl HH.out⟩
def updK (D : Pn) (i : Nat) (y : Int) : Pn := ⟨D.n, fun j => if j = i then y else D.K j, D.NM, D.KL, D.OC⟩
def updO (D : Pn) (i : Nat) (y : Int) : Pn := ⟨D.n, D.K, D.NM, D.KL, fun j => if j = i then y else D.OC j⟩
def updL (D : Pn) (i : Nat) (L : List Int) : Pn := ⟨D.n, D.K, D.NM, fun j => if j = i then L else D.KL j, D.OC⟩
section
variable {S : Nat → Prop} {w : World} {xs : List Value} {m i : Nat} {D : Pn}
theorem pits_K (y : Int) (hi : i < m) (hl : xs.length = m * 4) (h : PIts S w xs m D) : PIts S w (xs.set (i * 4) (.int .i64 y)) m (updK D i y) := by
  refine ⟨h.1, fun j hj => ?_⟩
  obtain ⟨ad, cp, ⟨c0, c1, c2, c3⟩, h2⟩ := h.2 j hj
  refine ⟨ad, cp, ⟨?_, ?_, ?_, ?_⟩, h2⟩
  · by_cases e : j = i
    · subst e; rw [List.getElem?_set_self (by omega)]; show _ = some (Value.int .i64 (if j = j then y else D.K j)); rw [if_pos rfl]
    · rw [List.getElem?_set_ne (by omega)]; show _ = some (Value.int .i64 (if j = i then y else D.K j)); rw [if_neg e]; exact c0
  · rw [List.getElem?_set_ne (by omega)]; exact c1
  · rw [List.getElem?_set_ne (by omega)]; exact c2
  · rw [List.getElem?_set_ne (by omega)]; exact c3
theorem pits_O (y : Int) (hi : i < m) (hl : xs.length = m * 4) (h : PIts S w xs m D) : PIts S w (xs.set (i * 4 + 3) (.int .i64 y)) m (updO D i y) := by
  refine ⟨h.1, fun j hj => ?_⟩
  obtain ⟨ad, cp, ⟨c0, c1, c2, c3⟩, h2⟩ := h.2 j hj
  refine ⟨ad, cp, ⟨?_, ?_, ?_, ?_⟩, h2⟩
  · rw [List.getElem?_set_ne (by omega)]; exact c0
  · rw [List.getElem?_set_ne (by omega)]; exact c1
  · rw [List.getElem?_set_ne (by omega)]; exact c2
  · by_cases e : j = i
    · subst e; rw [List.getElem?_set_self (by omega)]; show _ = some (Value.int .i64 (if j = j then y else D.OC j)); rw [if_pos rfl]
    · rw [List.getElem?_set_ne (by omega)]; show _ = some (Value.int .i64 (if j = i then y else D.OC j)); rw [if_neg e]; exact c3
end
theorem dj_set {xs : List Value} {m i : Nat} (h : Dj xs m) (hi : ∀ j, j * 4 + 2 ≠ i) (v : Value) : Dj (xs.set i v) m := by
  have e : ∀ j, kbk (xs.set i v) j = kbk xs j := fun j => by unfold kbk; rw [List.getElem?_set_ne (fun e => hi j e.symm)]
  intro a b k ha hb hne hk
  rw [e] at hk ⊢
  exact h a b k ha hb hne hk
section
variable {G : Nat} {a : Option Addr} {n cap : Nat} {zs : List Int} {w w' : World} {g m c i : Nat} {D : Pn}
theorem mds_cell (h : MdS G a n cap zs w w' (some ⟨g, 0, none⟩) m c D) (o : Nat) (ho : o < m * 4) : (∃ v, w'.cell? ⟨g, o, none⟩ = some v) ∧ w'.frozen? ⟨g, o, none⟩ = false := by
  obtain ⟨xs, h1, h2⟩ := h.2.1
  refine ⟨?_, h1.frozenAt o⟩
  rw [h1.cellAt o (by omega)]
  exact ⟨_, List.getElem?_eq_getElem (by rw [h1.1]; omega)⟩
theorem mds_shape {ad : Option Addr} (h : MdS G a n cap zs w w' ad m c D) (hm : 0 < m) : ∃ g, ad = some ⟨g, 0, none⟩ := by
  obtain ⟨xs, h1, h2⟩ := h.2.1
  rcases h1.2 with ⟨-, hz⟩ | ⟨g, cap, cur, hv, -⟩
  · omega
  · simp only [Value.slice.injEq] at hv
    exact ⟨g, hv.1⟩
theorem mds_set {D' : Pn} (h : MdS G a n cap zs w w' (some ⟨g, 0, none⟩) m c D) (o : Nat) (v : Value) (ho : ∀ j, j * 4 + 2 ≠ o) (hI : ∀ xs, xs.length = m * 4 → PIts (fun j => G < j) w' xs m D → PIts (fun j => G < j) w' (xs.set o v) m D') : MdS G a n cap zs w (w'.setCell ⟨g, o, none⟩ v) (some ⟨g, 0, none⟩) m c D' := by
  obtain ⟨⟨hj1, hj2⟩, ⟨xs, h1, h2, h3⟩, h4⟩ := h
  have hlt := h1.lt g rfl
  have hg : w'.grownBy (w'.setCell ⟨g, o, none⟩ v) (some g) := ⟨rfl, rfl, rfl, by simp [World.setCell], fun k hk hne => heap_setCell_far _ _ _ _ (fun e => hne (by rw [← e]))⟩
  refine ⟨⟨rd_grown hj1 hg (fun k hk => by cases hk; omega), hj2.setCell (by show G ≤ g; omega) v⟩, ⟨_, (h1.stored o v).1, pits_kp (hI xs h1.1 h2) (kp_set (S := fun k => k = g) _ _ _ rfl) (fun B' z n v ys j hv hj _ => own_ne hv hj h1 rfl (by decide)), dj_set h3 ho v⟩, h4⟩
/-- One kid more at one node: what an append to its kids leaves. -/
theorem mds_kid {kad : Option Addr} {L : List Int} {kc gg cap' : Nat} {x : Int} {w6 : World} {o : Obj} (h : MdS G a n cap zs w w' (some ⟨g, 0, none⟩) m c D) (hi : i < m) (hL : D.KL i = L) (hl : L.length ≤ 60) (hcell : w'.cell? ⟨g, i * 4 + 2, none⟩ = some (.slice kad L.length kc))
    (hown6 : w6.ownsRow 0 2 1 (.slice (some ⟨gg, 0, none⟩) (L.length + 1) cap') (L.length + 1) (L.map (Value.int .i64) ++ [.int .i64 x])) (hg : (w'.alloc o).grownBy w6 (Value.slice kad L.length kc).ownBlock) (hat : (Value.slice kad L.length kc).ownBlock = some gg ∨ gg = w'.heap.size + 1) :
    ((∃ v, w6.cell? ⟨g, i * 4 + 2, none⟩ = some v) ∧ w6.frozen? ⟨g, i * 4 + 2, none⟩ = false) ∧ MdS G a n cap zs w (w6.setCell ⟨g, i * 4 + 2, none⟩ (.slice (some ⟨gg, 0, none⟩) (L.length + 1) cap')) (some ⟨g, 0, none⟩) m c (updL D i (L ++ [x])) := by
  obtain ⟨⟨hj1, hj2⟩, ⟨xs, h1, h2, h3⟩, h4⟩ := h
  have hlt := h1.lt g rfl
  have hG := rd_lt hj1
  obtain ⟨ad', cp', ⟨e0, e1, e2, e3⟩, b2, b3, b4⟩ := h2.2 i hi
  have hsl : Value.slice ad' (D.KL i).length cp' = Value.slice kad L.length kc := by
    have := (h1.cellAt (i * 4 + 2) (by omega)).symm.trans hcell
    rw [e2] at this
    simpa using this
  rw [hsl] at e2 b2 b3
  rw [hL] at b2
  have hkG : ∀ k, (Value.slice kad L.length kc).ownBlock = some k → G < k := fun k hk => b3 k hk
  have hk : Kp (fun j => (Value.slice kad L.length kc).ownBlock = some j) w' w6 := (kp_alloc w' o).trans (kp_grown (S := fun j => (Value.slice kad L.length kc).ownBlock = some j) hg (fun j hj => hj)) (fun j _ hj => hj)
  have hgr : (w'.alloc o).grownBy w6 (Value.slice kad L.length kc).ownBlock := hg
  have hR6 : RdAt w6 G a n cap zs := rd_grown (rd_alloc hj1 o) hgr hkG
  have hB6 : Below G w w6 := (hj2.alloc (Nat.le_of_lt hG) o).grown hgr (by simp; omega) (fun k hk => Nat.le_of_lt (hkG k hk))
  have o6 : w6.ownsRow (G + 1) 46 4 (.slice (some ⟨g, 0, none⟩) m c) m xs := own_kp h1 hk (fun j hj e => own_ne b2 e h1 hj (by decide) rfl)
  have hggG : G < gg := by
    rcases hat with e | e
    · exact hkG gg e
    · omega
  have hgne : gg ≠ g := own_ne hown6 rfl o6 rfl (by decide)
  -- the kids of each at w6: of the others as they were, of this one with one more behind them
  have p6 : ∀ j, j < m → ∃ ad cp, (xs[j * 4]? = some (.int .i64 (D.K j)) ∧ xs[j * 4 + 1]? = some (.string (D.NM j)) ∧ xs[j * 4 + 2]? = some (.slice ad (D.KL j).length cp) ∧ xs[j * 4 + 3]? = some (.int .i64 (D.OC j))) ∧ (j ≠ i → w6.ownsRow 0 2 1 (.slice ad (D.KL j).length cp) (D.KL j).length ((D.KL j).map (Value.int .i64))) ∧ (∀ k, (Value.slice ad (D.KL j).length cp).ownBlock = some k → G < k) ∧ (D.NM j).size ≤ 20000 ∧ (D.KL j).length ≤ 100 ∧ (j ≠ i → ∀ k, (Value.slice ad (D.KL j).length cp).ownBlock = some k → k ≠ gg) := by
    intro j hj
    obtain ⟨adj, cpj, c1, c2, c3, c4, c5⟩ := h2.2 j hj
    have hnk : j ≠ i → ∀ k, (Value.slice adj (D.KL j).length cpj).ownBlock = some k → (Value.slice kad L.length kc).ownBlock ≠ some k := fun hne k hk => by
      have := h3 j i k hj hi hne (by rw [kbk_of c1.2.2.1]; exact hk)
      rw [kbk_of e2] at this
      exact this
    refine ⟨adj, cpj, c1, fun hne => own_kp c2 hk (fun k hk' => hnk hne k hk'), c3, c4, c5, fun hne k hk' => ?_⟩
    rcases hat with e | e
    · intro ek; subst ek; exact hnk hne k hk' e
    · have := (c2.lt k hk').2; omega
  have hn6 : w6.ownsRow 0 2 1 (.slice (some ⟨gg, 0, none⟩) (L ++ [x]).length cap') (L ++ [x]).length ((L ++ [x]).map (Value.int .i64)) := by
    have hl' : (L ++ [x]).length = L.length + 1 := by simp
    rw [hl', List.map_append]; exact hown6
  have ks : Kp (fun j => j = g) w6 (w6.setCell ⟨g, i * 4 + 2, none⟩ (.slice (some ⟨gg, 0, none⟩) (L.length + 1) cap')) := kp_set (S := fun j => j = g) _ _ _ rfl
  have hgs : w6.grownBy (w6.setCell ⟨g, i * 4 + 2, none⟩ (.slice (some ⟨gg, 0, none⟩) (L.length + 1) cap')) (some g) := ⟨rfl, rfl, rfl, by simp [World.setCell], fun k hk hne => heap_setCell_far _ _ _ _ (fun e => hne (by rw [← e]))⟩
  refine ⟨⟨?_, o6.frozenAt _⟩, ⟨⟨rd_grown hR6 hgs (fun k hk => by cases hk; omega), hB6.setCell (by show G ≤ g; omega) _⟩, ⟨_, (o6.stored (i * 4 + 2) _).1, ⟨h2.1, fun j hj => ?_⟩, ?_⟩, h4⟩⟩
  · rw [o6.cellAt _ (by omega)]
    exact ⟨_, List.getElem?_eq_getElem (by rw [o6.1]; omega)⟩
  · obtain ⟨adj, cpj, ⟨a0, a1, a2, a3⟩, c2, c3, c4, c5, c6⟩ := p6 j hj
    by_cases hne : j = i
    · subst hne
      refine ⟨some ⟨gg, 0, none⟩, cap', ⟨?_, ?_, ?_, ?_⟩, ?_, ?_, c4, ?_⟩
      · rw [List.getElem?_set_ne (by omega)]; exact a0
      · rw [List.getElem?_set_ne (by omega)]; exact a1
      · rw [List.getElem?_set_self (by rw [o6.1]; omega)]
        show _ = some (Value.slice _ (if j = j then L ++ [x] else D.KL j).length cap')
        rw [if_pos rfl]; simp
      · rw [List.getElem?_set_ne (by omega)]; exact a3
      · show (w6.setCell _ _).ownsRow 0 _ 1 (.slice _ (if j = j then L ++ [x] else D.KL j).length cap') (if j = j then L ++ [x] else D.KL j).length ((if j = j then L ++ [x] else D.KL j).map _)
        rw [if_pos rfl]
        exact own_kp hn6 ks (fun k hk' => own_ne hn6 hk' o6 rfl (by decide))
      · intro k hk'
        have : gg = k := by simpa [Value.ownBlock] using hk'
        subst this; exact hggG
      · show (if j = j then L ++ [x] else D.KL j).length ≤ 100
        rw [if_pos rfl]; simp; omega
    · have hkl : (updL D i (L ++ [x])).KL j = D.KL j := by show (if j = i then _ else _) = _; rw [if_neg hne]
      rw [hkl]
      refine ⟨adj, cpj, ⟨?_, ?_, ?_, ?_⟩, own_kp (c2 hne) ks (fun k hk' => own_ne (c2 hne) hk' o6 rfl (by decide)), c3, c4, c5⟩
      · rw [List.getElem?_set_ne (by omega)]; exact a0
      · rw [List.getElem?_set_ne (by omega)]; exact a1
      · rw [List.getElem?_set_ne (by omega)]; exact a2
      · rw [List.getElem?_set_ne (by omega)]; exact a3
  · have hs1 : kbk (xs.set (i * 4 + 2) (.slice (some ⟨gg, 0, none⟩) (L.length + 1) cap')) i = some gg := kbk_of (v := .slice (some ⟨gg, 0, none⟩) (L.length + 1) cap') (List.getElem?_set_self (by rw [o6.1]; omega))
    have hs2 : ∀ j, j ≠ i → kbk (xs.set (i * 4 + 2) (.slice (some ⟨gg, 0, none⟩) (L.length + 1) cap')) j = kbk xs j := fun j hne => by unfold kbk; rw [List.getElem?_set_ne (by omega)]
    have hs3 : ∀ j, j < m → j ≠ i → kbk xs j ≠ some gg := fun j hj hne e => by
      obtain ⟨adj, cpj, ⟨a0, a1, a2, a3⟩, c2, c3, c4, c5, c6⟩ := p6 j hj
      rw [kbk_of a2] at e
      exact c6 hne gg e rfl
    intro p q k hp hq hne hk9
    by_cases ep : p = i
    · rw [ep, hs1] at hk9
      have : gg = k := by simpa using hk9
      subst this
      rw [hs2 q (by omega)]
      exact hs3 q hq (by omega)
    · rw [hs2 p ep] at hk9
      by_cases eq : q = i
      · rw [eq, hs1]
        intro e
        have : gg = k := by simpa using e
        subst this
        exact hs3 p hp ep hk9
      · rw [hs2 q eq]; exact h3 p q k hp hq hne hk9
end
/-- The kids of a right model's node are not many. -/
theorem pk_klen {D : Pn} (h : pkB D = true) {i : Nat} (hi : i < D.n) : (D.KL i).length ≤ 40 := by
  obtain ⟨h1, -⟩ := pk_facts h
  obtain ⟨⟨f, hf⟩, -⟩ := pk_lo h i hi
  rw [tr_eq] at hf
  have := fd_klen _ i f (fun j c _ hc => tr_le hc) hf
  rw [List.length_reverse] at this
  omega
set_option maxRecDepth 100000 in
set_option maxHeartbeats 8000000 in
theorem d_model (G : Nat) (a : Option Addr) (n cap : Nat) (zs : List Int) (w : World) (h : RdAt w G a n cap zs) :
    Calls Try.prog 23 #[.pointer (some ⟨G, 0, none⟩)] w fun r w' => ∃ ad m c D, r = .returned (.slice ad m c) ∧ MdS G a n cap zs w w' ad m c D := by
  obtain ⟨i0, hi0, hz0, hz1, hz2⟩ := info_parts info64
  have HJ : Hid (MJ G a n cap zs w w.drew) := hide (mj_dr ⟨h, Below.refl _ _⟩)
  clear h
  go_enter Try.func23, Try.ntmps23
  go_upto_region 1 with fail
  refine wp_region_inv (by kernel_rfl) (by kernel_rfl) (fun u => { tmps := #[.pointer (some ⟨G, 0, none⟩), undef, .slice none 0 0, u 3, u 4, undef, u 6, u 7, u 8, u 9, u 10, u 11, u 12, u 13, u 14, u 15, u 16, u 17, u 18, u 19, u 20, u 21, u 22, u 23, u 24, u 25, u 26, u 27, u 28, undef, undef, undef, undef, undef, undef, undef, undef, undef, undef, undef, undef, undef, undef, undef, undef, undef, undef, undef, undef, undef, undef, undef, undef, undef, undef, undef, undef, undef, undef, undef, undef, undef, undef, undef, undef, undef, undef, undef, undef, undef, undef, undef, undef, undef, undef, undef, undef, undef, undef, undef, undef, undef, undef, undef, undef, undef], defers := [] }) (fun k => if k ≤ 19 then k + 7 else if k = 20 then 6 else if k = 21 then 27 else if k = 22 then 28 else if k = 23 then 3 else if k = 24 then 4 else 100 + k)
    (MV G) (MJ G a n cap zs w) (fun _ => undef) HJ.out ?hput ?hD ?step ?done
  case hput =>
    intro i o ho u v
    have hi := (Array.getElem?_eq_some_iff.1 ho).1
    have hi' : i < 25 := hi
    clear hi
    rcases (show i = 0 ∨ i = 1 ∨ i = 2 ∨ i = 3 ∨ i = 4 ∨ i = 5 ∨ i = 6 ∨ i = 7 ∨ i = 8 ∨ i = 9 ∨ i = 10 ∨ i = 11 ∨ i = 12 ∨ i = 13 ∨ i = 14 ∨ i = 15 ∨ i = 16 ∨ i = 17 ∨ i = 18 ∨ i = 19 ∨ i = 20 ∨ i = 21 ∨ i = 22 ∨ i = 23 ∨ i = 24 by omega) with e | e | e | e | e | e | e | e | e | e | e | e | e | e | e | e | e | e | e | e | e | e | e | e | e
    all_goals
      subst e
      obtain rfl := Option.some.inj ho
      rfl
  case hD =>
    intro i k hi hk hne
    have hi' : i < 25 := hi
    have hk' : k < 25 := hk
    clear hi hk
    try dsimp only
    repeat' split
    all_goals omega
  case step =>
    intro i o ho u v hj hV K hK
    have hi := (Array.getElem?_eq_some_iff.1 ho).1
    have hi' : i < 25 := hi
    clear hi HJ
    rcases (show i = 0 ∨ i = 1 ∨ i = 2 ∨ i = 3 ∨ i = 4 ∨ i = 5 ∨ i = 6 ∨ i = 7 ∨ i = 8 ∨ i = 9 ∨ i = 10 ∨ i = 11 ∨ i = 12 ∨ i = 13 ∨ i = 14 ∨ i = 15 ∨ i = 16 ∨ i = 17 ∨ i = 18 ∨ i = 19 ∨ i = 20 ∨ i = 21 ∨ i = 22 ∨ i = 23 ∨ i = 24 by omega) with e | e | e | e | e | e | e | e | e | e | e | e | e | e | e | e | e | e | e | e | e | e | e | e | e
    all_goals
      subst e
      obtain rfl := Option.some.inj ho
      clear ho hi'
      try dsimp only at hV hK ⊢
    · go_simp
      exact hK _ _ hj rfl (fun _ _ h => h)
    · have hp : u 7 = .pointer (some ⟨G, 0, none⟩) := hV ⟨0, .data⟩ (by simp) rfl
      rw [hp] at hK ⊢
      go_simp
      refine (d_mtext G a n cap zs 2 (by omega) _ hj.1).mono ?_
      rintro e w1 ⟨t, ht, rfl, hd⟩
      exact hK _ _ (mj_drew hj hd) ⟨t, rfl, ht⟩ (mv_kp (kp_grown hd.2 (fun k hk => by cases hk; rfl)))
    · obtain ⟨s, e1, hs⟩ : ST 38 (u 8) := hV ⟨1, .data⟩ (by simp) rfl
      have hz : ¬ 9223372036854775807 < 1 + s.size := by omega
      rw [e1] at hK ⊢
      go_simp
      exact hK _ _ hj ⟨_, rfl, by rw [ByteArray.size_append]; show 1 + s.size ≤ 39; omega⟩ (fun _ _ h => h)
    · go_simp
      refine hK _ _ (mj_alloc hj _) ⟨v.heap.size, rfl, rd_lt hj.1, _, heap_alloc_new v _, rfl, fun k hk => ?_⟩ (mv_kp (kp_alloc v _))
      rcases (show k = 0 ∨ k = 1 by omega) with e | e <;> subst e <;> exact ⟨_, rfl, by decide⟩
    · go_simp
      exact hK _ _ hj rfl (fun _ _ h => h)
    · have hp : u 11 = .pointer (some ⟨G, 0, none⟩) := hV ⟨4, .data⟩ (by simp) rfl
      rw [hp] at hK ⊢
      go_simp
      refine (d_below G a n cap zs 2 _ (by omega) (by omega) hj.1).mono ?_
      rintro e w1 ⟨x, hx0, hx1, rfl, hd⟩
      exact hK _ _ (mj_drew hj hd) ⟨x, rfl, hx0, hx1⟩ (mv_kp (kp_grown hd.2 (fun k hk => by cases hk; rfl)))
    · obtain ⟨B, e1, hG, cs, hB, hcs, hel⟩ : SLn G 2 (u 10) v := hV ⟨3, .data⟩ (by simp) rfl
      obtain ⟨x, e2, hx0, hx1⟩ : BLn 2 (u 12) := hV ⟨5, .data⟩ (by simp) rfl
      obtain ⟨s, hs, hs1⟩ := hel x.toNat (by omega)
      have hx2 : x < 2 := by omega
      rw [e1, e2] at hK ⊢
      go_simp
      exact hK _ _ hj ⟨B, x.toNat, (by first | rfl | simp), hG, cs, s, hB, hs, hs1⟩ (fun _ _ h => h)
    · obtain ⟨B, o, e1, hG, cs, s, hB, hs, hs1⟩ : ADn G (u 13) v := hV ⟨6, .data⟩ (by simp) rfl
      have hc : v.cell? ⟨B, o, none⟩ = some (.string s) := by rw [cell_of_row _ B o cs 9 (0, 0) hB]; exact hs
      rw [e1] at hK ⊢
      go_simp
      exact hK _ _ hj ⟨s, rfl, hs1⟩ (fun _ _ h => h)
    · obtain ⟨s, e1, hs⟩ : ST 39 (u 9) := hV ⟨2, .data⟩ (by simp) rfl
      obtain ⟨t, e2, ht⟩ : ST 1 (u 14) := hV ⟨7, .data⟩ (by simp) rfl
      have hz : ¬ 9223372036854775807 < s.size + t.size := by omega
      rw [e1, e2] at hK ⊢
      go_simp
      exact hK _ _ hj ⟨_, rfl, by rw [ByteArray.size_append]; omega⟩ (fun _ _ h => h)
    · go_simp
      exact hK _ _ hj rfl (fun _ _ h => h)
    · have hp : u 16 = .pointer (some ⟨G, 0, none⟩) := hV ⟨9, .data⟩ (by simp) rfl
      rw [hp] at hK ⊢
      go_simp
      refine (d_mtext G a n cap zs 2 (by omega) _ hj.1).mono ?_
      rintro e w1 ⟨t, ht, rfl, hd⟩
      exact hK _ _ (mj_drew hj hd) ⟨t, rfl, ht⟩ (mv_kp (kp_grown hd.2 (fun k hk => by cases hk; rfl)))
    · obtain ⟨s, e1, hs⟩ : ST 40 (u 15) := hV ⟨8, .data⟩ (by simp) rfl
      obtain ⟨t, e2, ht⟩ : ST 38 (u 17) := hV ⟨10, .data⟩ (by simp) rfl
      have hz : ¬ 9223372036854775807 < s.size + t.size := by omega
      rw [e1, e2] at hK ⊢
      go_simp
      exact hK _ _ hj ⟨_, rfl, by rw [ByteArray.size_append]; omega⟩ (fun _ _ h => h)
    · obtain ⟨s, e1, hs⟩ : ST 78 (u 18) := hV ⟨11, .data⟩ (by simp) rfl
      have hz : ¬ 9223372036854775807 < s.size + 1 := by omega
      rw [e1] at hK ⊢
      go_simp
      exact hK _ _ hj ⟨_, rfl, by rw [ByteArray.size_append]; show s.size + 1 ≤ 79; omega⟩ (fun _ _ h => h)
    · go_simp
      refine hK _ _ (mj_alloc hj _) ⟨v.heap.size, rfl, rd_lt hj.1, _, heap_alloc_new v _, rfl, fun k hk => ?_⟩ (mv_kp (kp_alloc v _))
      rcases (show k = 0 ∨ k = 1 ∨ k = 2 by omega) with e | e | e <;> subst e <;> exact ⟨_, rfl, by decide⟩
    · go_simp
      exact hK _ _ hj rfl (fun _ _ h => h)
    · have hp : u 21 = .pointer (some ⟨G, 0, none⟩) := hV ⟨14, .data⟩ (by simp) rfl
      rw [hp] at hK ⊢
      go_simp
      refine (d_below G a n cap zs 3 _ (by omega) (by omega) hj.1).mono ?_
      rintro e w1 ⟨x, hx0, hx1, rfl, hd⟩
      exact hK _ _ (mj_drew hj hd) ⟨x, rfl, hx0, hx1⟩ (mv_kp (kp_grown hd.2 (fun k hk => by cases hk; rfl)))
    · obtain ⟨B, e1, hG, cs, hB, hcs, hel⟩ : SLn G 3 (u 20) v := hV ⟨13, .data⟩ (by simp) rfl
      obtain ⟨x, e2, hx0, hx1⟩ : BLn 3 (u 22) := hV ⟨15, .data⟩ (by simp) rfl
      obtain ⟨s, hs, hs1⟩ := hel x.toNat (by omega)
      have hx2 : x < 3 := by omega
      rw [e1, e2] at hK ⊢
      go_simp
      exact hK _ _ hj ⟨B, x.toNat, (by first | rfl | simp), hG, cs, s, hB, hs, hs1⟩ (fun _ _ h => h)
    · obtain ⟨B, o, e1, hG, cs, s, hB, hs, hs1⟩ : ADn G (u 23) v := hV ⟨16, .data⟩ (by simp) rfl
      have hc : v.cell? ⟨B, o, none⟩ = some (.string s) := by rw [cell_of_row _ B o cs 9 (0, 0) hB]; exact hs
      rw [e1] at hK ⊢
      go_simp
      exact hK _ _ hj ⟨s, rfl, hs1⟩ (fun _ _ h => h)
    · obtain ⟨s, e1, hs⟩ : ST 79 (u 19) := hV ⟨12, .data⟩ (by simp) rfl
      obtain ⟨t, e2, ht⟩ : ST 1 (u 24) := hV ⟨17, .data⟩ (by simp) rfl
      have hz : ¬ 9223372036854775807 < s.size + t.size := by omega
      rw [e1, e2] at hK ⊢
      go_simp
      exact hK _ _ hj ⟨_, rfl, by rw [ByteArray.size_append]; omega⟩ (fun _ _ h => h)
    · obtain ⟨s, e1, hs⟩ : ST 80 (u 25) := hV ⟨18, .data⟩ (by simp) rfl
      rw [e1] at hK ⊢
      go_simp
      refine (r_model s _ (by omega)).mono ?_
      rintro e w1 ⟨ad, m, c, D, ok, rfl, hpo, hpk, hm, hb⟩
      have hlt := rd_lt hj.1
      exact hK _ _ (mj_below hj hb) ⟨ad, m, c, D, ok, rfl, po_low (po_imp hpo (fun j _ hj' => by omega)) (by omega), hpk, hm⟩ (mv_kp ⟨hb.os, hb.tape, hb.output, hb.size, fun k hk _ => hb.block k hk⟩)
    · have h9 : MOn G (u 26) v := hV ⟨19, .data⟩ (by simp) rfl
      go_simp
      exact hK _ _ hj h9 (fun _ _ h => h)
    · obtain ⟨ad, m, c, D, ok, e1, h9⟩ : MOn G (u 6) v := hV ⟨20, .data⟩ (by simp) rfl
      rw [e1] at hK ⊢
      go_simp
      exact hK _ _ hj ⟨ad, m, c, D, rfl, h9⟩ (fun _ _ h => h)
    · obtain ⟨ad, m, c, D, ok, e1, h9⟩ : MOn G (u 6) v := hV ⟨20, .data⟩ (by simp) rfl
      rw [e1] at hK ⊢
      go_simp
      exact hK _ _ hj trivial (fun _ _ h => h)
    · have h9 : MSn G (u 27) v := hV ⟨21, .data⟩ (by simp) rfl
      go_simp
      exact hK _ _ hj h9 (fun _ _ h => h)
    · go_simp
      exact hK _ _ hj trivial (fun _ _ h => h)

  case done =>
    intro u v hj hV
    obtain ⟨ad, m, c, D, e3, hpo, hpk, hm⟩ : MSn G (u 3) v := hV 23 (by decide)
    have HM : Hid (MdS G a n cap zs w v ad m c D ∧ (m = 0 ∨ pkB D = true)) := hide ⟨⟨hj, hpo, hm⟩, hpk⟩
    clear hj hV hpo hm hpk HJ
    rw [e3]
    clear e3
    go_wp2_with fail
    refine (d_once G a n cap zs 3 _ (by omega) (by omega) HM.out.1.1.1).mono ?_
    rintro e w2 ⟨b, rfl, hd⟩
    have HM2 : Hid (MdS G a n cap zs w w2 ad m c D ∧ (m = 0 ∨ pkB D = true)) := hide ⟨mds_drew HM.out.1 hd, HM.out.2⟩
    clear hd HM
    go_upto_if 30 with fail
    go_cut [3] (fun v3 wx => ∃ ad m c D, v3 = .slice ad m c ∧ Hid (MdS G a n cap zs w wx ad m c D ∧ (m = 0 ∨ pkB D = true)))
    case first =>
      cases b
      · go_wp2
        go_meet
        exact ⟨ad, m, c, D, rfl, HM2⟩
      · have hG2 := rd_lt HM2.out.1.1.1
        go_wp2_with fail
        refine (d_below G a n cap zs 7 _ (by omega) (by omega) (rd_alloc HM2.out.1.1.1 _)).mono ?_
        rintro e w3 ⟨y, hy0, hy1, rfl, hd⟩
        obtain ⟨tx, htx, htx1⟩ := str_cell 14 hd.2 hy0 hy1 rfl hG2 (fun k hk => by
          have hk' : k < 7 := hk
          have hx : k = 0 ∨ k = 1 ∨ k = 2 ∨ k = 3 ∨ k = 4 ∨ k = 5 ∨ k = 6 := by omega
          rcases hx with e | e | e | e | e | e | e <;> subst e <;> exact ⟨_, rfl, by decide⟩)
        have HJ3 := hide (mj_drew (mj_alloc HM2.out.1.1 _) hd)
        clear hd HM2
        go_wp2_with fail
        refine (r_model tx _ (by omega)).mono ?_
        rintro e w4 ⟨ad4, m4, c4, D4, ok, rfl, hpo, hpk, hm, hb⟩
        have hlt := rd_lt HJ3.out.1
        have HM4 : Hid (MdS G a n cap zs w w4 ad4 m4 c4 D4 ∧ (m4 = 0 ∨ pkB D4 = true)) := hide ⟨⟨mj_below HJ3.out hb, po_low (po_imp hpo (fun j _ hj' => by omega)) (by omega), hm⟩, hpk⟩
        clear hpo hpk hm hb HJ3
        go_wp2
        go_meet
        exact ⟨ad4, m4, c4, D4, rfl, HM4⟩
    case rest =>
      clear HM2
      obtain ⟨ad, m, c, D, rfl, HM2⟩ := hcut
      go_wp2_with fail
      refine (d_once G a n cap zs 30 _ (by omega) (by omega) HM2.out.1.1.1).mono ?_
      rintro e w3 ⟨b3, rfl, hd⟩
      have HM3 : Hid (MdS G a n cap zs w w3 ad m c D ∧ (m = 0 ∨ pkB D = true)) := hide ⟨mds_drew HM2.out.1 hd, HM2.out.2⟩
      clear hd HM2
      cases b3
      · go_wp2
        go_ret
        exact ⟨ad, m, c, D, rfl, HM3.out.1⟩
      · by_cases hm0 : 0 < m
        · have hm0' : (0 : Int) < (m : Int) := by omega
          have hpk : pkB D = true := by
            rcases HM3.out.2 with h | h
            · omega
            · exact h
          have hm40 := HM3.out.1.2.2
          obtain ⟨g, rfl⟩ := mds_shape HM3.out.1 hm0
          have HMM := hide HM3.out.1
          have hDn : D.n = m := (po_at HMM.out.2.1).1
          have hDN := hide hDn
          clear HM3 hDn
          go_wp2_with fail
          refine (d_belowM G a n cap zs (m : Int) _ (by omega) (by omega) HMM.out.1.1).mono ?_
          rintro e w4 ⟨x, hx0, hx1, rfl, hd⟩
          replace HMM := hide (mds_drew HMM.out hd)
          clear hd
          obtain ⟨i, rfl⟩ : ∃ i : Nat, x = i := ⟨x.toNat, by omega⟩
          have him : i < m := by omega
          go_wp2_with fail
          refine (d_below G a n cap zs 3 _ (by omega) (by omega) HMM.out.1.1).mono ?_
          rintro e w5 ⟨y, hy0, hy1, rfl, hd⟩
          replace HMM := hide (mds_drew HMM.out hd)
          clear hd
          rcases (show y = 0 ∨ y = 1 ∨ y = 2 by omega) with rfl | rfl | rfl
          · go_wp2_with fail
            refine (d_offG G a n cap zs 0 3 _ (by omega) (by omega) (by omega) HMM.out.1.1).mono ?_
            rintro e w6 ⟨z, rfl, hd⟩
            replace HMM := hide (mds_drew HMM.out hd)
            clear hd
            obtain ⟨⟨v0, hv0⟩, hf0⟩ := mds_cell HMM.out (i * 4 + 3) (by omega)
            go_wp2
            go_ret
            exact ⟨_, m, c, _, rfl, mds_set HMM.out (i * 4 + 3) (.int .i64 z) (fun j => by omega) (fun xs hl h => pits_O z him hl h)⟩
          · go_wp2_with fail
            refine (d_offG G a n cap zs 1 4 _ (by omega) (by omega) (by omega) HMM.out.1.1).mono ?_
            rintro e w6 ⟨z, rfl, hd⟩
            replace HMM := hide (mds_drew HMM.out hd)
            clear hd
            obtain ⟨⟨v0, hv0⟩, hf0⟩ := mds_cell HMM.out (i * 4) (by omega)
            go_wp2
            go_ret
            exact ⟨_, m, c, _, rfl, mds_set HMM.out (i * 4) (.int .i64 z) (fun j => by omega) (fun xs hl h => pits_K z him hl h)⟩
          · obtain ⟨L, hL⟩ : ∃ L, D.KL i = L := ⟨_, rfl⟩
            have hl40 : L.length ≤ 40 := by rw [← hL]; exact pk_klen hpk (by rw [hDN.out]; exact him)
            have HL := hide hL
            have HKD : Hid (∃ kad kc, w5.cell? ⟨g, i * 4 + 2, none⟩ = some (.slice kad L.length kc) ∧ w5.ownsRow 0 2 1 (.slice kad L.length kc) L.length (L.map (Value.int .i64)) ∧ ∀ k, (Value.slice kad L.length kc).ownBlock = some k → G < k) := hide (by
              obtain ⟨xs, h1, h2, -⟩ := HMM.out.2.1
              obtain ⟨kad, kc, ⟨-, -, e2, -⟩, b2, b3, -⟩ := h2.2 i him
              rw [hL] at e2 b2 b3
              exact ⟨kad, kc, (h1.cellAt _ (by omega)).trans e2, b2, b3⟩)
            obtain ⟨kad, kc, hkc, hko, hkG⟩ := HKD.out
            have HKO := hide hko
            have HKC := hide hkc
            have HKG := hide hkG
            have HKP : Hid (∀ W, Kp (fun k => k = G) w5 W → W.cell? ⟨g, i * 4 + 2, none⟩ = some (.slice kad L.length kc)) := hide (fun W k9 => by
              obtain ⟨xs, h1, -⟩ := HMM.out.2.1
              have hg9 := h1.lt g rfl
              exact (World.cell?_of_block (a := ⟨g, i * 4 + 2, none⟩) (k9.block g hg9.2 (by show ¬ g = G; omega))).trans hkc)
            clear hL hko hkG HKD hpk
            go_wp2_with fail
            have hkd : w5.drew.cell? ⟨g, i * 4 + 2, none⟩ = some (.slice kad L.length kc) := hkc
            go_region_law (first
              | (go_simp; go_at_call 46; refine (d_offG G a n cap zs 0 (i : Int) _ (by omega) (by omega) (by omega) (mds_dr HMM.out).1.1).mono ?_; rintro e w6 ⟨z, rfl, hd⟩; have HM6 := hide (mds_drew (mds_dr HMM.out) hd); have k6 : Kp (fun k => k = G) w5 w6 := (kp_drew w5).trans (kp_grown (S := fun k => k = G) hd.2 (fun k hk => by cases hk; rfl)) (fun _ _ h => h); have HKO6 := hide (own_kp HKO.out k6 (fun k hk e9 => by have := HKG.out k hk; have e9' : k = G := e9; omega)); have hc6 := HKP.out w6 k6; have hc6a : ∀ o, (w6.alloc o).cell? ⟨g, i * 4 + 2, none⟩ = some (.slice kad L.length kc) := (fun o => HKP.out _ (k6.trans (kp_alloc w6 o) (fun _ _ h => h))); clear hd k6)
              | (refine step_append_lies _ (by rfl) _ _ _ (by rfl) 0 2 i0 _ 1 8 Try.underlying44 hi0 hz0 hz1 hz2 rfl (by omega) (.slice kad L.length kc) L.length (L.map (Value.int .i64)) (by rfl) (HKO6.out.alloc _) ⟨w6.heap.size, 0, none⟩ 1 1 [.int .i64 z] (by rfl) (by rfl) (World.news_of_block (cs := #[.int .i64 z]) (t := 2) (fr := (0, 0)) (heap_alloc_new w6 _)) (by simp [Value.oneCell']) (by omega) (by unfold maxLen; omega) (by omega) (Nat.zero_le _) (w6.heap.size + 1) (by simp) ?_; intro gg cap' w9 hown9 hgrow9 hat9 hlt9; have H9 := hide (mds_kid (x := z) HM6.out him HL.out (by omega) hc6 hown9 hgrow9 hat9); obtain ⟨⟨v9, hv9⟩, hf9⟩ := H9.out.1; clear hown9 hgrow9 hat9)
              | (fail))
            all_goals
              go_wp2
              go_ret
              exact ⟨_, m, c, _, rfl, H9.out.2⟩
        · have hm0' : ¬ (0 : Int) < (m : Int) := by omega
          go_wp2
          go_ret
          exact ⟨ad, m, c, D, rfl, HM3.out.1⟩
end Go.Proofs.Ytfohfljdgmlibaa
