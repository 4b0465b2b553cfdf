/-
  Texts put together: DocAt, BnB, BnSc, BnSd.
-/
import Derived.Test.YtogeicckbdfldaaDoorN1
import Derived.Test.YtogeicckbdfldaaDoorN3
import Derived.Lib.Builder
import Derived.Deep.AppendLies
import Derived.Deep.RegionLaw
import Derived.RegionTactic
import Derived.Deep.QuietTactic
import Derived.BigQuiet
/-
  Contracts: is there an attribute of that name; how many bytes an item has.
-/
namespace Go.Proofs.YtogeicckbdfldaaDoor
open Go.RowKit Go.Joins
set_option linter.unusedVariables false
set_option linter.unusedSimpArgs false
def sameS (x y : ByteArray) : Bool := x.toList == y.toList
/-- One of the first n has that name. -/
def anyS (n : Nat) (N : Nat → ByteArray) (s : ByteArray) : Bool := (List.range n).any fun k => sameS (N k) s
theorem anyS_hit {n k : Nat} {N : Nat → ByteArray} {s : ByteArray} (hk : k < n) (h : ((N k).toList == s.toList) = true) : anyS n N s = true := by
  unfold anyS
  rw [List.any_eq_true]
  exact ⟨k, by simpa using hk, h⟩
theorem anyS_no {n : Nat} {N : Nat → ByteArray} {s : ByteArray} (h : ∀ k, k < n → ((N k).toList == s.toList) = false) : anyS n N s = false := by
  unfold anyS
  rw [List.any_eq_false]
  intro k hk
  have := h k (by simpa using hk)
  show ¬ (sameS (N k) s) = true
  unfold sameS
  rw [this]
  decide
/-- What the first attribute of a name says; nothing, when there is none. -/
def AttrIs (n : Nat) (N V : Nat → ByteArray) (s v : ByteArray) : Prop := (anyS n N s = false ∧ v = ⟨#[]⟩) ∨ (anyS n N s = true ∧ ∃ k, k < n ∧ ((N k).toList == s.toList) = true ∧ (∀ j, j < k → ((N j).toList == s.toList) = false) ∧ v = V k)
set_option maxHeartbeats 1000000 in
theorem i_attrV (a : Option Addr) (n c : Nat) (N V : Nat → ByteArray) (s : ByteArray) (w : World) (hn : n ≤ 1048576) (hr : AtAt w a n N V w.heap.size) :
    Calls Tryd.prog 82 #[.slice a n c, .string s] w fun e w' => ∃ v, e = .returned (.tuple #[.string v, .bool (anyS n N s)]) ∧ AttrIs n N V s v ∧ Below w.heap.size w w' := by
  have HR := hide hr
  clear hr
  go_enter Tryd.func82, Tryd.ntmps82
  go_wp2
  go_loopw [10] (fun i wr => ∃ k : Nat, k ≤ n ∧ i = .int .i64 k ∧ Below w.heap.size w wr ∧ Hid (∀ j, j < k → ((N j).toList == s.toList) = false)) (fun i _ => n - (intOf i).toNat)
  case atStart => exact ⟨0, Nat.zero_le _, rfl, Below.refl _ _, fun j h => by omega⟩
  case round =>
    obtain ⟨k, hk, rfl, hb, HM⟩ := hrel
    by_cases hlt : k < n
    · obtain ⟨b, off, rfl, hbs, hc⟩ := HR.out (by omega)
      have c0 : wr.cell? ⟨b, off + k * 2, none⟩ = some (.string (N k)) := (hb.cell hbs).trans (hc k hlt).1
      have c1 : wr.cell? ⟨b, off + k * 2 + 1, none⟩ = some (.string (V k)) := (hb.cell hbs).trans (hc k hlt).2
      have HB := hide hb
      clear hc hb
      cases he : ((N k).toList == s.toList)
      · go_wp2
        go_roundw
        case rel =>
          refine ⟨k + 1, by omega, by go_num, HB.out.alloc HB.out.size _, fun j hj => ?_⟩
          by_cases e : j = k
          · subst e; exact he
          · exact HM.out j (by omega)
        case measure => simp [intOf]; omega
      · have HA := hide (anyS_hit hlt he)
        have HE := hide he
        go_wp2
        go_ret2
        exact ⟨V k, by rw [HA.out]; rfl, .inr ⟨HA.out, k, hlt, HE.out, HM.out, rfl⟩, HB.out.alloc HB.out.size _⟩
    · have hkn : k = n := by omega
      subst hkn
      have HA := hide (anyS_no HM.out)
      go_wp2
      go_ret2
      exact ⟨⟨#[]⟩, by rw [HA.out]; rfl, .inl ⟨HA.out, rfl⟩, hb⟩
set_option maxHeartbeats 1000000 in
theorem i_has (a : Option Addr) (n c : Nat) (N V : Nat → ByteArray) (s : ByteArray) (w : World) (hn : n ≤ 1048576) (hr : AtAt w a n N V w.heap.size) :
    Calls Tryd.prog 74 #[.slice a n c, .string s] w fun e w' => e = .returned (.bool (anyS n N s)) ∧ Below w.heap.size w w' := by
  have C := hide (i_attrV a n c N V s w hn hr)
  clear hr
  go_enter Tryd.func74, Tryd.ntmps74
  go_wp2_with (first | (go_at_call 82; refine C.out.mono ?_; rintro e w2 ⟨v, rfl, -, hb⟩; have HB := hide hb; clear hb))
  go_ret
  exact ⟨rfl, HB.out⟩
def atsT (n : Nat) (N V : Nat → ByteArray) : Nat := sumN (atSz N V) n
set_option maxHeartbeats 1000000 in
theorem i_size (up : Int) (nm tx : ByteArray) (a : Option Addr) (n c : Nat) (N V : Nat → ByteArray) (w : World) (hs : nm.size + tx.size + n + atsT n N V ≤ 1048576) (hr : AtAt w a n N V w.heap.size) :
    Calls Tryd.prog 35 #[.agg #[.int .i64 up, .string nm, .string tx, .slice a n c]] w fun e w' => e = .returned (.int .i64 ((nm.size + tx.size + atsT n N V : Nat) : Int)) ∧ Below w.heap.size w w' := by
  have HR := hide hr
  have HS := hide hs
  have hn : n ≤ 1048576 := by omega
  have hx : (nm.size : Int) ≤ 1048576 := by omega
  have hy : (tx.size : Int) ≤ 1048576 := by omega
  clear hr hs
  go_enter Tryd.func35, Tryd.ntmps35
  go_wp2
  go_loopw [3, 16] (fun t i wr => ∃ k : Nat, k ≤ n ∧ i = .int .i64 k ∧ t = .int .i64 ((nm.size : Int) + tx.size + (sumN (atSz N V) k : Int)) ∧ Below w.heap.size w wr) (fun _ i _ => n - (intOf i).toNat)
  case atStart => exact ⟨0, Nat.zero_le _, rfl, by simp [sumN], (Below.refl _ _).alloc (Nat.le_refl _) _⟩
  case round =>
    obtain ⟨k, hk, rfl, rfl, hb⟩ := hrel
    have hle := sumN_le (atSz N V) hk
    have hall := HS.out
    unfold atsT at hall
    by_cases hlt : k < n
    · obtain ⟨b, off, rfl, hbs, hc⟩ := HR.out (by omega)
      have c0 : wr.cell? ⟨b, off + k * 2, none⟩ = some (.string (N k)) := (hb.cell hbs).trans (hc k hlt).1
      have c1 : wr.cell? ⟨b, off + k * 2 + 1, none⟩ = some (.string (V k)) := (hb.cell hbs).trans (hc k hlt).2
      have HB := hide hb
      have hle2 := sumN_at (atSz N V) hlt
      have hat : atSz N V k = (N k).size + (V k).size := rfl
      rw [hat] at hle2
      obtain ⟨q, hq⟩ : ∃ q, sumN (atSz N V) k = q := ⟨_, rfl⟩
      have HQ1 : Hid (sumN (atSz N V) (k + 1) = q + ((N k).size + (V k).size)) := hide (by rw [← hq]; rfl)
      rw [hq] at hle hle2 ⊢
      have hz1 : (nm.size : Int) + (tx.size : Int) + (q : Int) + ((N k).size : Int) + ((V k).size : Int) ≤ 1048576 := by omega
      clear hc hb hat hq hle hle2 hall
      go_wp2
      go_roundw
      case rel => exact ⟨k + 1, by omega, by go_num, by rw [HQ1.out]; go_num, HB.out.alloc HB.out.size _⟩
      case measure => simp [intOf]; omega
    · have hkn : k = n := by omega
      subst hkn
      go_wp2
      go_ret
      exact ⟨ret_iI (by unfold atsT; omega), hb⟩
end Go.Proofs.YtogeicckbdfldaaDoor

/-
  Contracts: the map of an item's bindings, made by the program.
-/
namespace Go.Proofs.YtogeicckbdfldaaDoor
open Go.RowKit Go.Maps
set_option linter.unusedVariables false
set_option linter.unusedSimpArgs false
/-- What the first k attributes bind: the last one counts. -/
def mF (N V : Nat → ByteArray) : Nat → ByteArray → Option ByteArray
  | 0, _ => none
  | k + 1, q => if bdK (N k) = some q then some (V k) else mF N V k q
theorem mF_none {N V : Nat → ByteArray} {k : Nat} (h : bdK (N k) = none) : mF N V (k + 1) = mF N V k := by
  funext q
  show (if bdK (N k) = some q then some (V k) else mF N V k q) = _
  rw [h]; rfl
theorem mF_some {N V : Nat → ByteArray} {k : Nat} {p : ByteArray} (h : bdK (N k) = some p) : mF N V (k + 1) = fun q => if q = p then some (V k) else mF N V k q := by
  funext q
  show (if bdK (N k) = some q then some (V k) else mF N V k q) = _
  rw [h]
  by_cases e : q = p
  · subst e; simp
  · rw [if_neg e, if_neg (fun e2 => e (Option.some.inj e2).symm)]
theorem bdK_size {nm p : ByteArray} (h : bdK nm = some p) : p.size ≤ nm.size := by
  unfold bdK at h
  split at h
  · cases h
    unfold spl
    repeat' split
    · exact Nat.le_refl _
    · exact Nat.zero_le _
    · show (post nm).size ≤ _
      unfold post
      rw [ByteArray.size_extract]
      omega
    · exact Nat.zero_le _
  · split at h
    · cases h; exact Nat.zero_le _
    · cases h
/-- A map of bindings that says f. -/
def MapAt (w : World) (b n : Nat) (f : ByteArray → Option ByteArray) : Prop := ∃ D : DataW Unit, w.ownsMap Tryd.prog 9 bR b n D ∧ MapSays D f
theorem own_dr {w : World} {b n : Nat} {D : DataW Unit} (h : w.ownsMap Tryd.prog 9 bR b n D) (q : Nat) : (w.drewN q).ownsMap Tryd.prog 9 bR b n D := h
theorem below_dr {b : Nat} {w w1 : World} (h : Below b w w1) (q : Nat) : Below b w (w1.drewN q) := h.trans ⟨rfl, rfl, rfl, Nat.le_refl _, fun _ _ => rfl⟩
set_option maxRecDepth 100000 in
set_option maxHeartbeats 2000000 in
theorem i_bindings (a : Option Addr) (n c : Nat) (N V : Nat → ByteArray) (w : World) (hn : n ≤ 1048576) (hN : ∀ j, j < n → (N j).size ≤ 1048576) (hr : AtAt w a n N V w.heap.size) :
    Calls Tryd.prog 60 #[.slice a n c] w fun e w' => e = .returned (.map (some w.heap.size)) ∧ MapAt w' w.heap.size n (mF N V n) ∧ Below w.heap.size w w' := by
  have HR := hide hr
  have HNS := hide hN
  clear hr hN
  have hmm := @run_makeMap Tryd.prog
  go_enter Tryd.func60, Tryd.ntmps60
  go_wp2
  clear hmm
  go_loopw [11] (fun i wr => ∃ k : Nat, k ≤ n ∧ i = .int .i64 k ∧ Hid (Below w.heap.size w wr) ∧ Hid (MapAt wr w.heap.size k (mF N V k))) (fun i _ => n - (intOf i).toNat)
  case atStart => exact ⟨0, Nat.zero_le _, rfl, hide ((Below.refl _ _).alloc (Nat.le_refl _) _), hide ⟨_, World.ownsMap_made w Tryd.prog 9 bR, says_nil⟩⟩
  case round =>
    obtain ⟨k, hk, rfl, HB, HMp⟩ := hrel
    by_cases hlt : k < n
    · obtain ⟨b, off, rfl, hbs, hc⟩ := HR.out (by omega)
      have c0 : wr.cell? ⟨b, off + k * 2, none⟩ = some (.string (N k)) := (HB.out.cell hbs).trans (hc k hlt).1
      have c1 : wr.cell? ⟨b, off + k * 2 + 1, none⟩ = some (.string (V k)) := (HB.out.cell hbs).trans (hc k hlt).2
      have hNk := HNS.out k hlt
      have CB := hide (fun (w : World) => i_binds (N k) w hNk)
      obtain ⟨D, hown, hsay⟩ := HMp.out
      have HO := hide hown
      have HSy := hide hsay
      clear hc hown hsay
      cases hB : bdK (N k) with
      | none =>
        rw [hB] at CB
        have HF := hide (mF_none (V := V) hB)
        clear hB
        go_wp2_with (go_at_call 61; refine (CB.out _).mono ?_; rintro e w2 ⟨rfl, q, rfl⟩)
        go_roundw
        case rel => exact ⟨k + 1, by omega, by go_num, hide (below_dr (HB.out.alloc HB.out.size _) _), hide (by rw [HF.out]; exact ⟨D, (own_dr (HO.out.alloc _) _).mono (Nat.le_succ _), HSy.out⟩)⟩
        case measure => simp [intOf]; omega
      | some p =>
        rw [hB] at CB
        have HF := hide (mF_some (V := V) hB)
        have hps : p.size ≤ maxLen := by have := bdK_size hB; unfold maxLen; omega
        clear hB
        go_wp2_with (first
          | (go_at_call 61; refine (CB.out _).mono ?_; rintro e w2 ⟨rfl, q, rfl⟩)
          | (at_mapUpdate; refine wpList_mapUpdate_own _ rfl _ _ _ 80 rfl 9 86 lawK Tryd.underlying80 bR w.heap.size k D rfl (own_dr (HO.out.alloc _) _) (by unfold maxLen; omega) _ _ (kL p) rfl rfl (Go.WideMaps.keyOf_string_mk Tryd.underlying9 hps) _ [] (bR_mk (V k)) ?_; intro w3 hown3 hg3; have HO3 := hide hown3; have HB3 := hide ((below_dr (HB.out.alloc HB.out.size _) _).grown hg3 (by have := HB.out.size; simp; omega) (fun j hj => by cases hj; exact Nat.le_refl _)); clear hown3 hg3))
        go_roundw
        case rel => exact ⟨k + 1, by omega, by go_num, HB3, hide (by rw [HF.out]; exact ⟨_, HO3.out, says_put HSy.out p (V k)⟩)⟩
        case measure => simp [intOf]; omega
    · have hkn : k = n := by omega
      subst hkn
      go_wp2
      go_ret
      exact ⟨rfl, HMp.out, HB.out⟩
end Go.Proofs.YtogeicckbdfldaaDoor

/-
  Contracts: the maps of all items' bindings, made by the program.
-/
namespace Go.Proofs.YtogeicckbdfldaaDoor
open Go.RowKit Go.Maps
set_option linter.unusedVariables false
set_option linter.unusedSimpArgs false
theorem infoM : (Tryd.prog.info? 80).map (fun i => (i.zero, i.size, i.bytes)) = some (some (.map none), 1, 8) := by kernel_rfl
theorem map_below {w w' : World} {b n : Nat} {f : ByteArray → Option ByteArray} (h : MapAt w b n f) (hb : Below w.heap.size w w') : MapAt w' b n f := by
  obtain ⟨D, h1, h2⟩ := h
  exact ⟨D, h1.kept (row := none) ⟨hb.os, hb.tape, hb.output, hb.size, fun k hk _ => hb.block k hk⟩ (by simp), h2⟩
theorem map_grown {w w' : World} {b n : Nat} {row : Option Nat} {f : ByteArray → Option ByteArray} (h : MapAt w b n f) (hg : w.grownBy w' row) (hne : some b ≠ row) : MapAt w' b n f := by
  obtain ⟨D, h1, h2⟩ := h
  exact ⟨D, h1.kept hg hne, h2⟩
theorem map_set {w : World} {b n : Nat} {f : ByteArray → Option ByteArray} (h : MapAt w b n f) (p : Addr) (v : Value) (hne : p.block ≠ b) : MapAt (w.setCell p v) b n f := by
  refine map_grown h (row := some p.block) ⟨rfl, rfl, rfl, by simp [World.setCell], fun k _ hk => heap_setCell_far w p v k (fun e => hk (by rw [e]))⟩ (fun e => hne (Option.some.inj e).symm)
theorem map_block {w : World} {b n : Nat} {f : ByteArray → Option ByteArray} (h : MapAt w b n f) {cs : Array Value} {T : TypeId} {fr : Nat × Nat} {g : Nat} (hg : w.heap[g]? = some (.cells cs T fr)) : g ≠ b := by
  intro e
  subst e
  obtain ⟨D, ⟨es, cl, h1, _⟩, _⟩ := h
  rw [hg] at h1
  cases h1
/-- The maps of the first k items lie in the blocks ms. -/
def MapsAt (w : World) (D : Dc) (ms : List Nat) : Prop := ∀ j (h : j < ms.length), MapAt w ms[j] (D.AC j) (mF (D.AN j) (D.AV j) (D.AC j))
/-- While the maps are made. -/
def ScRel (w0 wr : World) (D : Dc) (l : Value) (k : Nat) : Prop := ∃ ms : List Nat, ms.length = k ∧ Lib.BuilderAt 62 80 w0.heap.size (w0.heap.size + 1) l (ms.map fun b => Value.map (some b)) wr ∧ MapsAt wr D ms ∧ Below w0.heap.size w0 wr ∧ wr.heap[w0.heap.size]? = some (.cells #[.slice none 0 0, .slice none 0 0] 62 (0, 0))
abbrev ST : TypeId := 62
abbrev MT : TypeId := 80
theorem sc_shape {w : World} {B : Nat} {e : TypeId} {v : Value} {n : Nat} {xs : List Value} (h : w.ownsRow B e 1 v n xs) : ∃ ad cap, v = .slice ad n cap := by
  rcases h.2 with ⟨rfl, rfl⟩ | ⟨g, cap, cur, rfl, _⟩
  · exact ⟨_, _, rfl⟩
  · exact ⟨_, _, rfl⟩
theorem row_ne {w : World} {B : Nat} {v : Value} {n : Nat} {xs : List Value} (h : w.ownsRow B MT 1 v n xs) {b m : Nat} {f : ByteArray → Option ByteArray} (hm : MapAt w b m f) : some b ≠ v.ownBlock := by
  rcases h.2 with ⟨rfl, rfl⟩ | ⟨g, cap, cur, rfl, _, hg, _⟩
  · simp [Value.ownBlock]
  · intro e
    simp only [Value.ownBlock, Option.some.injEq] at e
    exact map_block hm hg e.symm
theorem own_bel {w w' : World} {B : Nat} {v : Value} {n : Nat} {xs : List Value} (h : w.ownsRow B MT 1 v n xs) (hb : Below w.heap.size w w') : w'.ownsRow B MT 1 v n xs := by
  refine h.kept (row := none) ⟨hb.os, hb.tape, hb.output, hb.size, fun k hk _ => hb.block k hk⟩ ?_
  cases hv : v.ownBlock with
  | none => exact .inl rfl
  | some k => exact .inr (by simp)
/-- What holds behind the call, and behind the append and the store. -/
theorem sc_next {w wr w5 w6 : World} {D : Dc} {l v v6 : Value} {k : Nat} {ms : List Nat} {o o5 : Obj} (hml : ms.length = k) (hbk : wr.heap[w.heap.size + 1]? = some (.cells #[l, v] ST (0, 0))) (hown : wr.ownsRow w.heap.size MT 1 v k (ms.map fun b => Value.map (some b))) (hne : v.ownBlock ≠ some (w.heap.size + 1)) (hms : MapsAt wr D ms) (hb : Below w.heap.size w wr) (hrb : wr.heap[w.heap.size]? = some (.cells #[.slice none 0 0, .slice none 0 0] ST (0, 0)))
    (hb5 : Below (wr.heap.size + 1) (wr.alloc o) w5) (hmp : MapAt w5 (wr.heap.size + 1) (D.AC k) (mF (D.AN k) (D.AV k) (D.AC k))) (hg : (w5.alloc o5).grownBy w6 v.ownBlock) (ho6 : w6.ownsRow w.heap.size MT 1 v6 (k + 1) ((ms.map fun b => Value.map (some b)) ++ [.map (some (wr.heap.size + 1))])) :
    w6.heap[w.heap.size + 1]? = some (.cells #[l, v] ST (0, 0)) ∧ ScRel w (w6.setCell ⟨w.heap.size + 1, 1, none⟩ v6) D l (k + 1) := by
  have hlt : w.heap.size + 1 < wr.heap.size := (Array.getElem?_eq_some_iff.1 hbk).1
  have hs5 : wr.heap.size + 1 ≤ w5.heap.size := by have := hb5.size; simpa using this
  have hbelow : Below wr.heap.size wr w5 := ((Below.refl wr.heap.size wr).alloc (Nat.le_refl _) o).trans (hb5.mono (Nat.le_succ _))
  have hbk5 : w5.heap[w.heap.size + 1]? = some (.cells #[l, v] ST (0, 0)) := (hbelow.block _ hlt).trans hbk
  have hbk6 : w6.heap[w.heap.size + 1]? = some (.cells #[l, v] ST (0, 0)) := (hg.block _ (by simp; omega) (fun e => hne e.symm)).trans ((Lib.alloc_old w5 o5 _ (by omega)).trans hbk5)
  have hown5 : (w5.alloc o5).ownsRow w.heap.size MT 1 v k (ms.map fun b => Value.map (some b)) := (own_bel hown hbelow).alloc o5
  have hup : ∀ {b m : Nat} {f : ByteArray → Option ByteArray}, MapAt w5 b m f → MapAt (w6.setCell ⟨w.heap.size + 1, 1, none⟩ v6) b m f := fun {b m f} h => by
    have h1 : MapAt (w5.alloc o5) b m f := map_grown h (World.grownBy_alloc w5 o5 none) (by simp)
    have h2 : MapAt w6 b m f := map_grown h1 hg (row_ne hown5 h1)
    exact map_set h2 _ _ (map_block h2 hbk6)
  refine ⟨hbk6, ms ++ [wr.heap.size + 1], by simp [hml], ?_, ?_, ?_, ?_⟩
  · have hl : (((ms ++ [wr.heap.size + 1]).map fun b => Value.map (some b))).length = k + 1 := by simp [hml]
    exact Lib.BuilderAt.put (T := ST) (e := MT) (Nat.le_succ _) hbk6 (by rw [hl]; simpa using ho6) (by decide)
  · intro j hj
    rw [List.length_append, List.length_singleton] at hj
    by_cases e : j < ms.length
    · rw [List.getElem_append_left e]
      exact hup (map_below (hms j e) hbelow)
    · have ej : j = k := by omega
      subst ej
      have e2 : (ms ++ [wr.heap.size + 1])[ms.length]'(by simp) = wr.heap.size + 1 := by simp
      subst hml
      rw [e2]
      exact hup hmp
  · exact (((hb.trans (hbelow.mono hb.size)).alloc (by have := hb.size; omega) o5).grown hg (by have := hb.size; simp; omega) (fun j hj => (hown.lt j hj).1)).setCell (p := ⟨w.heap.size + 1, 1, none⟩) (Nat.le_succ _) _
  · refine (heap_setCell_far w6 ⟨w.heap.size + 1, 1, none⟩ v6 w.heap.size (by show w.heap.size + 1 ≠ w.heap.size; omega)).trans ?_
    refine (hg.block _ (by simp; omega) (fun e => Lib.ownBlock_ne hown hrb (by decide) e.symm)).trans ?_
    exact (Lib.alloc_old w5 o5 _ (by omega)).trans ((hbelow.block _ (by omega)).trans hrb)
theorem below_d1 {b : Nat} {w w1 : World} (h : Below b w w1) : Below b w w1.drew := ⟨h.os, h.tape, h.output, h.size, h.block⟩
theorem bel_5 {wr w5 : World} {o : Obj} (h : Below (wr.alloc o).drew.heap.size (wr.alloc o).drew w5) : Below (wr.heap.size + 1) (wr.alloc o) w5 := by
  have e : (wr.alloc o).drew.heap.size = wr.heap.size + 1 := by show (wr.alloc o).heap.size = _; simp
  rw [e] at h
  exact ⟨h.os, h.tape, h.output, h.size, h.block⟩
theorem map_5 {wr w5 : World} {o : Obj} {n : Nat} {f : ByteArray → Option ByteArray} (h : MapAt w5 (wr.alloc o).drew.heap.size n f) : MapAt w5 (wr.heap.size + 1) n f := by
  have e : (wr.alloc o).drew.heap.size = wr.heap.size + 1 := by show (wr.alloc o).heap.size = _; simp
  rw [e] at h
  exact h
end Go.Proofs.YtogeicckbdfldaaDoor

/-
  Contracts: the maps of all items' bindings, made by the program: scopesOf.
-/
namespace Go.Proofs.YtogeicckbdfldaaDoor
open Go.RowKit Go.Maps
set_option linter.unusedVariables false
set_option linter.unusedSimpArgs false
theorem own_set {w : World} {B : Nat} {v : Value} {n : Nat} {xs : List Value} (h : w.ownsRow B MT 1 v n xs) (p : Addr) (u : Value) (hne : v.ownBlock ≠ some p.block) : (w.setCell p u).ownsRow B MT 1 v n xs :=
  h.kept (row := some p.block) ⟨rfl, rfl, rfl, by simp [World.setCell], fun k _ hk => heap_setCell_far w p u k (fun e => hk (by rw [e]))⟩ (.inr hne)
set_option maxRecDepth 100000 in
set_option maxHeartbeats 4000000 in
theorem i_scopes (D : Dc) (n b off cap : Nat) (w : World) (hD : D.n = n) (hn : n ≤ 200) (hbs : b < w.heap.size) (hr : DcRow w b off D w.heap.size) (hac : ∀ j, j < n → D.AC j ≤ 1048576 ∧ ∀ i, i < D.AC j → (D.AN j i).size ≤ 1048576) :
    Calls Tryd.prog 37 #[.slice (some ⟨b, off, none⟩) n cap] w fun e w' => ∃ (sa : Option Addr) (c : Nat) (ms : List Nat), e = .returned (.agg #[.slice (some ⟨b, off, none⟩) n cap, .slice sa n c]) ∧ ms.length = n ∧ w'.ownsRow w.heap.size MT 1 (.slice sa n c) n (ms.map fun b => Value.map (some b)) ∧ MapsAt w' D ms ∧ Below w.heap.size w w' := by
  obtain ⟨i0, hi, hz0, hz1, hz2⟩ := info_parts infoM
  have HD := hide hD
  have HR := hide hr
  have HAC := hide hac
  clear hr hD hac
  go_enter Tryd.func37, Tryd.ntmps37
  go_wp2
  go_loopw [10] (fun i wr => ∃ k : Nat, k ≤ n ∧ i = .int .i64 k ∧ Hid (ScRel w wr D (.slice (some ⟨b, off, none⟩) n cap) k)) (fun i _ => n - (intOf i).toNat)
  case atStart =>
    refine ⟨0, Nat.zero_le _, rfl, hide ⟨[], rfl, ⟨Nat.le_succ _, .slice none 0 0, ?_, World.ownsRow_nil _ _ _ _, by simp [Value.ownBlock]⟩, fun j h => absurd h (Nat.not_lt_zero _), ?_, ?_⟩⟩
    · have h := heap_alloc_new (w.alloc (.cells #[.slice none 0 0, .slice none 0 0] ST)) (.cells #[.slice (some ⟨b, off, none⟩) n cap, .slice none 0 0] ST)
      simpa using h
    · exact ((Below.refl _ _).alloc (Nat.le_refl _) _).alloc (by simp) _
    · exact (Lib.alloc_old _ _ _ (by simp)).trans (heap_alloc_new w _)
  case round =>
    obtain ⟨k, hk, rfl, HRel⟩ := hrel
    by_cases hlt : k < n
    · obtain ⟨ms, hml, ⟨hB, v, hbk, hown, hne⟩, hms, hb, hrb⟩ := HRel.out
      have hlen : (ms.map fun b => Value.map (some b)).length = k := by simp [hml]
      rw [hlen] at hown
      obtain ⟨sa, cp, hv⟩ := sc_shape hown
      subst hv
      obtain ⟨ad, cpA, hcell, hat, hcp⟩ := HR.out k (by rw [HD.out]; omega)
      obtain ⟨c0, c1, c2, c3⟩ := dcCells_go hcell hbs hb
      obtain ⟨hac, han⟩ := HAC.out k hlt
      have hsz := hb.size
      have hSlt : w.heap.size + 1 < wr.heap.size := (Array.getElem?_eq_some_iff.1 hbk).1
      have s1 : ∀ o, (wr.alloc o).drew.cell? ⟨w.heap.size + 1, 1, none⟩ = some (.slice sa k cp) := fun o => by
        show (wr.alloc o).cell? _ = _
        rw [Lib.cell_of_heap ((Lib.alloc_old wr o _ hSlt).trans hbk)]; rfl
      have CB := hide (fun (o : Obj) => i_bindings ad (D.AC k) cpA (D.AN k) (D.AV k) (wr.alloc o).drew hac han (atAt_up (atAt_go hat (below_d1 (hb.alloc hb.size o))) (by show w.heap.size ≤ (wr.alloc o).heap.size; simp; omega)))
      have PK := hide (fun (w5 w6 : World) (o o5 : Obj) (v6 : Value) => sc_next (w := w) (wr := wr) (w5 := w5) (w6 := w6) (D := D) (v6 := v6) (o := o) (o5 := o5) hml hbk hown hne hms hb hrb)
      have HOW := hide hown
      have HBK := hide hbk
      have HNE := hide hne
      clear hcell hat hown hbk hne hms hb hlen hrb HRel
      go_wp2_with fail
      have hs4 := s1 (.cells #[.int .i64 (D.U k), .string (D.NM k), .string (D.TX k), .slice ad (D.AC k) cpA] 34)
      go_region_law (first
        | (go_simp; go_at_call 60; refine (CB.out _).mono ?_; rintro e w5 ⟨rfl, hmp, hb5⟩; have HMP := hide (map_5 hmp); have HB5 := hide (bel_5 hb5); have hsz5 : wr.heap.size + 1 ≤ w5.heap.size := (by have := HB5.out.size; simpa using this); have BK5 := hide ((HB5.out.block _ (by omega)).trans ((Lib.alloc_old wr _ _ hSlt).trans HBK.out)); have hs5 : w5.cell? ⟨w.heap.size + 1, 1, none⟩ = some (.slice sa k cp) := (by rw [Lib.cell_of_heap BK5.out]; rfl); have hs5a : ∀ o, (w5.alloc o).cell? ⟨w.heap.size + 1, 1, none⟩ = some (.slice sa k cp) := (fun o => by rw [Lib.cell_of_heap ((Lib.alloc_old w5 o _ (by omega)).trans BK5.out)]; rfl); have HO5 := hide (own_bel HOW.out (((Below.refl wr.heap.size wr).alloc (Nat.le_refl _) _).trans (HB5.out.mono (Nat.le_succ _)))); clear hmp hb5)
        | (refine step_append_lies _ (by rfl) _ _ _ (by rfl) w.heap.size MT i0 _ 1 8 Tryd.underlying60 hi hz0 hz1 hz2 rfl (by omega) (.slice sa k cp) k (ms.map fun b => Value.map (some b)) (by rfl) (HO5.out.alloc _) ⟨w5.heap.size, 0, none⟩ 1 1 [.map (some (wr.heap.size + 1))] (by rfl) (by rfl) (World.news_of_block (cs := #[.map (some (wr.heap.size + 1))]) (t := MT) (fr := (0, 0)) (heap_alloc_new w5 _)) (by simp [Value.oneCell']) (by omega) (by unfold maxLen; omega) (by omega) (by simp; omega) (w5.heap.size + 1) (by simp) ?_; intro gg cap' w6 hown6 hgrow6 hat6 hlt6; obtain ⟨bk6, hrel6⟩ := PK.out w5 w6 _ _ _ HB5.out HMP.out hgrow6 hown6; have d1 : w6.cell? ⟨w.heap.size + 1, 1, none⟩ = some (.slice sa k cp) := (by rw [Lib.cell_of_heap bk6]; rfl); have f1 := Lib.frozen_of_heap bk6 1; have HREL := hide hrel6; clear hown6 hgrow6 hat6 bk6 hrel6)
        | (fail))
      all_goals
        go_wp2
        go_roundw
        case rel => exact ⟨k + 1, by omega, by go_num, HREL⟩
        case measure => simp [intOf]; omega
    · have hkn : k = n := by omega
      subst hkn
      obtain ⟨ms, hml, ⟨hB, v, hbk, hown, hne⟩, hms, hb, hrb⟩ := HRel.out
      have hlen : (ms.map fun b => Value.map (some b)).length = k := by simp [hml]
      rw [hlen] at hown
      obtain ⟨sa, cp, hv⟩ := sc_shape hown
      subst hv
      have s0 : wr.cell? ⟨w.heap.size + 1, 0, none⟩ = some (.slice (some ⟨b, off, none⟩) k cap) := by rw [Lib.cell_of_heap hbk]; rfl
      have s1 : wr.cell? ⟨w.heap.size + 1, 1, none⟩ = some (.slice sa k cp) := by rw [Lib.cell_of_heap hbk]; rfl
      have r0 : wr.cell? ⟨w.heap.size, 0, none⟩ = some (.slice none 0 0) := by rw [Lib.cell_of_heap hrb]; rfl
      have r1 : wr.cell? ⟨w.heap.size, 1, none⟩ = some (.slice none 0 0) := by rw [Lib.cell_of_heap hrb]; rfl
      have f0 := Lib.frozen_of_heap hrb 0
      have f1 := Lib.frozen_of_heap hrb 1
      have HOW := hide hown
      have HBK := hide hbk
      have HMS := hide hms
      have HB9 := hide hb
      have HRB := hide hrb
      clear hown hbk hms hb hrb HRel
      go_wp2
      refine bodyPost_ret (v := .agg #[.slice (some ⟨b, off, none⟩) k cap, .slice sa k cp]) (by simp [results, Tryd.results37, go_sem, r0, r1, f0, f1]) rfl ⟨sa, cp, ms, rfl, hml, ?_, ?_, ?_⟩
      · exact own_set (own_set HOW.out ⟨w.heap.size, 0, none⟩ _ (Lib.ownBlock_ne HOW.out HRB.out (by decide))) ⟨w.heap.size, 1, none⟩ _ (Lib.ownBlock_ne HOW.out HRB.out (by decide))
      · intro j hj
        have hnb := map_block (HMS.out j hj) HRB.out
        exact map_set (map_set (HMS.out j hj) ⟨w.heap.size, 0, none⟩ _ hnb) ⟨w.heap.size, 1, none⟩ _ hnb
      · exact (HB9.out.setCell (p := ⟨w.heap.size, 0, none⟩) (Nat.le_refl _) _).setCell (p := ⟨w.heap.size, 1, none⟩) (Nat.le_refl _) _
end Go.Proofs.YtogeicckbdfldaaDoor
