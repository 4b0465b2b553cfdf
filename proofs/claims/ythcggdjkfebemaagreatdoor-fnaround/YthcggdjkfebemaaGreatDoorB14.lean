/-
  Texts put together: DocAt3, DocPa, DocPl.
-/
import Derived.Test.YthcggdjkfebemaaGreatDoorB7
import Derived.Test.YthcggdjkfebemaaGreatDoorB13
import Derived.Test.YthcggdjkfebemaaGreatDoorB3
import Derived.Deep.DeepCutAuto
/-
  Contract: rows of attributes, by the program.
-/
namespace Go.Proofs.YthcggdjkfebemaaGreatDoor
open Go.RowKit Go.Joins
set_option linter.unusedVariables false
set_option linter.unusedSimpArgs false
/-- An attribute lies in block G; all that was there is as it was. -/
def AS (w w' : World) (G : Nat) (x y : ByteArray) : Prop := (∃ T, w'.heap[G]? = some (.cells #[.string x, .string y] T (0, 0))) ∧ Below w.heap.size w w'
section
variable {w w1 w2 : World} {G : Nat} {x y : ByteArray}
theorem as_go (h : AS w w1 G x y) (k : Below w1.heap.size w1 w2) : AS w w2 G x y := by
  obtain ⟨⟨T, h1⟩, h2⟩ := h
  exact ⟨⟨T, (k.block G (Array.getElem?_eq_some_iff.1 h1).1).trans h1⟩, h2.trans (k.mono h2.size)⟩
theorem as_drew (h : AS w w1 G x y) : AS w w1.drew G x y := as_go h ⟨rfl, rfl, rfl, Nat.le_refl _, fun _ _ => rfl⟩
theorem as_all (h : AS w w1 G x y) : AS w w1 G x y ∧ w1.cell? ⟨G, 0, none⟩ = some (.string x) ∧ w1.cell? ⟨G, 1, none⟩ = some (.string y) := by
  have h' := h
  obtain ⟨⟨T, h1⟩, -⟩ := h
  have e : ∀ i, w1.cell? ⟨G, i, none⟩ = #[Value.string x, .string y][i]? := fun i => by rw [cell_of_row w1 G i _ T (0, 0) h1]
  exact ⟨h', e 0, e 1⟩
theorem as_below (h : AS w w1 G x y) : Below w.heap.size w w1 := h.2
theorem as_new (hb : Below w.heap.size w w1) (T : TypeId) : AS w (w1.alloc (.cells #[.string x, .string y] T)) w1.heap.size x y := ⟨⟨T, heap_alloc_new w1 _⟩, hb.alloc hb.size _⟩
theorem as_at {a : Option Addr} {n k : Nat} {N V : Nat → ByteArray} (h : AS w w1 G x y) (hr : AtAt w a n N V w.heap.size) (hk : k ≤ n) : AtAt w1 a k N V w1.heap.size := fun h0 => by
  obtain ⟨b, off, e, hb, hc⟩ := atAt_up (atAt_go hr h.2) h.2.size (by omega)
  exact ⟨b, off, e, hb, fun j hj => hc j (by omega)⟩
end
/-- What each operation leaves, where a name stands twice. -/
def valA (G b off n c k : Nat) (x : ByteArray) : Nat → Value
  | 0 => .pointer (some ⟨G, 0, none⟩)
  | 1 => .string x
  | 2 => .bool true
  | 3 => .bool false
  | 4 => .bool false
  | 5 => .slice (some ⟨b, off, none⟩) n c
  | 6 => .int .i64 (k : Int)
  | 7 => .slice (some ⟨b, off, none⟩) k c
  | 8 => .pointer (some ⟨G, 0, none⟩)
  | 9 => .string x
  | 10 => .bool true
  | 11 => .bool true
  | 12 => .bool true
  | 17 => .bool true
  | _ => undef
theorem i_qualF (s : ByteArray) (w : World) (hs : s.size ≤ 1048576) (h : qualB s = false) : Calls Tryz.prog 50 #[.string s] w fun e w' => e = .returned (.bool false) ∧ ∃ q, w' = w.drewN q := by
  have := i_qual s w hs
  rw [h] at this
  exact this
theorem i_qualT (s : ByteArray) (w : World) (hs : s.size ≤ 1048576) (h : qualB s = true) : Calls Tryz.prog 50 #[.string s] w fun e w' => e = .returned (.bool true) ∧ ∃ q, w' = w.drewN q := by
  have := i_qual s w hs
  rw [h] at this
  exact this
set_option maxRecDepth 100000 in
set_option maxHeartbeats 4000000 in
theorem i_attrs (a : Option Addr) (n c : Nat) (N V : Nat → ByteArray) (w : World) (hn : n ≤ 1048576) (hcap : n ≤ c) (hs : ∀ j, j < n → (N j).size ≤ 1048576 ∧ (V j).size ≤ 1048576) (hr : AtAt w a n N V w.heap.size) (hT : Tabs w) :
    Calls Tryz.prog 51 #[.slice a n c] w fun e w' => e = .returned (.bool (attrsB n N V)) ∧ Below w.heap.size w w' := by
  have HS := hide hs
  have HR := hide hr
  have HT := hide hT
  clear hr hs hT
  by_cases h10 : n ≤ 10
  · have h10' : (n : Int) ≤ 10 := by omega
    go_enter Tryz.func51, Tryz.ntmps51
    go_wp2
    go_loopw [10] (fun i wr => ∃ k : Nat, k ≤ n ∧ i = .int .i64 k ∧ Below w.heap.size w wr ∧ Hid (∀ j, j < k → atB N V j = true)) (fun i _ => n - (intOf i).toNat)
    case atStart => exact ⟨0, Nat.zero_le _, rfl, Below.refl _ _, fun j h => by omega⟩
    case round =>
      obtain ⟨k, hk, rfl, hb, HM⟩ := hrel
      by_cases hlt : k < n
      · obtain ⟨b, off, rfl, hbs, hc⟩ := HR.out (by omega)
        have c0 : wr.cell? ⟨b, off + k * 2, none⟩ = some (.string (N k)) := (hb.cell hbs).trans (hc k hlt).1
        have c1 : wr.cell? ⟨b, off + k * 2 + 1, none⟩ = some (.string (V k)) := (hb.cell hbs).trans (hc k hlt).2
        obtain ⟨s0, s1⟩ := HS.out k hlt
        have HS0 := hide s0
        have HS1 := hide s1
        have HA0 := hide (fun T => as_new (x := N k) (y := V k) hb T)
        have hi : (k : Int) < (n : Int) := by omega
        have hkc : (k : Int) ≤ (c : Int) := by omega
        have hk0 : (0 : Int) ≤ (k : Int) := by omega
        clear hc hb s0 s1
        cases hq : qualB (N k)
        · have hv := hide (attrsB_no (N := N) (V := V) hlt (by unfold atB; rw [hq]; rfl))
          go_wp2
          go_big_quiet (first | (go_at_call 50; refine Calls.quiet_of (i_qualF _ _ HS0.out hq)))
          all_goals
            go_wp2
            go_ret
            exact ⟨ret_bool hv.out.symm, as_below (as_go (HA0.out _) (drewN_below _ _))⟩
        · cases ha : anyS k N (N k)
          · cases hp : plainB (V k)
            · have hv := hide (attrsB_no (N := N) (V := V) hlt (by unfold atB; rw [hq, hp]; rfl))
              go_wp2
              go_region_held3 (fun w' => AS w w' wr.heap.size (N k) (V k) ∧ w'.cell? ⟨wr.heap.size, 0, none⟩ = some (.string (N k)) ∧ w'.cell? ⟨wr.heap.size, 1, none⟩ = some (.string (V k))) (first | assumption | exact as_all (as_go (HA0.out _) (drewN_below _ _)) | exact as_all HTB.out | exact as_all HTC.out | exact as_all (as_drew (HA0.out _)) | exact as_all (HA0.out _)) (first | (go_at_call 50; refine (i_qual _ _ HS0.out).mono ?_; rintro e w2 ⟨rfl, q, rfl⟩; rw [hq]) | (go_at_call 76; refine (i_has _ _ _ N V _ _ (by omega) (as_at (And.left (by assumption)) HR.out (by omega))).mono ?_; rintro e w3 ⟨rfl, hb3⟩; rw [ha]; have HTB := hide (as_go (And.left (by assumption)) hb3); clear hb3) | (go_at_call 27; refine (i_plain _ _ HS1.out (tabs_below HT.out (as_below (And.left (by assumption))))).mono ?_; rintro e w4 ⟨rfl, hb4⟩; rw [hp]; have HTC := hide (as_go (And.left (by assumption)) hb4); clear hb4))
              all_goals
                go_wp2
                go_ret
                exact ⟨ret_bool hv.out.symm, as_below (And.left (by assumption))⟩
            · have hv : atB N V k = true := by unfold atB; rw [hq, hp, ha]; rfl
              go_wp2
              go_region_held3 (fun w' => AS w w' wr.heap.size (N k) (V k) ∧ w'.cell? ⟨wr.heap.size, 0, none⟩ = some (.string (N k)) ∧ w'.cell? ⟨wr.heap.size, 1, none⟩ = some (.string (V k))) (first | assumption | exact as_all (as_go (HA0.out _) (drewN_below _ _)) | exact as_all HTB.out | exact as_all HTC.out | exact as_all (as_drew (HA0.out _)) | exact as_all (HA0.out _)) (first | (go_at_call 50; refine (i_qual _ _ HS0.out).mono ?_; rintro e w2 ⟨rfl, q, rfl⟩; rw [hq]) | (go_at_call 76; refine (i_has _ _ _ N V _ _ (by omega) (as_at (And.left (by assumption)) HR.out (by omega))).mono ?_; rintro e w3 ⟨rfl, hb3⟩; rw [ha]; have HTB := hide (as_go (And.left (by assumption)) hb3); clear hb3) | (go_at_call 27; refine (i_plain _ _ HS1.out (tabs_below HT.out (as_below (And.left (by assumption))))).mono ?_; rintro e w4 ⟨rfl, hb4⟩; rw [hp]; have HTC := hide (as_go (And.left (by assumption)) hb4); clear hb4))
              all_goals
                go_wp2
                go_roundw
                case rel =>
                  refine ⟨k + 1, by omega, by go_num, as_below (And.left (by assumption)), fun j hj => ?_⟩
                  by_cases e : j = k
                  · subst e; exact hv
                  · exact HM.out j (by omega)
                case measure => simp [intOf]; omega
          · have hv := hide (attrsB_no (N := N) (V := V) hlt (by unfold atB; rw [hq, ha]; simp))
            go_wp2
            refine wp_region_inv (by kernel_rfl) (by kernel_rfl) (fun u => { tmps := #[.slice (some ⟨b, off, none⟩) n c, undef, u2, .int .i64 (k : Int), .pointer (some ⟨wr.heap.size, 0, none⟩), .slice (some ⟨b, off, none⟩) n c, .int .i64 (n : Int), .bool (decide ((10 : Int) < (n : Int))), .slice (some ⟨b, off, none⟩) n c, .int .i64 (n : Int), .int .i64 (k : Int), .bool true, .int .i64 (k : Int), .pointer (some ⟨b, off + k * 2, none⟩), .agg #[.string (N k), .string (V k)], u 15, u 16, u 17, u 18, u 19, u 20, u 21, u 22, u 23, u 24, u 25, u 26, u 27, u 28, u 29, u 30, u 31, u 32, u33], defers := [] }) (fun i => i + 15) (fun i x _ => x = valA wr.heap.size b off n c k (N k) i) (fun w' => AS w w' wr.heap.size (N k) (V k)) (fun i => #[u15, u16, u17, u18, u19, u20, u21, u22, u23, u24, u25, u26, u27, u28, u29, u30, u31, u32].getD (i - 15) undef) (as_drew (HA0.out _)) ?hput ?hD ?step ?done
            case hput =>
              intro i o ho u v
              have hi := (Array.getElem?_eq_some_iff.1 ho).1
              have hi' : i < 18 := hi
              clear hi
              rcases (show i = 0 ∨ i = 1 ∨ i = 2 ∨ i = 3 ∨ i = 4 ∨ i = 5 ∨ i = 6 ∨ i = 7 ∨ i = 8 ∨ i = 9 ∨ i = 10 ∨ i = 11 ∨ i = 12 ∨ i = 13 ∨ i = 14 ∨ i = 15 ∨ i = 16 ∨ i = 17 by omega) with e | e | e | e | e | e | e | e | e | e | e | e | e | e | e | e | e | e
              all_goals
                subst e
                obtain rfl := Option.some.inj ho
                rfl
            case hD =>
              intro i k hi hk hne
              omega
            case step =>
              intro i o ho u v hj hV K9 hK
              have hi := (Array.getElem?_eq_some_iff.1 ho).1
              have hi' : i < 18 := hi
              clear hi
              rcases (show i = 0 ∨ i = 1 ∨ i = 2 ∨ i = 3 ∨ i = 4 ∨ i = 5 ∨ i = 6 ∨ i = 7 ∨ i = 8 ∨ i = 9 ∨ i = 10 ∨ i = 11 ∨ i = 12 ∨ i = 13 ∨ i = 14 ∨ i = 15 ∨ i = 16 ∨ i = 17 by omega) with e | e | e | e | e | e | e | e | e | e | e | e | e | e | e | e | e | e
              all_goals
                subst e
                obtain rfl := Option.some.inj ho
                clear ho hi'
                try dsimp only at hV hK ⊢
              · have HJ := hide hj
                clear hj
                go_simp
                exact hK _ _ HJ.out rfl (fun _ _ h => h)
              · have HJ := hide hj
                obtain ⟨-, g0, g1⟩ := as_all hj
                have h0 : u 15 = .pointer (some ⟨wr.heap.size, 0, none⟩) := hV ⟨0, .data⟩ (by simp) rfl
                clear hj
                rw [h0] at hK ⊢
                go_simp
                exact hK _ _ HJ.out rfl (fun _ _ h => h)
              · have HJ := hide hj
                have h1 : u 16 = .string (N k) := hV ⟨1, .data⟩ (by simp) rfl
                clear hj
                rw [h1] at hK ⊢
                go_simp
                refine (i_qualT _ _ HS0.out hq).mono ?_
                rintro e v1 ⟨rfl, q, rfl⟩
                exact hK _ _ (as_go HJ.out (drewN_below _ q)) rfl (fun _ _ h => h)
              · have HJ := hide hj
                have h2 : u 17 = .bool true := hV ⟨2, .data⟩ (by simp) rfl
                clear hj
                rw [h2] at hK ⊢
                go_simp
                exact hK _ _ HJ.out rfl (fun _ _ h => h)
              · have HJ := hide hj
                have h3 : u 18 = .bool false := hV ⟨3, .data⟩ (by simp) rfl
                clear hj
                rw [h3] at hK ⊢
                go_simp
                exact hK _ _ HJ.out rfl (fun _ _ h => h)
              · have HJ := hide hj
                have h4 : u 19 = .bool false := hV ⟨4, .guard⟩ (by simp) rfl
                clear hj
                rw [h4] at hK ⊢
                go_simp
                exact hK _ _ HJ.out rfl (fun _ _ h => h)
              · have HJ := hide hj
                have h4 : u 19 = .bool false := hV ⟨4, .guard⟩ (by simp) rfl
                clear hj
                rw [h4] at hK ⊢
                go_simp
                exact hK _ _ HJ.out rfl (fun _ _ h => h)
              · have HJ := hide hj
                have h5 : u 20 = .slice (some ⟨b, off, none⟩) n c := hV ⟨5, .data⟩ (by simp) rfl
                have h6 : u 21 = .int .i64 (k : Int) := hV ⟨6, .data⟩ (by simp) rfl
                have h4 : u 19 = .bool false := hV ⟨4, .guard⟩ (by simp) rfl
                clear hj
                rw [h5, h6, h4] at hK ⊢
                go_simp
                exact hK _ _ HJ.out rfl (fun _ _ h => h)
              · have HJ := hide hj
                have h4 : u 19 = .bool false := hV ⟨4, .guard⟩ (by simp) rfl
                clear hj
                rw [h4] at hK ⊢
                go_simp
                exact hK _ _ HJ.out rfl (fun _ _ h => h)
              · have HJ := hide hj
                obtain ⟨-, g0, g1⟩ := as_all hj
                have h8 : u 23 = .pointer (some ⟨wr.heap.size, 0, none⟩) := hV ⟨8, .data⟩ (by simp) rfl
                have h4 : u 19 = .bool false := hV ⟨4, .guard⟩ (by simp) rfl
                clear hj
                rw [h8, h4] at hK ⊢
                go_simp
                exact hK _ _ HJ.out rfl (fun _ _ h => h)
              · have HJ := hide hj
                have h7 : u 22 = .slice (some ⟨b, off, none⟩) k c := hV ⟨7, .data⟩ (by simp) rfl
                have h9 : u 24 = .string (N k) := hV ⟨9, .data⟩ (by simp) rfl
                have h4 : u 19 = .bool false := hV ⟨4, .guard⟩ (by simp) rfl
                clear hj
                rw [h7, h9, h4] at hK ⊢
                go_simp
                refine (i_has _ _ _ N V _ _ (by omega) (as_at HJ.out HR.out (by omega))).mono ?_
                rintro e v1 ⟨rfl, hb3⟩
                rw [ha]
                exact hK _ _ (as_go HJ.out hb3) rfl (fun _ _ h => h)
              · have HJ := hide hj
                have h4 : u 19 = .bool false := hV ⟨4, .data⟩ (by simp) rfl
                have h10 : u 25 = .bool true := hV ⟨10, .data⟩ (by simp) rfl
                clear hj
                rw [h4, h10] at hK ⊢
                go_simp
                exact hK _ _ HJ.out rfl (fun _ _ h => h)
              · have HJ := hide hj
                have h11 : u 26 = .bool true := hV ⟨11, .data⟩ (by simp) rfl
                clear hj
                rw [h11] at hK ⊢
                go_simp
                exact hK _ _ HJ.out rfl (fun _ _ h => h)
              · have HJ := hide hj
                have h12 : u 27 = .bool true := hV ⟨12, .guard⟩ (by simp) rfl
                clear hj
                rw [h12] at hK ⊢
                go_simp
                exact hK _ _ HJ.out rfl (fun _ _ h => h)
              · have HJ := hide hj
                have h12 : u 27 = .bool true := hV ⟨12, .guard⟩ (by simp) rfl
                clear hj
                rw [h12] at hK ⊢
                go_simp
                exact hK _ _ HJ.out rfl (fun _ _ h => h)
              · have HJ := hide hj
                have h12 : u 27 = .bool true := hV ⟨12, .guard⟩ (by simp) rfl
                clear hj
                rw [h12] at hK ⊢
                go_simp
                exact hK _ _ HJ.out rfl (fun _ _ h => h)
              · have HJ := hide hj
                have h12 : u 27 = .bool true := hV ⟨12, .guard⟩ (by simp) rfl
                clear hj
                rw [h12] at hK ⊢
                go_simp
                exact hK _ _ HJ.out rfl (fun _ _ h => h)
              · have HJ := hide hj
                have h12 : u 27 = .bool true := hV ⟨12, .data⟩ (by simp) rfl
                clear hj
                rw [h12] at hK ⊢
                go_simp
                exact hK _ _ HJ.out rfl (fun _ _ h => h)
            case done =>
              intro u v hj hV
              have h17 : u 32 = .bool true := hV 17 (by decide)
              have HB := hide (as_below hj)
              clear hj hV
              rw [h17]
              go_wp2
              go_ret
              exact ⟨ret_bool hv.out.symm, HB.out⟩
      · have hkn : k = n := by omega
        subst hkn
        go_wp2
        go_ret
        exact ⟨ret_bool (attrsB_yes h10 HM.out).symm, hb⟩
  · have h10' : (10 : Int) < (n : Int) := by omega
    have hv := hide (attrsB_long (N := N) (V := V) (by omega : 10 < n))
    go_enter Tryz.func51, Tryz.ntmps51
    go_wp2
    go_ret
    exact ⟨ret_bool hv.out.symm, Below.refl _ _⟩
end Go.Proofs.YthcggdjkfebemaaGreatDoor

/-
  Contract: an item's parts, by the program.
-/
namespace Go.Proofs.YthcggdjkfebemaaGreatDoor
open Go.RowKit Go.Joins
set_option linter.unusedVariables false
set_option linter.unusedSimpArgs false
def partB (nm tx : ByteArray) (n : Nat) (N V : Nat → ByteArray) : Bool :=
  if nm.toList.isEmpty = true then !tx.toList.isEmpty && (((n : Int) == 0) && plainB tx) else tx.toList.isEmpty && (qualB nm && attrsB n N V)
set_option maxRecDepth 100000 in
set_option maxHeartbeats 4000000 in
theorem i_parts (up : Int) (nm tx : ByteArray) (a : Option Addr) (n c : Nat) (N V : Nat → ByteArray) (w : World) (hn : n ≤ 1048576) (hcap : n ≤ c) (h1 : nm.size ≤ 1048576) (h2 : tx.size ≤ 1048576) (hs : ∀ j, j < n → (N j).size ≤ 1048576 ∧ (V j).size ≤ 1048576) (hr : AtAt w a n N V w.heap.size) (hT : Tabs w) :
    Calls Tryz.prog 25 #[.agg #[.int .i64 up, .string nm, .string tx, .slice a n c]] w fun e w' => e = .returned (.bool (partB nm tx n N V)) ∧ Below w.heap.size w w' := by
  have HS := hide hs
  have HR := hide hr
  have HT := hide hT
  have H1 := hide h1
  have H2 := hide h2
  have st : ∀ o, Below w.heap.size w (w.alloc o) := fun o => (Below.refl _ _).alloc (Nat.le_refl _) _
  have HST := hide st
  clear hr hs hT h1 h2 st
  cases e1 : nm.toList.isEmpty
  · have hv : partB nm tx n N V = (tx.toList.isEmpty && (qualB nm && attrsB n N V)) := by unfold partB; rw [e1, if_neg (by decide)]
    have HV := hide hv
    clear hv
    cases e2 : tx.toList.isEmpty
    · go_enter Tryz.func25, Tryz.ntmps25
      go_wp2
      go_ret
      exact ⟨ret_bool (by rw [HV.out, e2]; rfl), HST.out _⟩
    · cases e3 : qualB nm
      · go_enter Tryz.func25, Tryz.ntmps25
        go_wp2_with (go_at_call 50; refine (i_qualF _ _ H1.out e3).mono ?_; rintro e w2 ⟨rfl, q, rfl⟩)
        go_ret
        exact ⟨ret_bool (by rw [HV.out, e2, e3]; rfl), (HST.out _).trans ((drewN_below _ _).mono (by simp))⟩
      · obtain ⟨x, hx⟩ : ∃ x, attrsB n N V = x := ⟨_, rfl⟩
        have HX := hide hx
        go_enter Tryz.func25, Tryz.ntmps25
        go_wp2_with (first | (go_at_call 50; refine (i_qualT _ _ H1.out e3).mono ?_; rintro e w2 ⟨rfl, q, rfl⟩) | (go_at_call 51; refine (i_attrs _ _ _ N V _ hn hcap HS.out (atAt_up (atAt_go HR.out ((HST.out _).trans ((drewN_below _ _).mono (by simp)))) (by simp)) (tabs_below HT.out ((HST.out _).trans ((drewN_below _ _).mono (by simp))))).mono ?_; rintro e w3 ⟨rfl, hb3⟩; rw [HX.out]; have HB3 := hide (((HST.out _).trans ((drewN_below _ _).mono (by simp))).trans (hb3.mono (by simp))); clear hb3))
        go_ret
        exact ⟨ret_bool (by rw [HV.out, e2, e3, HX.out]; rfl), HB3.out⟩
  · have hv : partB nm tx n N V = (!tx.toList.isEmpty && (((n : Int) == 0) && plainB tx)) := by unfold partB; rw [e1, if_pos rfl]
    have HV := hide hv
    clear hv
    cases e2 : tx.toList.isEmpty
    · cases e3 : ((n : Int) == 0)
      · go_enter Tryz.func25, Tryz.ntmps25
        go_wp2
        go_ret
        exact ⟨ret_bool (by rw [HV.out, e2, e3]; rfl), HST.out _⟩
      · obtain ⟨x, hx⟩ : ∃ x, plainB tx = x := ⟨_, rfl⟩
        have HX := hide hx
        go_enter Tryz.func25, Tryz.ntmps25
        go_wp2_with (go_at_call 27; refine (i_plain _ _ H2.out (tabs_below HT.out (HST.out _))).mono ?_; rintro e w3 ⟨rfl, hb3⟩; rw [HX.out]; have HB3 := hide ((HST.out _).trans (hb3.mono (by simp))); clear hb3)
        go_ret
        exact ⟨ret_bool (by rw [HV.out, e2, e3, HX.out]; rfl), HB3.out⟩
    · go_enter Tryz.func25, Tryz.ntmps25
      go_wp2
      go_ret
      exact ⟨ret_bool (by rw [HV.out, e2]; rfl), HST.out _⟩
end Go.Proofs.YthcggdjkfebemaaGreatDoor

/-
  Contracts: how deep an item stands, by the specification and by the program; the program's look at an item's place.
-/
namespace Go.Proofs.YthcggdjkfebemaaGreatDoor
open Go.RowKit Go.Joins
set_option linter.unusedVariables false
set_option linter.unusedSimpArgs false
theorem int_nat {a : Int} (h : 0 ≤ a) : Value.int .i64 a = .int .i64 (a.toNat : Int) := by rw [show (a.toNat : Int) = a by omega]
set_option maxHeartbeats 1000000 in
theorem s_deep (D : Dc) (n b off cap : Nat) (w : World) (B : Nat) (i : Nat) (hD : D.n = n) (hn : n ≤ 200) (hi : i < n) (hr : DcRow w b off D B) (hdec : ∀ j : Nat, j ≤ i → -1 ≤ D.U j ∧ D.U j < j) :
    Calls Tryz.prog 45 #[.slice (some ⟨b, off, none⟩) n cap, .int .i64 i] w fun e w' => e = .returned (.int .i64 (dp D.U (D.U i))) ∧ w' = w := by
  have HD := hide hD
  have HR := hide hr
  have HC := hide hdec
  have hle := dp_le D.U (a := D.U i)
  have hui := (hdec i (Nat.le_refl _)).2
  obtain ⟨T, hT⟩ : ∃ T, dp D.U (D.U i) = T := ⟨_, rfl⟩
  have HT := hide hT
  rw [hT] at hle ⊢
  have hT2 : T ≤ 201 := by omega
  clear hr hdec hD hT hle hui
  go_enter Tryz.func45, Tryz.ntmps45
  go_wp2
  go_loop [1, 5] (fun a d => ∃ (m q : Nat), a = .int .i64 m ∧ m ≤ i ∧ d = .int .i64 q ∧ Hid (q + dp D.U (D.U m) = T)) (fun a _ => (intOf a).toNat)
  case atStart => exact ⟨i, 0, rfl, Nat.le_refl _, rfl, by rw [HT.out]; exact Nat.zero_add T⟩
  case round =>
    obtain ⟨m, q, rfl, hm, rfl, HQ⟩ := hrel
    obtain ⟨ad, cp, ⟨c0, -⟩, -⟩ := HR.out m (by rw [HD.out]; omega)
    have hq : q ≤ 201 := by have := HQ.out; omega
    obtain ⟨u, hu⟩ : ∃ u, D.U m = u := ⟨_, rfl⟩
    obtain ⟨d1, d2⟩ := HC.out m hm
    rw [hu] at c0 d1 d2
    have hmn : (m : Int) < (n : Int) := by omega
    by_cases h0 : 0 ≤ u
    · have HS : Hid (dp D.U u = dp D.U (D.U u.toNat) + 1) := hide (dp_step D.U h0 (fun j hj => (HC.out j (by omega)).2))
      have HU := hide hu
      clear hu
      go_wp2
      go_round
      case rel => exact ⟨u.toNat, q + 1, int_nat h0, by omega, by go_num, by have := HQ.out; rw [HU.out, HS.out] at this; show q + 1 + _ = T; omega⟩
      case measure => simp [intOf]; omega
    · have HQ2 : Hid (q = T) := hide (by have := HQ.out; rw [hu, dp_neg D.U (by omega)] at this; omega)
      clear hu
      go_wp2
      go_ret
      exact ⟨ret_iI (by rw [HQ2.out]), rfl⟩
set_option maxHeartbeats 1000000 in
theorem i_count (D : Dc) (n b off cap : Nat) (w : World) (B : Nat) (up : Int) (nm tx : ByteArray) (ad : Option Addr) (ac cp : Nat) (hD : D.n = n) (hn : n ≤ 200) (hu : -1 ≤ up ∧ up < n) (hb : b < w.heap.size) (hr : DcRow w b off D w.heap.size) (hdec : ∀ j : Nat, (j : Int) ≤ up → -1 ≤ D.U j ∧ D.U j < j) :
    Calls Tryz.prog 49 #[.slice (some ⟨b, off, none⟩) n cap, .agg #[.int .i64 up, .string nm, .string tx, .slice ad ac cp]] w fun e w' => e = .returned (.int .i64 (dp D.U up)) ∧ Below w.heap.size w w' := by
  have HD := hide hD
  have HC := hide hdec
  have HR := hide (dcRow_go hr hb ((Below.refl _ _).alloc (Nat.le_refl _) (.cells #[.int .i64 up, .string nm, .string tx, .slice ad ac cp] 41)))
  have hle := dp_le D.U (a := up)
  obtain ⟨T, hT⟩ : ∃ T, dp D.U up = T := ⟨_, rfl⟩
  have HT := hide hT
  rw [hT] at hle ⊢
  have hT2 : T ≤ 201 := by omega
  clear hdec hD hT hle hr
  go_enter Tryz.func49, Tryz.ntmps49
  go_wp2
  go_loop [5, 6] (fun d a => ∃ (q : Nat) (x : Int), d = .int .i64 q ∧ a = .int .i64 x ∧ -1 ≤ x ∧ x ≤ up ∧ Hid (q + dp D.U x = T)) (fun _ a => (intOf a + 1).toNat)
  case atStart => exact ⟨0, up, rfl, rfl, by omega, Int.le_refl _, by rw [HT.out]; exact Nat.zero_add T⟩
  case round =>
    obtain ⟨q, x, rfl, rfl, hx0, hx1, HQ⟩ := hrel
    have hq : q ≤ 201 := by have := HQ.out; omega
    by_cases h0 : 0 ≤ x
    · obtain ⟨ad9, cp9, ⟨c0, -⟩, -⟩ := HR.out x.toNat (by rw [HD.out]; omega)
      obtain ⟨u, hu9⟩ : ∃ u, D.U x.toNat = u := ⟨_, rfl⟩
      obtain ⟨d1, d2⟩ := HC.out x.toNat (by omega)
      have HS : Hid (dp D.U x = dp D.U u + 1) := hide (by rw [← hu9]; exact dp_step D.U h0 (fun j hj => (HC.out j (by omega)).2))
      rw [hu9] at c0 d1 d2
      have hx2 : (x != -1) = true := by simp; omega
      have hxn : x < (n : Int) := by omega
      clear hu9
      go_wp2
      go_round
      case rel => exact ⟨q + 1, u, by go_num, rfl, d1, by omega, by have := HQ.out; rw [HS.out] at this; show q + 1 + _ = T; omega⟩
      case measure => simp [intOf]; omega
    · have hx9 : x = -1 := by omega
      subst hx9
      have HQ2 : Hid (q = T) := hide (by have := HQ.out; rw [dp_neg D.U (by omega)] at this; omega)
      go_wp2
      go_ret
      exact ⟨ret_iI (by rw [HQ2.out]), (Below.refl _ _).alloc (Nat.le_refl _) _⟩
end Go.Proofs.YthcggdjkfebemaaGreatDoor
