/-
  Contracts: two rows of items that are alike are told so.
-/
import Derived.Test.YtfbahffljhnjbaaGreatDoorX3
namespace Go.Proofs.YtfbahffljhnjbaaGreatDoor
open Go.RowKit Go.Joins
set_option linter.unusedVariables false
set_option linter.unusedSimpArgs false
theorem two_items {w w2 : World} {up : Int} {nm tx : ByteArray} {a a' : Option Addr} {n c c' : Nat} {T U : TypeId}
    (k : Below ((w.alloc (.cells #[.int .i64 up, .string nm, .string tx, .slice a n c] T)).alloc (.cells #[.int .i64 up, .string nm, .string tx, .slice a' n c'] U)).heap.size ((w.alloc (.cells #[.int .i64 up, .string nm, .string tx, .slice a n c] T)).alloc (.cells #[.int .i64 up, .string nm, .string tx, .slice a' n c'] U)) w2) :
    ItAt w2 w.heap.size up nm tx a n c ∧ ItAt w2 (w.heap.size + 1) up nm tx a' n c' ∧ Below w.heap.size w w2 := by
  have h1 := itAt_new w up nm tx a n c T
  have h2 := itAt_new (w.alloc (.cells #[.int .i64 up, .string nm, .string tx, .slice a n c] T)) up nm tx a' n c' U
  have st : ∀ (x : World) (o : Obj), Below x.heap.size x (x.alloc o) := fun x o => (Below.refl _ _).alloc (Nat.le_refl _) _
  refine ⟨itAt_go (itAt_go h1 (st _ _)) k, ?_, ?_⟩
  · have := itAt_go h2 k
    simpa using this
  · exact (((Below.refl w.heap.size w).alloc (Nat.le_refl _) _).alloc (by simp) _).trans (k.mono (by simp; omega))
set_option maxHeartbeats 4000000 in
theorem l_eqI (up : Int) (nm tx : ByteArray) (a a' : Option Addr) (n c c' : Nat) (N V : Nat → ByteArray) (w : World) (hn : n ≤ 1048576) (hr : AtAt w a n N V w.heap.size) (hr' : AtAt w a' n N V w.heap.size) : Calls Tryz.prog 39 #[.agg #[.int .i64 up, .string nm, .string tx, .slice a n c], .agg #[.int .i64 up, .string nm, .string tx, .slice a' n c']] w fun e w' => e = .returned (.bool true) ∧ Below w.heap.size w w' := by
  have HR := hide hr
  have HR' := hide hr'
  clear hr hr'
  go_enter Tryz.func39, Tryz.ntmps39
  go_wp2_with (go_at_call 74; refine (l_eqAs _ _ _ _ _ N V _ hn (atAt_up (atAt_go HR.out (((Below.refl _ _).alloc (Nat.le_refl _) _).alloc (by simp) _)) (by simp; omega)) (atAt_up (atAt_go HR'.out (((Below.refl _ _).alloc (Nat.le_refl _) _).alloc (by simp) _)) (by simp; omega))).mono ?_; rintro e w2 ⟨rfl, hb2⟩; have HX2 := hide (two_items hb2); obtain ⟨a0, a1, a2, a3⟩ := itAt_cells HX2.out.1; obtain ⟨b0, b1, b2, b3⟩ := itAt_cells HX2.out.2.1; clear hb2)
  go_ret
  exact ⟨rfl, HX2.out.2.2⟩
def EQI (w w' : World) (b o b' o' : Nat) (D : Dc) (k : Nat) (ad : Option Addr) (cp : Nat) (ad' : Option Addr) (cp' : Nat) : Prop := Below w.heap.size w w' ∧ (b < w.heap.size ∧ b' < w.heap.size) ∧
  DcCells w' b o D k ad cp ∧ DcCells w' b' o' D k ad' cp' ∧ AtAt w' ad (D.AC k) (D.AN k) (D.AV k) w.heap.size ∧ AtAt w' ad' (D.AC k) (D.AN k) (D.AV k) w.heap.size
section
variable {w w1 w2 : World} {b o b' o' : Nat} {D : Dc} {k : Nat} {ad : Option Addr} {cp : Nat} {ad' : Option Addr} {cp' : Nat}
theorem eqi_go (x : EQI w w1 b o b' o' D k ad cp ad' cp') (h : Below w1.heap.size w1 w2) : EQI w w2 b o b' o' D k ad cp ad' cp' := by
  obtain ⟨hb, ⟨h1, h2⟩, c1, c2, r1, r2⟩ := x
  have hh := h.mono hb.size
  exact ⟨hb.trans hh, ⟨h1, h2⟩, dcCells_go c1 h1 hh, dcCells_go c2 h2 hh, atAt_go r1 hh, atAt_go r2 hh⟩
theorem eqi_drew (x : EQI w w1 b o b' o' D k ad cp ad' cp') : EQI w w1.drew b o b' o' D k ad cp ad' cp' := eqi_go x ⟨rfl, rfl, rfl, Nat.le_refl _, fun _ _ => rfl⟩
theorem eqi_all (x : EQI w w1 b o b' o' D k ad cp ad' cp') : EQI w w1 b o b' o' D k ad cp ad' cp' ∧ (w1.cell? ⟨b, o, none⟩ = some (.int .i64 (D.U k)) ∧ w1.cell? ⟨b, o + 1, none⟩ = some (.string (D.NM k)) ∧ w1.cell? ⟨b, o + 2, none⟩ = some (.string (D.TX k)) ∧ w1.cell? ⟨b, o + 3, none⟩ = some (.slice ad (D.AC k) cp)) ∧ w1.cell? ⟨b', o', none⟩ = some (.int .i64 (D.U k)) ∧ w1.cell? ⟨b', o' + 1, none⟩ = some (.string (D.NM k)) ∧ w1.cell? ⟨b', o' + 2, none⟩ = some (.string (D.TX k)) ∧ w1.cell? ⟨b', o' + 3, none⟩ = some (.slice ad' (D.AC k) cp') := ⟨x, x.2.2.1, x.2.2.2.1⟩
theorem eqi_r1 (x : EQI w w1 b o b' o' D k ad cp ad' cp') : AtAt w1 ad (D.AC k) (D.AN k) (D.AV k) w1.heap.size := atAt_up x.2.2.2.2.1 x.1.size
theorem eqi_r2 (x : EQI w w1 b o b' o' D k ad cp ad' cp') : AtAt w1 ad' (D.AC k) (D.AN k) (D.AV k) w1.heap.size := atAt_up x.2.2.2.2.2 x.1.size
end
set_option maxRecDepth 100000 in
set_option maxHeartbeats 4000000 in
theorem l_eqIs (D : Dc) (n : Nat) (a1 a2 : Option Addr) (c1 c2 : Nat) (w : World) (hX : D.n = n) (hn : n ≤ 1048576) (hnr : ∀ j, j < n → D.AC j ≤ 1048576) (h1 : DcAt w a1 D w.heap.size) (h2 : DcAt w a2 D w.heap.size) :
    Calls Tryz.prog 10 #[.slice a1 n c1, .slice a2 n c2] w fun e w' => e = .returned (.bool true) ∧ Below w.heap.size w w' := by
  have HX := hide hX
  have HNR := hide hnr
  have H1 := hide h1
  have H2 := hide h2
  clear h1 h2 hnr hX
  go_enter Tryz.func10, Tryz.ntmps10
  go_wp2
  go_loopw [5] (fun i wr => ∃ k : Nat, k ≤ n ∧ i = .int .i64 k ∧ Below w.heap.size w wr) (fun i _ => n - (intOf i).toNat)
  case atStart => exact ⟨0, Nat.zero_le _, rfl, Below.refl _ _⟩
  case round =>
    obtain ⟨k, hk, rfl, hb⟩ := hrel
    by_cases hlt : k < n
    · obtain ⟨b, off, rfl, hbs, hc⟩ := H1.out (by rw [HX.out]; omega)
      obtain ⟨b', off', rfl, hbs', hc'⟩ := H2.out (by rw [HX.out]; omega)
      obtain ⟨ad, cp, hk1, hr1, -⟩ := hc k (by rw [HX.out]; omega)
      obtain ⟨ad', cp', hk2, hr2, -⟩ := hc' k (by rw [HX.out]; omega)
      have hnk := HNR.out k hlt
      have XX : Hid (EQI w wr b (off + k * 4) b' (off' + k * 4) D k ad cp ad' cp') := ⟨hb, ⟨hbs, hbs'⟩, dcCells_go hk1 hbs hb, dcCells_go hk2 hbs' hb, atAt_go hr1 hb, atAt_go hr2 hb⟩
      have hi : (k : Int) < (n : Int) := by omega
      have hi0 : (0 : Int) ≤ (k : Int) := by omega
      clear hc hc' hb hk1 hk2 hr1 hr2
      go_wp2
      go_region_held3 (fun w' => EQI w w' b (off + k * 4) b' (off' + k * 4) D k ad cp ad' cp' ∧ (w'.cell? ⟨b, off + k * 4, none⟩ = some (.int .i64 (D.U k)) ∧ w'.cell? ⟨b, off + k * 4 + 1, none⟩ = some (.string (D.NM k)) ∧ w'.cell? ⟨b, off + k * 4 + 2, none⟩ = some (.string (D.TX k)) ∧ w'.cell? ⟨b, off + k * 4 + 3, none⟩ = some (.slice ad (D.AC k) cp)) ∧ w'.cell? ⟨b', off' + k * 4, none⟩ = some (.int .i64 (D.U k)) ∧ w'.cell? ⟨b', off' + k * 4 + 1, none⟩ = some (.string (D.NM k)) ∧ w'.cell? ⟨b', off' + k * 4 + 2, none⟩ = some (.string (D.TX k)) ∧ w'.cell? ⟨b', off' + k * 4 + 3, none⟩ = some (.slice ad' (D.AC k) cp')) (first | assumption | exact eqi_all (eqi_drew XX.out) | exact eqi_all XX.out) (first | (go_at_call 39; refine (l_eqI _ _ _ _ _ _ _ _ (D.AN k) (D.AV k) _ hnk (eqi_r1 (And.left (by assumption))) (eqi_r2 (And.left (by assumption)))).mono ?_; rintro e w2 ⟨rfl, hb2⟩; have X2 := hide (eqi_go (eqi_drew XX.out) hb2); replace XX := X2; clear X2 hb2))
      all_goals
        go_wp2
        go_roundw
        case rel => exact ⟨k + 1, by omega, by go_num, XX.out.1⟩
        case measure => simp [intOf]; omega
    · go_wp2
      go_ret
      exact ⟨rfl, hb⟩
end Go.Proofs.YtfbahffljhnjbaaGreatDoor
