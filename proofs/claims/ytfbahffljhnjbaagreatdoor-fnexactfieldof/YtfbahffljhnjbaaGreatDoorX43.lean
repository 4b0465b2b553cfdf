/-
  Contract of the program: what a field says of an element.
-/
import Derived.Test.YtfbahffljhnjbaaGreatDoorX39
import Derived.Test.YtfbahffljhnjbaaGreatDoorX40
import Derived.Test.YtfbahffljhnjbaaGreatDoorX22
import Derived.Test.YtfbahffljhnjbaaGreatDoorX42
import Derived.Deep.RegionHeld3
namespace Go.Proofs.YtfbahffljhnjbaaGreatDoor
open Go.RowKit Go.Joins
set_option linter.unusedVariables false
set_option linter.unusedSimpArgs false
/-- What an attribute of a name is told as. -/
def AvAns (n : Nat) (N V : Nat → ByteArray) (A v : ByteArray) (B : Bool) : Prop := (B = true ∧ ∃ i, i < n ∧ ((N i).toList == A.toList) = true ∧ (∀ j, j < i → ((N j).toList == A.toList) = false) ∧ v = V i) ∨ (B = false ∧ v = ⟨#[]⟩ ∧ ∀ j, j < n → ((N j).toList == A.toList) = false)
set_option maxRecDepth 100000 in
set_option maxHeartbeats 4000000 in
theorem i_attrQ (ad : Option Addr) (n cp : Nat) (N V : Nat → ByteArray) (A : ByteArray) (w : World) (hn : n ≤ 10) (hr : AtAt w ad n N V w.heap.size) :
    Calls Tryz.prog 106 #[.slice ad n cp, .string A] w fun e w' => (∃ v B, e = .returned (.tuple #[.string v, .bool B]) ∧ AvAns n N V A v B) ∧ Below w.heap.size w w' := by
  have HR := hide hr
  clear hr
  go_enter Tryz.func106, Tryz.ntmps106
  go_wp2
  go_loopw [10] (fun i wr => ∃ k : Nat, k ≤ n ∧ i = .int .i64 k ∧ Hid (∀ j, j < k → ((N j).toList == A.toList) = false) ∧ Hid (Below w.heap.size w wr)) (fun i _ => n - (intOf i).toNat)
  case atStart => exact ⟨0, Nat.zero_le _, rfl, fun j h => by omega, Below.refl _ _⟩
  case round =>
    obtain ⟨k, hk, rfl, HA, HB⟩ := hrel
    by_cases hlt : k < n
    · have hki : (k : Int) < n := by omega
      obtain ⟨b, off, rfl, hb, hrow⟩ := HR.out (by omega)
      obtain ⟨x0, x1⟩ := hrow k hlt
      have y0 := (HB.out.cell (p := ⟨b, off + k * 2, none⟩) hb).trans x0
      have y1 := (HB.out.cell (p := ⟨b, off + k * 2 + 1, none⟩) hb).trans x1
      obtain ⟨N9, hN9⟩ : ∃ N9, N k = N9 := ⟨_, rfl⟩
      obtain ⟨V9, hV9⟩ : ∃ V9, V k = V9 := ⟨_, rfl⟩
      rw [hN9] at y0
      rw [hV9] at y1
      have HN9 := hide hN9
      have HV9 := hide hV9
      have hwb : w.heap.size ≤ wr.heap.size := HB.out.size
      clear x0 x1 hrow hN9 hV9
      cases hq : (N9.toList == A.toList)
      · have HA2 : Hid (∀ j, j < k + 1 → ((N j).toList == A.toList) = false) := hide (fun j hj => by
          by_cases e : j = k
          · subst e; rw [HN9.out]; exact hq
          · exact HA.out j (by omega))
        go_wp2
        go_roundw
        case rel => exact ⟨k + 1, by omega, by go_num, HA2, hide (HB.out.alloc hwb _)⟩
        case measure => simp [intOf]; omega
      · have HQ := hide hq
        go_wp2
        go_ret2
        exact ⟨⟨_, _, rfl, .inl ⟨rfl, k, hlt, by rw [HN9.out]; first | exact HQ.out | simpa using HQ.out, HA.out, HV9.out.symm⟩⟩, HB.out.alloc hwb _⟩
    · have hkn : k = n := by omega
      subst hkn
      go_wp2
      go_ret2
      exact ⟨⟨_, _, rfl, .inr ⟨rfl, rfl, HA.out⟩⟩, HB.out⟩
theorem av_mt {D : Dc} {p : Nat} {A v : ByteArray} {B : Bool} (h : AvAns (D.AC p) (D.AN p) (D.AV p) A v B) (h0 : vlA D A p = mtA D p A (D.AC p)) (h1 : ∀ i, i < D.AC p → ((D.AN p i).toList == A.toList) = true → (∀ j, j < i → ((D.AN p j).toList == A.toList) = false) → mtA D p A (D.AC p) = [D.AV p i]) (h2 : (∀ j, j < D.AC p → ((D.AN p j).toList == A.toList) = false) → mtA D p A (D.AC p) = []) : vlA D A p = if B = true then [v] else [] := by
  rcases h with ⟨rfl, i, hi, he, hn, rfl⟩ | ⟨rfl, rfl, hn⟩
  · rw [h0, h1 i hi he hn]; rfl
  · rw [h0, h2 hn]; rfl
theorem te_st {b : Nat} {w w1 : World} (h : Below b w w1) : Below b w w1.drew := h.trans ⟨rfl, rfl, rfl, Nat.le_refl _, fun _ _ => rfl⟩
/-- A field in a block of its own. -/
def FdB (w : World) (G : Nat) (ad : Option Addr) (m c : Nat) (A : ByteArray) : Prop := CellsAt w G #[.bool false, .slice ad m c, .string A]
set_option maxRecDepth 100000 in
set_option maxHeartbeats 4000000 in
theorem i_valueOf (D : Dc) (n b off cap : Nat) (p : Int) (ad : Option Addr) (m c : Nat) (A : ByteArray) (w : World) (hD : D.n = n) (hdk : docokB D = true) (hp : 0 ≤ p ∧ p < n) (hbs : b < w.heap.size) (hr : DcRow w b off D w.heap.size) :
    Calls Tryz.prog 72 #[.agg #[.bool false, .slice ad m c, .string A], .slice (some ⟨b, off, none⟩) n cap, .int .i64 p] w fun e w' => (∃ v B, e = .returned (.tuple #[.string v, .bool B]) ∧ vlA D A p.toNat = if B = true then [v] else []) ∧ Below w.heap.size w w' := by
  obtain ⟨hp0, hp1⟩ := hp
  have HD := hide hD
  have hn : n ≤ 200 := by rw [← hD]; exact (docok_facts hdk).1.2
  have hpn : p.toNat < n := by omega
  have hpc : (p.toNat : Int) = p := by omega
  have st := fun o : Obj => (Below.refl w.heap.size w).alloc (Nat.le_refl _) o
  cases hae : A.toList.isEmpty
  · have hane : A.toList ≠ [] := by simpa using hae
    obtain ⟨ad4, cp4, hc4, hat4, -⟩ := hr p.toNat (by rw [hD]; exact hpn)
    have HVA : Hid (vlA D A p.toNat = mtA D p.toNat A (D.AC p.toNat)) := hide (by unfold vlA; rw [if_neg (by rw [hae]; decide)])
    have HM1 : Hid (∀ i, i < D.AC p.toNat → ((D.AN p.toNat i).toList == A.toList) = true → (∀ j, j < i → ((D.AN p.toNat j).toList == A.toList) = false) → mtA D p.toNat A (D.AC p.toNat) = [D.AV p.toNat i]) := hide (fun i h1 h2 h3 => mt_one hdk (by omega) h1 h2 h3)
    have HM0 : Hid ((∀ j, j < D.AC p.toNat → ((D.AN p.toNat j).toList == A.toList) = false) → mtA D p.toNat A (D.AC p.toNat) = []) := hide (fun h => mt_none _ h)
    have hac10 := (att_facts hdk (p := p.toNat) (by omega)).1
    obtain ⟨-, -, -, e3⟩ := hc4
    have CA : Hid (∀ w4, Below w.heap.size w w4 → Calls Tryz.prog 106 #[.slice ad4 (D.AC p.toNat) cp4, .string A] w4 fun e w' => (∃ v B, e = .returned (.tuple #[.string v, .bool B]) ∧ AvAns (D.AC p.toNat) (D.AN p.toNat) (D.AV p.toNat) A v B) ∧ Below w4.heap.size w4 w') := hide (fun w4 h4 => i_attrQ ad4 (D.AC p.toNat) cp4 _ _ A w4 hac10 (atAt_up (atAt_go hat4 h4) h4.size))
    have hbl : b < w.heap.size := hbs
    have HE3 : Hid (∀ w4, Below w.heap.size w w4 → w4.cell? ⟨b, off + p.toNat * 4 + 3, none⟩ = some (.slice ad4 (D.AC p.toNat) cp4)) := hide (fun w4 h => (h.cell (p := ⟨b, off + p.toNat * 4 + 3, none⟩) hbs).trans e3)
    clear hr hdk hat4 hD hpc
    go_enter Tryz.func72, Tryz.ntmps72
    go_wp2
    go_region_with (go_at_call 106; refine (CA.out _ (by first | exact te_st (st _) | exact (st _))).mono ?_; rintro e w5 ⟨⟨v, B, rfl, hv⟩, hb5⟩; have HV := hide hv; have HB5 := hide hb5; clear hv hb5)
    all_goals
      go_wp2
      all_goals
        go_ret2
        exact ⟨⟨v, B, rfl, av_mt HV.out HVA.out HM1.out HM0.out⟩, (te_st (st _)).trans (HB5.out.mono (te_st (st _)).size)⟩
  · have hane : A.toList = [] := by simpa using hae
    have HVA : Hid (vlA D A p.toNat = [txF D p.toNat n]) := hide (by unfold vlA; rw [if_pos hae, hD])
    have CT : Hid (∀ w4, Below w.heap.size w w4 → Calls Tryz.prog 105 #[.slice (some ⟨b, off, none⟩) n cap, .int .i64 p] w4 fun e w' => e = .returned (.string (txF D p.toNat n)) ∧ Below w4.heap.size w4 w') := hide (fun w4 h4 => by
      have h9 := i_textBelow D n b off cap w4 p.toNat hD hn hpn (Nat.lt_of_lt_of_le hbs h4.size) (dcRow_up (dcRow_go hr hbs h4) h4.size) (by rw [← hD]; exact docok_good hdk) (by rw [← hD]; exact (docok_facts hdk).2.2)
      rw [hpc] at h9 ⊢
      exact h9)
    obtain ⟨T, hT⟩ : ∃ T, txF D p.toNat n = T := ⟨_, rfl⟩
    rw [hT] at HVA CT
    clear hr hdk hD hpc hT
    go_enter Tryz.func72, Tryz.ntmps72
    go_wp2_with (go_at_call 105; refine (CT.out _ (st _)).mono ?_; rintro e w5 ⟨rfl, hb5⟩; have HB5 := hide ((st _).trans (hb5.mono (st _).size)); clear hb5)
    go_ret2
    exact ⟨⟨_, true, rfl, HVA.out⟩, HB5.out⟩
end Go.Proofs.YtfbahffljhnjbaaGreatDoor
