/-
  Contracts: is there an attribute of that name; how many bytes an item has.
-/
import Derived.Test.YtfbahffljhnjbaaGreatDoorX4
namespace Go.Proofs.YtfbahffljhnjbaaGreatDoor
open Go.RowKit Go.Joins
set_option linter.unusedVariables false
set_option linter.unusedSimpArgs false
def sameS (x y : ByteArray) : Bool := x.toList == y.toList
/-- One of the first n has that name. -/
def anyS (n : Nat) (N : Nat → ByteArray) (s : ByteArray) : Bool := (List.range n).any fun k => sameS (N k) s
theorem anyS_hit {n k : Nat} {N : Nat → ByteArray} {s : ByteArray} (hk : k < n) (h : ((N k).toList == s.toList) = true) : anyS n N s = true := by
  unfold anyS
  rw [List.any_eq_true]
  exact ⟨k, by simpa using hk, h⟩
theorem anyS_no {n : Nat} {N : Nat → ByteArray} {s : ByteArray} (h : ∀ k, k < n → ((N k).toList == s.toList) = false) : anyS n N s = false := by
  unfold anyS
  rw [List.any_eq_false]
  intro k hk
  have := h k (by simpa using hk)
  show ¬ (sameS (N k) s) = true
  unfold sameS
  rw [this]
  decide
/-- What the first attribute of a name says; nothing, when there is none. -/
def AttrIs (n : Nat) (N V : Nat → ByteArray) (s v : ByteArray) : Prop := (anyS n N s = false ∧ v = ⟨#[]⟩) ∨ (anyS n N s = true ∧ ∃ k, k < n ∧ ((N k).toList == s.toList) = true ∧ (∀ j, j < k → ((N j).toList == s.toList) = false) ∧ v = V k)
set_option maxHeartbeats 1000000 in
theorem i_attrV (a : Option Addr) (n c : Nat) (N V : Nat → ByteArray) (s : ByteArray) (w : World) (hn : n ≤ 1048576) (hr : AtAt w a n N V w.heap.size) :
    Calls Tryz.prog 106 #[.slice a n c, .string s] w fun e w' => ∃ v, e = .returned (.tuple #[.string v, .bool (anyS n N s)]) ∧ AttrIs n N V s v ∧ Below w.heap.size w w' := by
  have HR := hide hr
  clear hr
  go_enter Tryz.func106, Tryz.ntmps106
  go_wp2
  go_loopw [10] (fun i wr => ∃ k : Nat, k ≤ n ∧ i = .int .i64 k ∧ Below w.heap.size w wr ∧ Hid (∀ j, j < k → ((N j).toList == s.toList) = false)) (fun i _ => n - (intOf i).toNat)
  case atStart => exact ⟨0, Nat.zero_le _, rfl, Below.refl _ _, fun j h => by omega⟩
  case round =>
    obtain ⟨k, hk, rfl, hb, HM⟩ := hrel
    by_cases hlt : k < n
    · obtain ⟨b, off, rfl, hbs, hc⟩ := HR.out (by omega)
      have c0 : wr.cell? ⟨b, off + k * 2, none⟩ = some (.string (N k)) := (hb.cell hbs).trans (hc k hlt).1
      have c1 : wr.cell? ⟨b, off + k * 2 + 1, none⟩ = some (.string (V k)) := (hb.cell hbs).trans (hc k hlt).2
      have HB := hide hb
      clear hc hb
      cases he : ((N k).toList == s.toList)
      · go_wp2
        go_roundw
        case rel =>
          refine ⟨k + 1, by omega, by go_num, HB.out.alloc HB.out.size _, fun j hj => ?_⟩
          by_cases e : j = k
          · subst e; exact he
          · exact HM.out j (by omega)
        case measure => simp [intOf]; omega
      · have HA := hide (anyS_hit hlt he)
        have HE := hide he
        go_wp2
        go_ret2
        exact ⟨V k, by rw [HA.out]; rfl, .inr ⟨HA.out, k, hlt, HE.out, HM.out, rfl⟩, HB.out.alloc HB.out.size _⟩
    · have hkn : k = n := by omega
      subst hkn
      have HA := hide (anyS_no HM.out)
      go_wp2
      go_ret2
      exact ⟨⟨#[]⟩, by rw [HA.out]; rfl, .inl ⟨HA.out, rfl⟩, hb⟩
set_option maxHeartbeats 1000000 in
theorem i_has (a : Option Addr) (n c : Nat) (N V : Nat → ByteArray) (s : ByteArray) (w : World) (hn : n ≤ 1048576) (hr : AtAt w a n N V w.heap.size) :
    Calls Tryz.prog 142 #[.slice a n c, .string s] w fun e w' => e = .returned (.bool (anyS n N s)) ∧ Below w.heap.size w w' := by
  have C := hide (i_attrV a n c N V s w hn hr)
  clear hr
  go_enter Tryz.func142, Tryz.ntmps142
  go_wp2_with (first | (go_at_call 106; refine C.out.mono ?_; rintro e w2 ⟨v, rfl, -, hb⟩; have HB := hide hb; clear hb))
  go_ret
  exact ⟨rfl, HB.out⟩
def atsT (n : Nat) (N V : Nat → ByteArray) : Nat := sumN (atSz N V) n
set_option maxHeartbeats 1000000 in
theorem i_size (up : Int) (nm tx : ByteArray) (a : Option Addr) (n c : Nat) (N V : Nat → ByteArray) (w : World) (hs : nm.size + tx.size + n + atsT n N V ≤ 1048576) (hr : AtAt w a n N V w.heap.size) :
    Calls Tryz.prog 84 #[.agg #[.int .i64 up, .string nm, .string tx, .slice a n c]] w fun e w' => e = .returned (.int .i64 ((nm.size + tx.size + atsT n N V : Nat) : Int)) ∧ Below w.heap.size w w' := by
  have HR := hide hr
  have HS := hide hs
  have hn : n ≤ 1048576 := by omega
  have hx : (nm.size : Int) ≤ 1048576 := by omega
  have hy : (tx.size : Int) ≤ 1048576 := by omega
  clear hr hs
  go_enter Tryz.func84, Tryz.ntmps84
  go_wp2
  go_loopw [3, 16] (fun t i wr => ∃ k : Nat, k ≤ n ∧ i = .int .i64 k ∧ t = .int .i64 ((nm.size : Int) + tx.size + (sumN (atSz N V) k : Int)) ∧ Below w.heap.size w wr) (fun _ i _ => n - (intOf i).toNat)
  case atStart => exact ⟨0, Nat.zero_le _, rfl, by simp [sumN], (Below.refl _ _).alloc (Nat.le_refl _) _⟩
  case round =>
    obtain ⟨k, hk, rfl, rfl, hb⟩ := hrel
    have hle := sumN_le (atSz N V) hk
    have hall := HS.out
    unfold atsT at hall
    by_cases hlt : k < n
    · obtain ⟨b, off, rfl, hbs, hc⟩ := HR.out (by omega)
      have c0 : wr.cell? ⟨b, off + k * 2, none⟩ = some (.string (N k)) := (hb.cell hbs).trans (hc k hlt).1
      have c1 : wr.cell? ⟨b, off + k * 2 + 1, none⟩ = some (.string (V k)) := (hb.cell hbs).trans (hc k hlt).2
      have HB := hide hb
      have hle2 := sumN_at (atSz N V) hlt
      have hat : atSz N V k = (N k).size + (V k).size := rfl
      rw [hat] at hle2
      obtain ⟨q, hq⟩ : ∃ q, sumN (atSz N V) k = q := ⟨_, rfl⟩
      have HQ1 : Hid (sumN (atSz N V) (k + 1) = q + ((N k).size + (V k).size)) := hide (by rw [← hq]; rfl)
      rw [hq] at hle hle2 ⊢
      have hz1 : (nm.size : Int) + (tx.size : Int) + (q : Int) + ((N k).size : Int) + ((V k).size : Int) ≤ 1048576 := by omega
      clear hc hb hat hq hle hle2 hall
      go_wp2
      go_roundw
      case rel => exact ⟨k + 1, by omega, by go_num, by rw [HQ1.out]; go_num, HB.out.alloc HB.out.size _⟩
      case measure => simp [intOf]; omega
    · have hkn : k = n := by omega
      subst hkn
      go_wp2
      go_ret
      exact ⟨ret_iI (by unfold atsT; omega), hb⟩
end Go.Proofs.YtfbahffljhnjbaaGreatDoor
