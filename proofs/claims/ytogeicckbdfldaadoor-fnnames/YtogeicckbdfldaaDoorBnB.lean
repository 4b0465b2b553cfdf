/-
  Contracts: the map of an item's bindings, made by the program.
-/
import Derived.Test.YtogeicckbdfldaaDoorBnMap
import Derived.Test.YtogeicckbdfldaaDoorDocAt
namespace Go.Proofs.YtogeicckbdfldaaDoor
open Go.RowKit Go.Maps
set_option linter.unusedVariables false
set_option linter.unusedSimpArgs false
/-- What the first k attributes bind: the last one counts. -/
def mF (N V : Nat → ByteArray) : Nat → ByteArray → Option ByteArray
  | 0, _ => none
  | k + 1, q => if bdK (N k) = some q then some (V k) else mF N V k q
theorem mF_none {N V : Nat → ByteArray} {k : Nat} (h : bdK (N k) = none) : mF N V (k + 1) = mF N V k := by
  funext q
  show (if bdK (N k) = some q then some (V k) else mF N V k q) = _
  rw [h]; rfl
theorem mF_some {N V : Nat → ByteArray} {k : Nat} {p : ByteArray} (h : bdK (N k) = some p) : mF N V (k + 1) = fun q => if q = p then some (V k) else mF N V k q := by
  funext q
  show (if bdK (N k) = some q then some (V k) else mF N V k q) = _
  rw [h]
  by_cases e : q = p
  · subst e; simp
  · rw [if_neg e, if_neg (fun e2 => e (Option.some.inj e2).symm)]
theorem bdK_size {nm p : ByteArray} (h : bdK nm = some p) : p.size ≤ nm.size := by
  unfold bdK at h
  split at h
  · cases h
    unfold spl
    repeat' split
    · exact Nat.le_refl _
    · exact Nat.zero_le _
    · show (post nm).size ≤ _
      unfold post
      rw [ByteArray.size_extract]
      omega
    · exact Nat.zero_le _
  · split at h
    · cases h; exact Nat.zero_le _
    · cases h
/-- A map of bindings that says f. -/
def MapAt (w : World) (b n : Nat) (f : ByteArray → Option ByteArray) : Prop := ∃ D : DataW Unit, w.ownsMap Tryd.prog 9 bR b n D ∧ MapSays D f
theorem own_dr {w : World} {b n : Nat} {D : DataW Unit} (h : w.ownsMap Tryd.prog 9 bR b n D) (q : Nat) : (w.drewN q).ownsMap Tryd.prog 9 bR b n D := h
theorem below_dr {b : Nat} {w w1 : World} (h : Below b w w1) (q : Nat) : Below b w (w1.drewN q) := h.trans ⟨rfl, rfl, rfl, Nat.le_refl _, fun _ _ => rfl⟩
set_option maxRecDepth 100000 in
set_option maxHeartbeats 2000000 in
theorem i_bindings (a : Option Addr) (n c : Nat) (N V : Nat → ByteArray) (w : World) (hn : n ≤ 1048576) (hN : ∀ j, j < n → (N j).size ≤ 1048576) (hr : AtAt w a n N V w.heap.size) :
    Calls Tryd.prog 60 #[.slice a n c] w fun e w' => e = .returned (.map (some w.heap.size)) ∧ MapAt w' w.heap.size n (mF N V n) ∧ Below w.heap.size w w' := by
  have HR := hide hr
  have HNS := hide hN
  clear hr hN
  have hmm := @run_makeMap Tryd.prog
  go_enter Tryd.func60, Tryd.ntmps60
  go_wp2
  clear hmm
  go_loopw [11] (fun i wr => ∃ k : Nat, k ≤ n ∧ i = .int .i64 k ∧ Hid (Below w.heap.size w wr) ∧ Hid (MapAt wr w.heap.size k (mF N V k))) (fun i _ => n - (intOf i).toNat)
  case atStart => exact ⟨0, Nat.zero_le _, rfl, hide ((Below.refl _ _).alloc (Nat.le_refl _) _), hide ⟨_, World.ownsMap_made w Tryd.prog 9 bR, says_nil⟩⟩
  case round =>
    obtain ⟨k, hk, rfl, HB, HMp⟩ := hrel
    by_cases hlt : k < n
    · obtain ⟨b, off, rfl, hbs, hc⟩ := HR.out (by omega)
      have c0 : wr.cell? ⟨b, off + k * 2, none⟩ = some (.string (N k)) := (HB.out.cell hbs).trans (hc k hlt).1
      have c1 : wr.cell? ⟨b, off + k * 2 + 1, none⟩ = some (.string (V k)) := (HB.out.cell hbs).trans (hc k hlt).2
      have hNk := HNS.out k hlt
      have CB := hide (fun (w : World) => i_binds (N k) w hNk)
      obtain ⟨D, hown, hsay⟩ := HMp.out
      have HO := hide hown
      have HSy := hide hsay
      clear hc hown hsay
      cases hB : bdK (N k) with
      | none =>
        rw [hB] at CB
        have HF := hide (mF_none (V := V) hB)
        clear hB
        go_wp2_with (go_at_call 61; refine (CB.out _).mono ?_; rintro e w2 ⟨rfl, q, rfl⟩)
        go_roundw
        case rel => exact ⟨k + 1, by omega, by go_num, hide (below_dr (HB.out.alloc HB.out.size _) _), hide (by rw [HF.out]; exact ⟨D, (own_dr (HO.out.alloc _) _).mono (Nat.le_succ _), HSy.out⟩)⟩
        case measure => simp [intOf]; omega
      | some p =>
        rw [hB] at CB
        have HF := hide (mF_some (V := V) hB)
        have hps : p.size ≤ maxLen := by have := bdK_size hB; unfold maxLen; omega
        clear hB
        go_wp2_with (first
          | (go_at_call 61; refine (CB.out _).mono ?_; rintro e w2 ⟨rfl, q, rfl⟩)
          | (at_mapUpdate; refine wpList_mapUpdate_own _ rfl _ _ _ 80 rfl 9 86 lawK Tryd.underlying80 bR w.heap.size k D rfl (own_dr (HO.out.alloc _) _) (by unfold maxLen; omega) _ _ (kL p) rfl rfl (Go.WideMaps.keyOf_string_mk Tryd.underlying9 hps) _ [] (bR_mk (V k)) ?_; intro w3 hown3 hg3; have HO3 := hide hown3; have HB3 := hide ((below_dr (HB.out.alloc HB.out.size _) _).grown hg3 (by have := HB.out.size; simp; omega) (fun j hj => by cases hj; exact Nat.le_refl _)); clear hown3 hg3))
        go_roundw
        case rel => exact ⟨k + 1, by omega, by go_num, HB3, hide (by rw [HF.out]; exact ⟨_, HO3.out, says_put HSy.out p (V k)⟩)⟩
        case measure => simp [intOf]; omega
    · have hkn : k = n := by omega
      subst hkn
      go_wp2
      go_ret
      exact ⟨rfl, HMp.out, HB.out⟩
end Go.Proofs.YtogeicckbdfldaaDoor
