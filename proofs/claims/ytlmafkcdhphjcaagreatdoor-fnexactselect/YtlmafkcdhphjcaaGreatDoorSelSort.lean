/-
  Contract: the library's sort of a row of numbers of one's own, in the words of these texts.
-/
import Derived.Test.YtlmafkcdhphjcaaGreatDoorSelS
import Derived.Test.YtlmafkcdhphjcaaGreatDoorShelfS
import Derived.Sort.OwnSortedInts
namespace Go.Proofs.YtlmafkcdhphjcaaGreatDoor
open Go.RowKit Go.Sort
set_option linter.unusedVariables false
set_option linter.unusedSimpArgs false
theorem intR_low {B B' : Nat} {w : World} {ad : Option Addr} {c : Nat} {L : List Int} (h : IntR B w ad c L) (hb : B' ≤ B) : IntR B' w ad c L := gOwn_lower h hb
theorem i_sort (B : Nat) (ad : Option Addr) (c : Nat) (L : List Int) (w : World) (h : IntR B w ad c L) (hl : L.length ≤ 1000) (hn : L.Nodup) :
    Calls Tryz.prog 40 #[.slice ad L.length c] w fun e w' => e = .returned (.tuple #[]) ∧ ∃ m, m = (srtL L).length ∧ m = L.length ∧ IntR B w' ad c (srtL L) ∧ ∀ w0, Below B w0 w → Below B w0 w' := by
  rcases h.2 with ⟨hv, h0⟩ | ⟨g, cap, cur, hv, hB, hg, hc, hm, hz, ht⟩
  · simp only [Value.slice.injEq] at hv
    obtain ⟨rfl, h1, rfl⟩ := hv
    have hL : L = [] := List.length_eq_zero_iff.1 h1
    subst hL
    refine (AnyM.slices_Sort_int_none Tryz.laysSlM5_f40 none 0 w).mono ?_
    rintro e w' ⟨rfl, rfl⟩
    exact ⟨rfl, 0, rfl, rfl, h, fun w0 hb => hb⟩
  · simp only [Value.slice.injEq] at hv
    obtain ⟨rfl, -, rfl⟩ := hv
    have hgl : g < w.heap.size := (Array.getElem?_eq_some_iff.1 hg).1
    have hs := srt_merge hn
    have hsl : (srtL L).length = L.length := srt_len hn
    refine (Tryz.slices_Sort_int g 0 c L w (holds_of_blockI hg (by rw [Nat.mul_one] at ht; exact ht)) hgl (by omega)).mono ?_
    rintro e w' ⟨rfl, n, os, rfl⟩
    rw [hs]
    have ho := ownsRow_sortedI (n := n) (os := os) (ss := L) (ts := srtL L) hsl hB hg hc hm hz
    refine ⟨rfl, _, rfl, hsl, ?_, fun w0 hb => ?_⟩
    · unfold IntR
      rw [hsl]
      exact ho
    · exact hb.grown (grownBy_sortedI (srtL L).toArray) (by omega) (fun k hk => by cases hk; exact hB)
end Go.Proofs.YtlmafkcdhphjcaaGreatDoor
