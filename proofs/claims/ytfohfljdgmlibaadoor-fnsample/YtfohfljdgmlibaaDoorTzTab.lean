/-
  The library's table of places of bits, as its initialiser lays it.
-/
import Derived.Test.YtfohfljdgmlibaaDoorBtI
import Derived.Test.YtfohfljdgmlibaaDoorTabOf
import Derived.Lib.LaidTab
namespace Go.Proofs.YtfohfljdgmlibaaDoor
open Go.RowKit Go.Joins
theorem tz_of {w : World} (h : Lib.TabIs Tryd.prog w "math/bits.deBruijn64tab" .u8 (Lib.deBruijn64tab.map Int.ofNat)) : TzT w := fun j hj => by
  have hc := Lib.TabIs.cell h (g := 0) (by kernel_rfl) j (by rw [List.length_map]; exact hj)
  rw [hc]
  congr 2
  rw [List.getD_eq_getElem?_getD, List.getD_eq_getElem?_getD, List.getElem?_map, List.getElem?_eq_getElem hj]
  rfl
end Go.Proofs.YtfohfljdgmlibaaDoor
