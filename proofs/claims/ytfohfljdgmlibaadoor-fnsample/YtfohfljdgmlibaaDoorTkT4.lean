/-
  Contract: what each node of a model tells of its rows.
-/
import Derived.Test.YtfohfljdgmlibaaDoorTkT1
import Derived.Test.YtfohfljdgmlibaaDoorTkT2
import Derived.Test.YtfohfljdgmlibaaDoorTkT3
namespace Go.Proofs.YtfohfljdgmlibaaDoor
open Go.RowKit Go.Joins
set_option linter.unusedVariables false
set_option linter.unusedSimpArgs false
theorem i_tell (D : Pn) (n b0 off cap PB T TB B0 : Nat) (hRN : RN D n) (mv : Value) (e0 : Nat) : ∀ (k i : Nat), i < k → i < n → ∀ (F : Nat → Nat) (w : World), TkW w D n b0 off cap PB T TB B0 → CellsAt w T (tkC mv F e0) → (∀ p, p < 41 → F p < 1099511627776) →
    Calls Tryd.prog 66 #[.int .i64 i, .pointer (some ⟨PB, 0, none⟩), .pointer (some ⟨T, 0, none⟩), .pointer (some ⟨TB, 0, none⟩)] w (TellA D i T mv F e0 w)
  | 0, i, hk, hi => by omega
  | k + 1, i, hk, hi => by
    have IH := fun (c : Nat) (hc : c < i) => i_tell D n b0 off cap PB T TB B0 hRN mv e0 k c (by omega) (by omega)
    rcases rn_kinds hRN hi with h | h | h | h
    · exact tell_leaf1 D n b0 off cap PB T TB B0 hRN mv e0 i hi h IH
    · exact tell_seq D n b0 off cap PB T TB B0 hRN mv e0 i hi h IH
    · exact tell_or D n b0 off cap PB T TB B0 hRN mv e0 i hi h IH
    · exact tell_leaf4 D n b0 off cap PB T TB B0 hRN mv e0 i hi h IH
end Go.Proofs.YtfohfljdgmlibaaDoor
