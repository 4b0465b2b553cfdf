/-
  The walk of FnExactAttribute, whole.
-/
import Derived.Test.YteeglkkgkjmjpaaDoorAtL
import Derived.Test.YteeglkkgkjmjpaaDoorAtS
namespace Go.Proofs.YteeglkkgkjmjpaaDoor
open Go.RowKit Go.Joins
theorem at_walk (D : Pn) (n : Nat) (a : Option Addr) (cap : Nat) (Q : List ByteArray) (m : Nat) (b : Option Addr) (cq : Nat) (w : World) (hD : D.n = n) (hz : PnSz D) (hr : PnAt w a D w.heap.size) (hQ : Q.length = m) (hqz : TxSz Q) (hq : TxAt w b Q w.heap.size) (hT : TzT w) :
    Calls Tryd.prog 9 #[.slice a n cap, .slice b m cq] w fun e w' => e = .returned (.bool true) ∧ Below w.heap.size w w' :=
  at_walk0 D n a cap Q m b cq w hD hz hr hQ hqz hq hT (fun a' c' b' d' w' h1 h2 h3 h4 => s_attr D n a' c' Q m b' d' w' hD h1 h3 hQ h2 h4)
end Go.Proofs.YteeglkkgkjmjpaaDoor
