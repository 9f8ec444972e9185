/-
  The contract of the reference's Sum where a slice tells its length by a number of its own.
-/
import Derived.Test.YtmdeielcoomeeaaDoorRefS
namespace Go.Proofs.YtmdeielcoomeeaaDoor
open Go.RowKit

theorem refSum_at (a : Option Addr) (c n : Nat) (l : List UInt8) (w : World) (hn : l.length = n) (ha : Holds w a c l) (hl : n ≤ 140737488352000) :
    Calls Tryd.prog 19 #[.slice a n c] w fun e w' => e = .returned (ba (Sm.sum l)) ∧ Below w.heap.size w w' := by
  subst hn
  exact refSum_any a c l w ha hl

end Go.Proofs.YtmdeielcoomeeaaDoor
