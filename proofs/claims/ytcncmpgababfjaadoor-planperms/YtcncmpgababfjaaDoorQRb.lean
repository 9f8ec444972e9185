/-
  The reference's with, Bound, Vars.
-/
import Derived.Test.YtcncmpgababfjaaDoorQBs
import Derived.Test.YtcncmpgababfjaaDoorQCd
namespace Go.Proofs.YtcncmpgababfjaaDoor
open Go.RowKit Go.Lib Go.Shelf

/-- texts in a row of the call's own -/
def OwnT (base : Nat) (w : World) (v : Value) (L : List (List UInt8)) : Prop := w.ownsRow base 9 sK.k v L.length (L.flatMap sK.enc)

end Go.Proofs.YtcncmpgababfjaaDoor
