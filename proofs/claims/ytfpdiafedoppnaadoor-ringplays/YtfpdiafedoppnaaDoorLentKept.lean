/-
  The contracts of the statements' own helpers Lent (bytes in the middle of greater memory) and Kept (is what was lent as it was?).
-/
import Derived.Test.YtfpdiafedoppnaaDoorBase
namespace Go.Proofs.YtfpdiafedoppnaaDoor
open Go.RowKit

end Go.Proofs.YtfpdiafedoppnaaDoor
