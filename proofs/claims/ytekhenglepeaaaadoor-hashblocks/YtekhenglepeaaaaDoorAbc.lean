/-
  The document's example, reckoned.
-/
import Derived.Test.YtekhenglepeaaaaDoorSm2
namespace Go.Proofs.YtekhenglepeaaaaDoor.Sm
theorem abc : (sum [97, 98, 99]).take 2 = [186, 120] := by decide +kernel
end Go.Proofs.YtekhenglepeaaaaDoor.Sm
