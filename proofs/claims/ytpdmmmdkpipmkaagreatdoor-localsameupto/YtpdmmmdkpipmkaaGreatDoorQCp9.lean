/-
  The reference's Copy of rules.
-/
import Derived.Test.YtpdmmmdkpipmkaaGreatDoorQCl12
import Derived.Test.YtpdmmmdkpipmkaaGreatDoorQE3
import Derived.Test.YtpdmmmdkpipmkaaGreatDoorQLs9
import Derived.Deep.RegionLaw
namespace Go.Proofs.YtpdmmmdkpipmkaaGreatDoor
open Go.RowKit Go.Sort
end Go.Proofs.YtpdmmmdkpipmkaaGreatDoor
