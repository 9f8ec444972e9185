/-
  Rules that were parsed, of which nothing but their cells is known.
-/
import Derived.Deep.QuietTactic
import Derived.BigQuiet
import Derived.Laws.StructEq
import Derived.Deep.Cut
import Derived.StillTailTactics
import Derived.Test.YtpdmmmdkpipmkaaGreatDoorQPh
import Derived.Test.YtpdmmmdkpipmkaaGreatDoorQE3
namespace Go.Proofs.YtpdmmmdkpipmkaaGreatDoor
open Go.RowKit Go.Lib Go.Shelf
theorem RowsAt.weak {w: World} {l: List Ru} {u: Value} (h: RowsAt w l u): ∃ a c xs,u = .slice a (List.length xs) c ∧ xs.map Rv.r = l ∧ Rws w a c xs:= by
 obtain ⟨a,c,xs,h1,h2,h3,h4⟩:= h
 exact ⟨a,c,xs,h1,h2,h3.row,fun x hx => (h4 x hx).aw⟩
end Go.Proofs.YtpdmmmdkpipmkaaGreatDoor
namespace Go.Proofs.YtpdmmmdkpipmkaaGreatDoor
open Go.RowKit Go.Lib Go.Shelf
end Go.Proofs.YtpdmmmdkpipmkaaGreatDoor
