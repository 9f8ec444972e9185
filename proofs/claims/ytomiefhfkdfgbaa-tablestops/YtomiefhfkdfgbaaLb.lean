/-
  The library's texts that the walks of layers 7 to 10 lean on: with fewer of them a walk may run away (the reference's Copy: 52 s, or none).
-/
import Derived.WalkKit
import Derived.ProofKit
import Derived.OpenShut
import Derived.ShutString
import Derived.ChangeOld
import Derived.Below
import Derived.WalkSpells
import Derived.WalkLawsBesides
import Derived.Deep.AppendSrc
import Derived.Deep.DeepAppendRoom
import Derived.Laws.IdiomStrings
import Derived.Laws.AppendOwnNone
import Derived.Laws.Cover1
import Derived.Sort.Grow
import Derived.Deep.MidRow
import Derived.KernelRfl
import Derived.WalkMore
import Derived.Shelf.Abstract
import Derived.Deep.QuietTactic
import Derived.BigQuiet
import Derived.Deep.LoopGhost
import Derived.Laws.StructEq
import Derived.Lib.AtoiAllCases
import Derived.Lib.ItoaMem
import Derived.Great.BuildSlice
import Derived.Defers
import Derived.Recover
import Derived.OwnWalk
import Derived.Deep.Cut
import Derived.StillTailTactics
import Derived.Deep.RegionLaw
import Derived.Test.YtomiefhfkdfgbaaMv
namespace Go.Proofs.Ytomiefhfkdfgbaa
end Go.Proofs.Ytomiefhfkdfgbaa
