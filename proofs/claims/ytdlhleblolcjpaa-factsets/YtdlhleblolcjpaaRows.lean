/-
  No cell of these rows narrows 'for every input' (looked for: loops, veiled, ifaces, maps, wideKeys, modest, calm, conditions, laid).
  DERIVED. THE GIVEN ROWS OF THIS SEAT. 6 by the template 'for every input the law returns true; each argument reads behind the call as it read before'; 0 by the template 'total and deterministic' (their statements: YtdlhleblolcjpaaTotals.lean).
  GIVEN WITH THE SEED: the statements are not yours to turn. If you find one false, say at which input.
  Laid BY PROGRAM, IN A SANDBOX (cutbox-rows.mjs): the forced cells as the released guide's own fill.sh prints them over the translation 9cfc17888937f667… (all of the seat's roots in one cut). By AI agents, Wed Nov 11 2026. No macro, syntax, notation, axiom, sorry.
-/
import Derived.Test.YtdlhleblolcjpaaChecked
import GoSem.Claim
import GoSem.ClaimJoined
import GoSem.ClaimMapViews
import Derived.JoinedTies
import Derived.KernelRfl
namespace Go.Proofs.Ytdlhleblolcjpaa
/- THE CELL 'sum', in the pinned program and in every row, IS THE sha256 OF THE DUMP (.gsa) THAT YtdlhleblolcjpaaProg.lean LOADS. Nothing in Lean hashes anything: it is a label: what it is worth is what the hold of that sum in a sandbox is worth. -/
noncomputable def Try.pinned : Pinned := { name := "ytdlhleblolcjpaa", sum := "9cfc17888937f667364bcf288dcafb616d3b86c2f118aace5eea09897445b61a", checked := Try.checked }
namespace Rows
def none {H : Type} : Left H := { results := [], args := [] }

/-- 'avowallaw04.FactCompares': WHATEVER THE INPUT: true; the input reads as it did. -/
def factComparesSpec : ChangeSpec := { name := "factCompares", fn := fun _ => fun
  | [d1, d2] => { results := [.lit (.bool true)], args := [d1, d2] }
  | _ => none }
def factComparesRow : OpenClaim := { program := "ytdlhleblolcjpaa", sum := "9cfc17888937f667364bcf288dcafb616d3b86c2f118aace5eea09897445b61a", func := "avowal/avowallaw04.FactCompares", spec := "factCompares", inPlace := ["internal/bytealg.abigen_runtime_cmpstring"], unfollowed := true, recurses := true, apart := false }
def FactComparesSaid : Prop := factComparesRow.holds Try.pinned (OpenSpec.ofChange factComparesSpec)

/-- ITS FALSE NEIGHBOUR: 'it returns false'. Refute it at one input. -/
def factComparesWrong : ChangeSpec := { name := "factCompares", fn := fun _ => fun
  | [d1, d2] => { results := [.lit (.bool false)], args := [d1, d2] }
  | _ => none }
def FactComparesWrongFalsely : Prop := factComparesRow.holds Try.pinned (OpenSpec.ofChange factComparesWrong)

/-- 'avowallaw04.FactChecks': WHATEVER THE INPUT: true; the input reads as it did. -/
def factChecksSpec : ChangeSpec := { name := "factChecks", fn := fun _ => fun
  | [d1, d2] => { results := [.lit (.bool true)], args := [d1, d2] }
  | _ => none }
def factChecksRow : OpenClaim := { program := "ytdlhleblolcjpaa", sum := "9cfc17888937f667364bcf288dcafb616d3b86c2f118aace5eea09897445b61a", func := "avowal/avowallaw04.FactChecks", spec := "factChecks", inPlace := ["internal/bytealg.abigen_runtime_cmpstring"], unfollowed := true, recurses := true, apart := false }
def FactChecksSaid : Prop := factChecksRow.holds Try.pinned (OpenSpec.ofChange factChecksSpec)

/-- ITS FALSE NEIGHBOUR: 'it returns false'. Refute it at one input. -/
def factChecksWrong : ChangeSpec := { name := "factChecks", fn := fun _ => fun
  | [d1, d2] => { results := [.lit (.bool false)], args := [d1, d2] }
  | _ => none }
def FactChecksWrongFalsely : Prop := factChecksRow.holds Try.pinned (OpenSpec.ofChange factChecksWrong)

/-- 'avowallaw04.FactOrders': WHATEVER THE INPUT: true; the input reads as it did. -/
def factOrdersSpec : ChangeSpec := { name := "factOrders", fn := fun _ => fun
  | [d1, d2, d3] => { results := [.lit (.bool true)], args := [d1, d2, d3] }
  | _ => none }
def factOrdersRow : OpenClaim := { program := "ytdlhleblolcjpaa", sum := "9cfc17888937f667364bcf288dcafb616d3b86c2f118aace5eea09897445b61a", func := "avowal/avowallaw04.FactOrders", spec := "factOrders", inPlace := ["internal/bytealg.abigen_runtime_cmpstring"], unfollowed := true, recurses := true, apart := false }
def FactOrdersSaid : Prop := factOrdersRow.holds Try.pinned (OpenSpec.ofChange factOrdersSpec)

/-- ITS FALSE NEIGHBOUR: 'it returns false'. Refute it at one input. -/
def factOrdersWrong : ChangeSpec := { name := "factOrders", fn := fun _ => fun
  | [d1, d2, d3] => { results := [.lit (.bool false)], args := [d1, d2, d3] }
  | _ => none }
def FactOrdersWrongFalsely : Prop := factOrdersRow.holds Try.pinned (OpenSpec.ofChange factOrdersWrong)

/-- 'avowallaw04.FactSorts': WHATEVER THE INPUT: true; the input reads as it did. -/
def factSortsSpec : ChangeSpec := { name := "factSorts", fn := fun _ => fun
  | [d] => { results := [.lit (.bool true)], args := [d] }
  | _ => none }
def factSortsRow : OpenClaim := { program := "ytdlhleblolcjpaa", sum := "9cfc17888937f667364bcf288dcafb616d3b86c2f118aace5eea09897445b61a", func := "avowal/avowallaw04.FactSorts", spec := "factSorts", inPlace := ["internal/bytealg.abigen_runtime_cmpstring"], unfollowed := true, recurses := true, apart := false }
def FactSortsSaid : Prop := factSortsRow.holds Try.pinned (OpenSpec.ofChange factSortsSpec)

/-- ITS FALSE NEIGHBOUR: 'it returns false'. Refute it at one input. -/
def factSortsWrong : ChangeSpec := { name := "factSorts", fn := fun _ => fun
  | [d] => { results := [.lit (.bool false)], args := [d] }
  | _ => none }
def FactSortsWrongFalsely : Prop := factSortsRow.holds Try.pinned (OpenSpec.ofChange factSortsWrong)

/-- 'avowallaw04.FactSets': WHATEVER THE INPUT: true; the input reads as it did. -/
def factSetsSpec : ChangeSpec := { name := "factSets", fn := fun _ => fun
  | [d1, d2, d3] => { results := [.lit (.bool true)], args := [d1, d2, d3] }
  | _ => none }
def factSetsRow : OpenClaim := { program := "ytdlhleblolcjpaa", sum := "9cfc17888937f667364bcf288dcafb616d3b86c2f118aace5eea09897445b61a", func := "avowal/avowallaw04.FactSets", spec := "factSets", inPlace := ["internal/bytealg.abigen_runtime_cmpstring"], unfollowed := true, recurses := true, apart := false }
def FactSetsSaid : Prop := factSetsRow.holds Try.pinned (OpenSpec.ofChange factSetsSpec)

/-- ITS FALSE NEIGHBOUR: 'it returns false'. Refute it at one input. -/
def factSetsWrong : ChangeSpec := { name := "factSets", fn := fun _ => fun
  | [d1, d2, d3] => { results := [.lit (.bool false)], args := [d1, d2, d3] }
  | _ => none }
def FactSetsWrongFalsely : Prop := factSetsRow.holds Try.pinned (OpenSpec.ofChange factSetsWrong)

/-- 'avowallaw04.FactParts': WHATEVER THE INPUT: true; the input reads as it did. -/
def factPartsSpec : ChangeSpec := { name := "factParts", fn := fun _ => fun
  | [d1, d2] => { results := [.lit (.bool true)], args := [d1, d2] }
  | _ => none }
def factPartsRow : OpenClaim := { program := "ytdlhleblolcjpaa", sum := "9cfc17888937f667364bcf288dcafb616d3b86c2f118aace5eea09897445b61a", func := "avowal/avowallaw04.FactParts", spec := "factParts", inPlace := ["internal/bytealg.abigen_runtime_cmpstring"], unfollowed := true, recurses := true, apart := false }
def FactPartsSaid : Prop := factPartsRow.holds Try.pinned (OpenSpec.ofChange factPartsSpec)

/-- ITS FALSE NEIGHBOUR: 'it returns false'. Refute it at one input. -/
def factPartsWrong : ChangeSpec := { name := "factParts", fn := fun _ => fun
  | [d1, d2] => { results := [.lit (.bool false)], args := [d1, d2] }
  | _ => none }
def FactPartsWrongFalsely : Prop := factPartsRow.holds Try.pinned (OpenSpec.ofChange factPartsWrong)

/- THE SECOND FORM. 'bulk': how many values and letters a reading holds, each counted each time it is reached (what is shared counts as often as it is met; a slice's spare places count too). A statement '..UptoSaid' is the law's where the arguments, and the package variables that the reading takes, are together of bulk at most 1048576: NARROWER than '..Said'. Prove '..Said' where nothing that the law and all that it calls make is longer than what came in: it says more and counts as full. Else prove '..UptoSaid'. A law counts once. -/
mutual
def uptoBulk {H : Type} : DataW H → Nat
  | .lit (.string bytes) => bytes.length + 1
  | .lit _ => 1
  | .nil => 1
  | .ptr d => uptoBulk d + 1
  | .slice elems spare => uptoBulkAll elems + uptoBulkAll spare + 1
  | .agg parts => uptoBulkAll parts + 1
  | .iface _ d => uptoBulk d + 1
  | .map entries => uptoBulkEntries entries + 1
  | .held _ => 1
def uptoBulkAll {H : Type} : List (DataW H) → Nat
  | [] => 0
  | d :: r => uptoBulk d + uptoBulkAll r
def uptoBulkEntries {H : Type} : List (Lit × DataW H) → Nat
  | [] => 0
  | x :: r => uptoBulkEntry x + uptoBulkEntries r
def uptoBulkEntry {H : Type} : Lit × DataW H → Nat
  | (.string bytes, d) => bytes.length + uptoBulk d + 1
  | (_, d) => uptoBulk d + 1
 end
def uptoSmall : (H : Type) → List (DataW H) → Bool := fun _ ds => decide (uptoBulkAll ds ≤ 1048576)
def OpenSpec.upto (s : _root_.Go.ChangeSpec) : _root_.Go.OpenSpec := { _root_.Go.OpenSpec.ofChange s with cond := some uptoSmall }

/-- 'avowallaw04.FactCompares', WHERE WHAT IT READS IS OF BULK AT MOST 1048576: true; the input reads as it did. -/
def factComparesUptoRow : OpenClaim := { program := "ytdlhleblolcjpaa", sum := "9cfc17888937f667364bcf288dcafb616d3b86c2f118aace5eea09897445b61a", func := "avowal/avowallaw04.FactCompares", spec := "factCompares", inPlace := ["internal/bytealg.abigen_runtime_cmpstring"], unfollowed := true, recurses := true, apart := false, narrowed := true }
def FactComparesUptoSaid : Prop := factComparesUptoRow.holds Try.pinned (OpenSpec.upto factComparesSpec)

/-- 'avowallaw04.FactChecks', WHERE WHAT IT READS IS OF BULK AT MOST 1048576: true; the input reads as it did. -/
def factChecksUptoRow : OpenClaim := { program := "ytdlhleblolcjpaa", sum := "9cfc17888937f667364bcf288dcafb616d3b86c2f118aace5eea09897445b61a", func := "avowal/avowallaw04.FactChecks", spec := "factChecks", inPlace := ["internal/bytealg.abigen_runtime_cmpstring"], unfollowed := true, recurses := true, apart := false, narrowed := true }
def FactChecksUptoSaid : Prop := factChecksUptoRow.holds Try.pinned (OpenSpec.upto factChecksSpec)

/-- 'avowallaw04.FactOrders', WHERE WHAT IT READS IS OF BULK AT MOST 1048576: true; the input reads as it did. -/
def factOrdersUptoRow : OpenClaim := { program := "ytdlhleblolcjpaa", sum := "9cfc17888937f667364bcf288dcafb616d3b86c2f118aace5eea09897445b61a", func := "avowal/avowallaw04.FactOrders", spec := "factOrders", inPlace := ["internal/bytealg.abigen_runtime_cmpstring"], unfollowed := true, recurses := true, apart := false, narrowed := true }
def FactOrdersUptoSaid : Prop := factOrdersUptoRow.holds Try.pinned (OpenSpec.upto factOrdersSpec)

/-- 'avowallaw04.FactSorts', WHERE WHAT IT READS IS OF BULK AT MOST 1048576: true; the input reads as it did. -/
def factSortsUptoRow : OpenClaim := { program := "ytdlhleblolcjpaa", sum := "9cfc17888937f667364bcf288dcafb616d3b86c2f118aace5eea09897445b61a", func := "avowal/avowallaw04.FactSorts", spec := "factSorts", inPlace := ["internal/bytealg.abigen_runtime_cmpstring"], unfollowed := true, recurses := true, apart := false, narrowed := true }
def FactSortsUptoSaid : Prop := factSortsUptoRow.holds Try.pinned (OpenSpec.upto factSortsSpec)

/-- 'avowallaw04.FactSets', WHERE WHAT IT READS IS OF BULK AT MOST 1048576: true; the input reads as it did. -/
def factSetsUptoRow : OpenClaim := { program := "ytdlhleblolcjpaa", sum := "9cfc17888937f667364bcf288dcafb616d3b86c2f118aace5eea09897445b61a", func := "avowal/avowallaw04.FactSets", spec := "factSets", inPlace := ["internal/bytealg.abigen_runtime_cmpstring"], unfollowed := true, recurses := true, apart := false, narrowed := true }
def FactSetsUptoSaid : Prop := factSetsUptoRow.holds Try.pinned (OpenSpec.upto factSetsSpec)

/-- 'avowallaw04.FactParts', WHERE WHAT IT READS IS OF BULK AT MOST 1048576: true; the input reads as it did. -/
def factPartsUptoRow : OpenClaim := { program := "ytdlhleblolcjpaa", sum := "9cfc17888937f667364bcf288dcafb616d3b86c2f118aace5eea09897445b61a", func := "avowal/avowallaw04.FactParts", spec := "factParts", inPlace := ["internal/bytealg.abigen_runtime_cmpstring"], unfollowed := true, recurses := true, apart := false, narrowed := true }
def FactPartsUptoSaid : Prop := factPartsUptoRow.holds Try.pinned (OpenSpec.upto factPartsSpec)

end Rows
end Go.Proofs.Ytdlhleblolcjpaa
