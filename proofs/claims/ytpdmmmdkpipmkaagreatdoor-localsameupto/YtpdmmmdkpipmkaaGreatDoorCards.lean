/-
  DERIVED. GIVEN WITH THE SEED: THE CARDS: each row of YtpdmmmdkpipmkaaGreatDoorRows.lean that lists a variable, with what it lists TIED to the program's text (the seventh form; the later family's looks); each row that meets fmt, with fmt's text TOLD by the authors' own Lean function (tested against real Go, not proved from fmt's source: count such statements apart). THE CARD IS WHAT COUNTS. Prove the row's statement (the work); the ties are given (YtpdmmmdkpipmkaaGreatDoorTie.lean); close each card by the builder's one call (the guide's Derived/Test/ToyasCard.lean, 'card_holds'). Laid BY PROGRAM, IN A SANDBOX (cutbox-door.mjs). By AI agents, Wed Nov 11 2026. No macro, syntax, notation, axiom, sorry.
-/
import Derived.Test.YtpdmmmdkpipmkaaGreatDoorRows
import GoSem.ClaimSeven
namespace Go.Proofs.YtpdmmmdkpipmkaaGreatDoor
namespace Rows

/-- THE TIED CARD OF 'avowallaw13.LocalRewrites'. -/
def localRewritesCard : Claim7 := { stood := { row := localRewritesRow, standIns := [], harness := (true, "d2287189a86302c2287a920a909c1899669ec7b7d9f12daae0d2698d62af810c"), looks := true }, kinds := [], alts := [], laidByText := true, laidKinds := [.data, .data, .data, .sentinel, .sentinel], laidTests := true, laidLooks := .later }
def LocalRewritesCardSaid : Prop := Claim7.holds Tryz.pinned (.plain (OpenSpec.ofChange localRewritesSpec)) localRewritesCard

/-- THE TIED CARD OF 'avowallaw13.LocalSeen'. -/
def localSeenCard : Claim7 := { stood := { row := localSeenRow, standIns := [], harness := (true, "d2287189a86302c2287a920a909c1899669ec7b7d9f12daae0d2698d62af810c"), looks := true }, kinds := [], alts := [], laidByText := true, laidKinds := [.data, .data, .data, .sentinel, .sentinel], laidTests := true, laidLooks := .later }
def LocalSeenCardSaid : Prop := Claim7.holds Tryz.pinned (.plain (OpenSpec.ofChange localSeenSpec)) localSeenCard

/-- THE TIED CARD OF 'avowallaw13.LocalSingle'. -/
def localSingleCard : Claim7 := { stood := { row := localSingleRow, standIns := [], harness := (true, "d2287189a86302c2287a920a909c1899669ec7b7d9f12daae0d2698d62af810c"), looks := true }, kinds := [], alts := [], laidByText := true, laidKinds := [.data, .data, .data, .sentinel, .sentinel], laidTests := true, laidLooks := .later }
def LocalSingleCardSaid : Prop := Claim7.holds Tryz.pinned (.plain (OpenSpec.ofChange localSingleSpec)) localSingleCard

/-- THE TIED CARD OF 'avowallaw13.LocalFresh'. -/
def localFreshCard : Claim7 := { stood := { row := localFreshRow, standIns := [], harness := (true, "d2287189a86302c2287a920a909c1899669ec7b7d9f12daae0d2698d62af810c"), looks := true }, kinds := [], alts := [], laidByText := true, laidKinds := [.data, .data, .data, .sentinel, .sentinel], laidTests := true, laidLooks := .later }
def LocalFreshCardSaid : Prop := Claim7.holds Tryz.pinned (.plain (OpenSpec.ofChange localFreshSpec)) localFreshCard

/-- THE TIED CARD OF 'avowallaw13.LocalPlain'. -/
def localPlainCard : Claim7 := { stood := { row := localPlainRow, standIns := [], harness := (true, "d2287189a86302c2287a920a909c1899669ec7b7d9f12daae0d2698d62af810c"), looks := true }, kinds := [], alts := [], laidByText := true, laidKinds := [.data, .data, .data, .sentinel, .sentinel], laidTests := true, laidLooks := .later }
def LocalPlainCardSaid : Prop := Claim7.holds Tryz.pinned (.plain (OpenSpec.ofChange localPlainSpec)) localPlainCard

/-- THE TIED CARD OF 'avowallaw13.LocalSame'. -/
def localSameCard : Claim7 := { stood := { row := localSameRow, standIns := [], harness := (true, "d2287189a86302c2287a920a909c1899669ec7b7d9f12daae0d2698d62af810c"), looks := true }, kinds := [], alts := [], laidByText := true, laidKinds := [.data, .data, .data, .sentinel, .sentinel], laidTests := true, laidLooks := .later }
def LocalSameCardSaid : Prop := Claim7.holds Tryz.pinned (.plain (OpenSpec.ofChange localSameSpec)) localSameCard

/-- THE SECOND FORM's CARD OF 'avowallaw13.LocalRewrites'. -/
def localRewritesUptoCard : Claim7 := { stood := { row := localRewritesUptoRow, standIns := [], harness := (true, "d2287189a86302c2287a920a909c1899669ec7b7d9f12daae0d2698d62af810c"), looks := true }, kinds := [], alts := [], laidByText := true, laidKinds := [.data, .data, .data, .sentinel, .sentinel], laidTests := true, laidLooks := .later }
def LocalRewritesUptoCardSaid : Prop := Claim7.holds Tryz.pinned (.plain (OpenSpec.upto localRewritesSpec)) localRewritesUptoCard

/-- THE SECOND FORM's CARD OF 'avowallaw13.LocalSeen'. -/
def localSeenUptoCard : Claim7 := { stood := { row := localSeenUptoRow, standIns := [], harness := (true, "d2287189a86302c2287a920a909c1899669ec7b7d9f12daae0d2698d62af810c"), looks := true }, kinds := [], alts := [], laidByText := true, laidKinds := [.data, .data, .data, .sentinel, .sentinel], laidTests := true, laidLooks := .later }
def LocalSeenUptoCardSaid : Prop := Claim7.holds Tryz.pinned (.plain (OpenSpec.upto localSeenSpec)) localSeenUptoCard

/-- THE SECOND FORM's CARD OF 'avowallaw13.LocalSingle'. -/
def localSingleUptoCard : Claim7 := { stood := { row := localSingleUptoRow, standIns := [], harness := (true, "d2287189a86302c2287a920a909c1899669ec7b7d9f12daae0d2698d62af810c"), looks := true }, kinds := [], alts := [], laidByText := true, laidKinds := [.data, .data, .data, .sentinel, .sentinel], laidTests := true, laidLooks := .later }
def LocalSingleUptoCardSaid : Prop := Claim7.holds Tryz.pinned (.plain (OpenSpec.upto localSingleSpec)) localSingleUptoCard

/-- THE SECOND FORM's CARD OF 'avowallaw13.LocalFresh'. -/
def localFreshUptoCard : Claim7 := { stood := { row := localFreshUptoRow, standIns := [], harness := (true, "d2287189a86302c2287a920a909c1899669ec7b7d9f12daae0d2698d62af810c"), looks := true }, kinds := [], alts := [], laidByText := true, laidKinds := [.data, .data, .data, .sentinel, .sentinel], laidTests := true, laidLooks := .later }
def LocalFreshUptoCardSaid : Prop := Claim7.holds Tryz.pinned (.plain (OpenSpec.upto localFreshSpec)) localFreshUptoCard

/-- THE SECOND FORM's CARD OF 'avowallaw13.LocalPlain'. -/
def localPlainUptoCard : Claim7 := { stood := { row := localPlainUptoRow, standIns := [], harness := (true, "d2287189a86302c2287a920a909c1899669ec7b7d9f12daae0d2698d62af810c"), looks := true }, kinds := [], alts := [], laidByText := true, laidKinds := [.data, .data, .data, .sentinel, .sentinel], laidTests := true, laidLooks := .later }
def LocalPlainUptoCardSaid : Prop := Claim7.holds Tryz.pinned (.plain (OpenSpec.upto localPlainSpec)) localPlainUptoCard

/-- THE SECOND FORM's CARD OF 'avowallaw13.LocalSame'. -/
def localSameUptoCard : Claim7 := { stood := { row := localSameUptoRow, standIns := [], harness := (true, "d2287189a86302c2287a920a909c1899669ec7b7d9f12daae0d2698d62af810c"), looks := true }, kinds := [], alts := [], laidByText := true, laidKinds := [.data, .data, .data, .sentinel, .sentinel], laidTests := true, laidLooks := .later }
def LocalSameUptoCardSaid : Prop := Claim7.holds Tryz.pinned (.plain (OpenSpec.upto localSameSpec)) localSameUptoCard
end Rows
end Go.Proofs.YtpdmmmdkpipmkaaGreatDoor
