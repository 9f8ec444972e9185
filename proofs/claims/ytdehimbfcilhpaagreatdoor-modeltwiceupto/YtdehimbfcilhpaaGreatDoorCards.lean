/-
  DERIVED. GIVEN WITH THE SEED: THE CARDS: each row of YtdehimbfcilhpaaGreatDoorRows.lean that lists a variable, with what it lists TIED to the program's text (the seventh form; the later family's looks); each row that meets fmt, with fmt's text TOLD by the authors' own Lean function (tested against real Go, not proved from fmt's source: count such statements apart). THE CARD IS WHAT COUNTS. Prove the row's statement (the work); the ties are given (YtdehimbfcilhpaaGreatDoorTie.lean); close each card by the builder's one call (the guide's Derived/Test/ToyasCard.lean, 'card_holds'). Laid BY PROGRAM, IN A SANDBOX (cutbox-door.mjs). By AI agents, Wed Nov 11 2026. No macro, syntax, notation, axiom, sorry.
-/
import Derived.Test.YtdehimbfcilhpaaGreatDoorRows
import GoSem.ClaimSeven
namespace Go.Proofs.YtdehimbfcilhpaaGreatDoor
namespace Rows

/-- THE TIED CARD OF 'avowallaw12.ModelOnce'. -/
def modelOnceCard : Claim7 := { stood := { row := modelOnceRow, standIns := [], harness := (true, "2e72a28b90c282083605e1ee568bfce85b5046e855ca32cc17bcea689481096c"), looks := true }, kinds := [], alts := [], laidByText := true, laidKinds := [.data, .data, .data, .sentinel, .sentinel], laidTests := true, laidLooks := .later }
def ModelOnceCardSaid : Prop := Claim7.holds Tryz.pinned (.plain (OpenSpec.ofChange modelOnceSpec)) modelOnceCard

/-- THE TIED CARD OF 'avowallaw12.ModelLeast'. -/
def modelLeastCard : Claim7 := { stood := { row := modelLeastRow, standIns := [], harness := (true, "2e72a28b90c282083605e1ee568bfce85b5046e855ca32cc17bcea689481096c"), looks := true }, kinds := [], alts := [], laidByText := true, laidKinds := [.data, .data, .data, .sentinel, .sentinel], laidTests := true, laidLooks := .later }
def ModelLeastCardSaid : Prop := Claim7.holds Tryz.pinned (.plain (OpenSpec.ofChange modelLeastSpec)) modelLeastCard

/-- THE TIED CARD OF 'avowallaw12.ModelFixed'. -/
def modelFixedCard : Claim7 := { stood := { row := modelFixedRow, standIns := [], harness := (true, "2e72a28b90c282083605e1ee568bfce85b5046e855ca32cc17bcea689481096c"), looks := true }, kinds := [], alts := [], laidByText := true, laidKinds := [.data, .data, .data, .sentinel, .sentinel], laidTests := true, laidLooks := .later }
def ModelFixedCardSaid : Prop := Claim7.holds Tryz.pinned (.plain (OpenSpec.ofChange modelFixedSpec)) modelFixedCard

/-- THE TIED CARD OF 'avowallaw12.ModelGrows'. -/
def modelGrowsCard : Claim7 := { stood := { row := modelGrowsRow, standIns := [], harness := (true, "2e72a28b90c282083605e1ee568bfce85b5046e855ca32cc17bcea689481096c"), looks := true }, kinds := [], alts := [], laidByText := true, laidKinds := [.data, .data, .data, .sentinel, .sentinel], laidTests := true, laidLooks := .later }
def ModelGrowsCardSaid : Prop := Claim7.holds Tryz.pinned (.plain (OpenSpec.ofChange modelGrowsSpec)) modelGrowsCard

/-- THE TIED CARD OF 'avowallaw12.ModelTwice'. -/
def modelTwiceCard : Claim7 := { stood := { row := modelTwiceRow, standIns := [], harness := (true, "2e72a28b90c282083605e1ee568bfce85b5046e855ca32cc17bcea689481096c"), looks := true }, kinds := [], alts := [], laidByText := true, laidKinds := [.data, .data, .data, .sentinel, .sentinel], laidTests := true, laidLooks := .later }
def ModelTwiceCardSaid : Prop := Claim7.holds Tryz.pinned (.plain (OpenSpec.ofChange modelTwiceSpec)) modelTwiceCard

/-- THE TIED CARD OF 'avowallaw12.ModelNames'. -/
def modelNamesCard : Claim7 := { stood := { row := modelNamesRow, standIns := [], harness := (true, "2e72a28b90c282083605e1ee568bfce85b5046e855ca32cc17bcea689481096c"), looks := true }, kinds := [], alts := [], laidByText := true, laidKinds := [.data, .data, .data, .sentinel, .sentinel], laidTests := true, laidLooks := .later }
def ModelNamesCardSaid : Prop := Claim7.holds Tryz.pinned (.plain (OpenSpec.ofChange modelNamesSpec)) modelNamesCard

/-- THE SECOND FORM's CARD OF 'avowallaw12.ModelOnce'. -/
def modelOnceUptoCard : Claim7 := { stood := { row := modelOnceUptoRow, standIns := [], harness := (true, "2e72a28b90c282083605e1ee568bfce85b5046e855ca32cc17bcea689481096c"), looks := true }, kinds := [], alts := [], laidByText := true, laidKinds := [.data, .data, .data, .sentinel, .sentinel], laidTests := true, laidLooks := .later }
def ModelOnceUptoCardSaid : Prop := Claim7.holds Tryz.pinned (.plain (OpenSpec.upto modelOnceSpec)) modelOnceUptoCard

/-- THE SECOND FORM's CARD OF 'avowallaw12.ModelLeast'. -/
def modelLeastUptoCard : Claim7 := { stood := { row := modelLeastUptoRow, standIns := [], harness := (true, "2e72a28b90c282083605e1ee568bfce85b5046e855ca32cc17bcea689481096c"), looks := true }, kinds := [], alts := [], laidByText := true, laidKinds := [.data, .data, .data, .sentinel, .sentinel], laidTests := true, laidLooks := .later }
def ModelLeastUptoCardSaid : Prop := Claim7.holds Tryz.pinned (.plain (OpenSpec.upto modelLeastSpec)) modelLeastUptoCard

/-- THE SECOND FORM's CARD OF 'avowallaw12.ModelFixed'. -/
def modelFixedUptoCard : Claim7 := { stood := { row := modelFixedUptoRow, standIns := [], harness := (true, "2e72a28b90c282083605e1ee568bfce85b5046e855ca32cc17bcea689481096c"), looks := true }, kinds := [], alts := [], laidByText := true, laidKinds := [.data, .data, .data, .sentinel, .sentinel], laidTests := true, laidLooks := .later }
def ModelFixedUptoCardSaid : Prop := Claim7.holds Tryz.pinned (.plain (OpenSpec.upto modelFixedSpec)) modelFixedUptoCard

/-- THE SECOND FORM's CARD OF 'avowallaw12.ModelGrows'. -/
def modelGrowsUptoCard : Claim7 := { stood := { row := modelGrowsUptoRow, standIns := [], harness := (true, "2e72a28b90c282083605e1ee568bfce85b5046e855ca32cc17bcea689481096c"), looks := true }, kinds := [], alts := [], laidByText := true, laidKinds := [.data, .data, .data, .sentinel, .sentinel], laidTests := true, laidLooks := .later }
def ModelGrowsUptoCardSaid : Prop := Claim7.holds Tryz.pinned (.plain (OpenSpec.upto modelGrowsSpec)) modelGrowsUptoCard

/-- THE SECOND FORM's CARD OF 'avowallaw12.ModelTwice'. -/
def modelTwiceUptoCard : Claim7 := { stood := { row := modelTwiceUptoRow, standIns := [], harness := (true, "2e72a28b90c282083605e1ee568bfce85b5046e855ca32cc17bcea689481096c"), looks := true }, kinds := [], alts := [], laidByText := true, laidKinds := [.data, .data, .data, .sentinel, .sentinel], laidTests := true, laidLooks := .later }
def ModelTwiceUptoCardSaid : Prop := Claim7.holds Tryz.pinned (.plain (OpenSpec.upto modelTwiceSpec)) modelTwiceUptoCard

/-- THE SECOND FORM's CARD OF 'avowallaw12.ModelNames'. -/
def modelNamesUptoCard : Claim7 := { stood := { row := modelNamesUptoRow, standIns := [], harness := (true, "2e72a28b90c282083605e1ee568bfce85b5046e855ca32cc17bcea689481096c"), looks := true }, kinds := [], alts := [], laidByText := true, laidKinds := [.data, .data, .data, .sentinel, .sentinel], laidTests := true, laidLooks := .later }
def ModelNamesUptoCardSaid : Prop := Claim7.holds Tryz.pinned (.plain (OpenSpec.upto modelNamesSpec)) modelNamesUptoCard
end Rows
end Go.Proofs.YtdehimbfcilhpaaGreatDoor
