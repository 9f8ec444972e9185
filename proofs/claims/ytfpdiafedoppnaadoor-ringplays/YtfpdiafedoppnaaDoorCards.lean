/-
  DERIVED. GIVEN WITH THE SEED: THE CARDS: each row of YtfpdiafedoppnaaDoorRows.lean that lists a variable, with what it lists TIED to the program's text (the seventh form; the later family's looks); each row that meets fmt, with fmt's text TOLD by the authors' own Lean function (tested against real Go, not proved from fmt's source: count such statements apart). THE CARD IS WHAT COUNTS. Prove the row's statement (the work); the ties are given (YtfpdiafedoppnaaDoorTie.lean); close each card by the builder's one call (the guide's Derived/Test/ToyasCard.lean, 'card_holds'). Laid BY PROGRAM, IN A SANDBOX (cutbox-door.mjs). By AI agents, Wed Nov 11 2026. No macro, syntax, notation, axiom, sorry.
-/
import Derived.Test.YtfpdiafedoppnaaDoorRows
import GoSem.ClaimSeven
namespace Go.Proofs.YtfpdiafedoppnaaDoor
namespace Rows

/-- THE TIED CARD OF 'avowallaw06.RingMakes'. -/
def ringMakesCard : Claim7 := { stood := { row := ringMakesRow, standIns := [], harness := (true, "c46495a96da814e5dd7b147b9ff9ec504d16b038c995adb508178997d127bef5"), looks := false }, kinds := [], alts := [], laidByText := true, laidKinds := [.data, .data], laidTests := true, laidLooks := .later }
def RingMakesCardSaid : Prop := Claim7.holds Tryd.pinned (.plain (OpenSpec.ofChange ringMakesSpec)) ringMakesCard

/-- THE TIED CARD OF 'avowallaw06.RingPlays'. -/
def ringPlaysCard : Claim7 := { stood := { row := ringPlaysRow, standIns := [], harness := (true, "c46495a96da814e5dd7b147b9ff9ec504d16b038c995adb508178997d127bef5"), looks := false }, kinds := [], alts := [], laidByText := true, laidKinds := [.data, .data], laidTests := true, laidLooks := .later }
def RingPlaysCardSaid : Prop := Claim7.holds Tryd.pinned (.plain (OpenSpec.ofChange ringPlaysSpec)) ringPlaysCard

/-- THE TIED CARD OF 'avowallaw06.RingSigns'. -/
def ringSignsCard : Claim7 := { stood := { row := ringSignsRow, standIns := [], harness := (true, "c46495a96da814e5dd7b147b9ff9ec504d16b038c995adb508178997d127bef5"), looks := false }, kinds := [], alts := [], laidByText := true, laidKinds := [.data, .data], laidTests := true, laidLooks := .later }
def RingSignsCardSaid : Prop := Claim7.holds Tryd.pinned (.plain (OpenSpec.ofChange ringSignsSpec)) ringSignsCard

/-- THE TIED CARD OF 'avowallaw06.RingLent'. -/
def ringLentCard : Claim7 := { stood := { row := ringLentRow, standIns := [], harness := (true, "c46495a96da814e5dd7b147b9ff9ec504d16b038c995adb508178997d127bef5"), looks := false }, kinds := [], alts := [], laidByText := true, laidKinds := [.data, .data], laidTests := true, laidLooks := .later }
def RingLentCardSaid : Prop := Claim7.holds Tryd.pinned (.plain (OpenSpec.ofChange ringLentSpec)) ringLentCard

/-- THE TIED CARD OF 'avowallaw06.RingFull'. -/
def ringFullCard : Claim7 := { stood := { row := ringFullRow, standIns := [], harness := (true, "c46495a96da814e5dd7b147b9ff9ec504d16b038c995adb508178997d127bef5"), looks := false }, kinds := [], alts := [], laidByText := true, laidKinds := [.data, .data], laidTests := true, laidLooks := .later }
def RingFullCardSaid : Prop := Claim7.holds Tryd.pinned (.plain (OpenSpec.ofChange ringFullSpec)) ringFullCard

/-- THE TIED CARD OF 'avowallaw06.RingNone'. -/
def ringNoneCard : Claim7 := { stood := { row := ringNoneRow, standIns := [], harness := (true, "c46495a96da814e5dd7b147b9ff9ec504d16b038c995adb508178997d127bef5"), looks := false }, kinds := [], alts := [], laidByText := true, laidKinds := [.data, .data], laidTests := true, laidLooks := .later }
def RingNoneCardSaid : Prop := Claim7.holds Tryd.pinned (.plain (OpenSpec.ofChange ringNoneSpec)) ringNoneCard

/-- THE SECOND FORM's CARD OF 'avowallaw06.RingMakes'. -/
def ringMakesUptoCard : Claim7 := { stood := { row := ringMakesUptoRow, standIns := [], harness := (true, "c46495a96da814e5dd7b147b9ff9ec504d16b038c995adb508178997d127bef5"), looks := false }, kinds := [], alts := [], laidByText := true, laidKinds := [.data, .data], laidTests := true, laidLooks := .later }
def RingMakesUptoCardSaid : Prop := Claim7.holds Tryd.pinned (.plain (OpenSpec.upto ringMakesSpec)) ringMakesUptoCard

/-- THE SECOND FORM's CARD OF 'avowallaw06.RingPlays'. -/
def ringPlaysUptoCard : Claim7 := { stood := { row := ringPlaysUptoRow, standIns := [], harness := (true, "c46495a96da814e5dd7b147b9ff9ec504d16b038c995adb508178997d127bef5"), looks := false }, kinds := [], alts := [], laidByText := true, laidKinds := [.data, .data], laidTests := true, laidLooks := .later }
def RingPlaysUptoCardSaid : Prop := Claim7.holds Tryd.pinned (.plain (OpenSpec.upto ringPlaysSpec)) ringPlaysUptoCard

/-- THE SECOND FORM's CARD OF 'avowallaw06.RingSigns'. -/
def ringSignsUptoCard : Claim7 := { stood := { row := ringSignsUptoRow, standIns := [], harness := (true, "c46495a96da814e5dd7b147b9ff9ec504d16b038c995adb508178997d127bef5"), looks := false }, kinds := [], alts := [], laidByText := true, laidKinds := [.data, .data], laidTests := true, laidLooks := .later }
def RingSignsUptoCardSaid : Prop := Claim7.holds Tryd.pinned (.plain (OpenSpec.upto ringSignsSpec)) ringSignsUptoCard

/-- THE SECOND FORM's CARD OF 'avowallaw06.RingLent'. -/
def ringLentUptoCard : Claim7 := { stood := { row := ringLentUptoRow, standIns := [], harness := (true, "c46495a96da814e5dd7b147b9ff9ec504d16b038c995adb508178997d127bef5"), looks := false }, kinds := [], alts := [], laidByText := true, laidKinds := [.data, .data], laidTests := true, laidLooks := .later }
def RingLentUptoCardSaid : Prop := Claim7.holds Tryd.pinned (.plain (OpenSpec.upto ringLentSpec)) ringLentUptoCard

/-- THE SECOND FORM's CARD OF 'avowallaw06.RingFull'. -/
def ringFullUptoCard : Claim7 := { stood := { row := ringFullUptoRow, standIns := [], harness := (true, "c46495a96da814e5dd7b147b9ff9ec504d16b038c995adb508178997d127bef5"), looks := false }, kinds := [], alts := [], laidByText := true, laidKinds := [.data, .data], laidTests := true, laidLooks := .later }
def RingFullUptoCardSaid : Prop := Claim7.holds Tryd.pinned (.plain (OpenSpec.upto ringFullSpec)) ringFullUptoCard

/-- THE SECOND FORM's CARD OF 'avowallaw06.RingNone'. -/
def ringNoneUptoCard : Claim7 := { stood := { row := ringNoneUptoRow, standIns := [], harness := (true, "c46495a96da814e5dd7b147b9ff9ec504d16b038c995adb508178997d127bef5"), looks := false }, kinds := [], alts := [], laidByText := true, laidKinds := [.data, .data], laidTests := true, laidLooks := .later }
def RingNoneUptoCardSaid : Prop := Claim7.holds Tryd.pinned (.plain (OpenSpec.upto ringNoneSpec)) ringNoneUptoCard
end Rows
end Go.Proofs.YtfpdiafedoppnaaDoor
