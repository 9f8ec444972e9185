/-
  DERIVED. GIVEN WITH THE SEED: THE CARDS: each row of YtcncmpgababfjaaDoorRows.lean that lists a variable, with what it lists TIED to the program's text (the seventh form; the later family's looks); each row that meets fmt, with fmt's text TOLD by the authors' own Lean function (tested against real Go, not proved from fmt's source: count such statements apart). THE CARD IS WHAT COUNTS. Prove the row's statement (the work); the ties are given (YtcncmpgababfjaaDoorTie.lean); close each card by the builder's one call (the guide's Derived/Test/ToyasCard.lean, 'card_holds'). Laid BY PROGRAM, IN A SANDBOX (cutbox-door.mjs). By AI agents, Wed Nov 11 2026. No macro, syntax, notation, axiom, sorry.
-/
import Derived.Test.YtcncmpgababfjaaDoorRows
import GoSem.ClaimSeven
namespace Go.Proofs.YtcncmpgababfjaaDoor
namespace Rows

/-- THE TIED CARD OF 'avowallaw14.PlanOrders'. -/
def planOrdersCard : Claim7 := { stood := { row := planOrdersRow, standIns := [], harness := (true, "cd7049e316e992b53e13f4f6ec63ef4f2a8bad1d05b18b8af26bbf7366741ece"), looks := true }, kinds := [], alts := [], laidByText := true, laidKinds := [.data, .data, .data, .sentinel, .sentinel], laidTests := true, laidLooks := .later }
def PlanOrdersCardSaid : Prop := Claim7.holds Tryd.pinned (.plain (OpenSpec.ofChange planOrdersSpec)) planOrdersCard

/-- THE TIED CARD OF 'avowallaw14.PlanPerms'. -/
def planPermsCard : Claim7 := { stood := { row := planPermsRow, standIns := [], harness := (true, "cd7049e316e992b53e13f4f6ec63ef4f2a8bad1d05b18b8af26bbf7366741ece"), looks := true }, kinds := [], alts := [], laidByText := true, laidKinds := [.data, .data, .data, .sentinel, .sentinel], laidTests := true, laidLooks := .later }
def PlanPermsCardSaid : Prop := Claim7.holds Tryd.pinned (.plain (OpenSpec.ofChange planPermsSpec)) planPermsCard

/-- THE SECOND FORM's CARD OF 'avowallaw14.PlanOrders'. -/
def planOrdersUptoCard : Claim7 := { stood := { row := planOrdersUptoRow, standIns := [], harness := (true, "cd7049e316e992b53e13f4f6ec63ef4f2a8bad1d05b18b8af26bbf7366741ece"), looks := true }, kinds := [], alts := [], laidByText := true, laidKinds := [.data, .data, .data, .sentinel, .sentinel], laidTests := true, laidLooks := .later }
def PlanOrdersUptoCardSaid : Prop := Claim7.holds Tryd.pinned (.plain (OpenSpec.upto planOrdersSpec)) planOrdersUptoCard

/-- THE SECOND FORM's CARD OF 'avowallaw14.PlanPerms'. -/
def planPermsUptoCard : Claim7 := { stood := { row := planPermsUptoRow, standIns := [], harness := (true, "cd7049e316e992b53e13f4f6ec63ef4f2a8bad1d05b18b8af26bbf7366741ece"), looks := true }, kinds := [], alts := [], laidByText := true, laidKinds := [.data, .data, .data, .sentinel, .sentinel], laidTests := true, laidLooks := .later }
def PlanPermsUptoCardSaid : Prop := Claim7.holds Tryd.pinned (.plain (OpenSpec.upto planPermsSpec)) planPermsUptoCard
end Rows
end Go.Proofs.YtcncmpgababfjaaDoor
