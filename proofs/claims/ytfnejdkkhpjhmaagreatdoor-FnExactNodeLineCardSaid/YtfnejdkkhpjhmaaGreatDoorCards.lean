/-
  DERIVED. GIVEN WITH THE SEED: THE CARDS: each row of YtfnejdkkhpjhmaaGreatDoorRows.lean that lists a variable, with what it lists TIED to the program's text (the seventh form; the later family's looks); each row that meets fmt, with fmt's text TOLD by the authors' own Lean function (tested against real Go, not proved from fmt's source: count such statements apart). THE CARD IS WHAT COUNTS. Prove the row's statement (the work); the ties are given (YtfnejdkkhpjhmaaGreatDoorTie.lean); close each card by the builder's one call (the guide's Derived/Test/ToyasCard.lean, 'card_holds'). Laid BY PROGRAM, IN A SANDBOX (cutbox-door.mjs). By AI agents, Wed Nov 11 2026. No macro, syntax, notation, axiom, sorry.
-/
import Derived.Test.YtfnejdkkhpjhmaaGreatDoorRows
import GoSem.ClaimSeven
namespace Go.Proofs.YtfnejdkkhpjhmaaGreatDoor
namespace Rows

/-- THE TIED CARD OF 'laws.FnExactEmptyNetwork'. -/
def fnExactEmptyNetworkCard : Claim7 := { stood := { row := fnExactEmptyNetworkRow, standIns := [], harness := (true, "e4fa0d59ea1bcd9b342942a5cafbe71b60ff442b0556a1976f00fe29741f58db"), looks := false }, kinds := [], alts := [], laidByText := true, laidKinds := [.data, .data, .data], laidTests := true, laidLooks := .later }
def FnExactEmptyNetworkCardSaid : Prop := Claim7.holds Tryz.pinned (.plain (OpenSpec.ofChange fnExactEmptyNetworkSpec)) fnExactEmptyNetworkCard

/-- THE TIED CARD OF 'laws.FnExactIsNetwork'. -/
def fnExactIsNetworkCard : Claim7 := { stood := { row := fnExactIsNetworkRow, standIns := [], harness := (true, "e4fa0d59ea1bcd9b342942a5cafbe71b60ff442b0556a1976f00fe29741f58db"), looks := false }, kinds := [], alts := [], laidByText := true, laidKinds := [.data, .data, .data], laidTests := true, laidLooks := .later }
def FnExactIsNetworkCardSaid : Prop := Claim7.holds Tryz.pinned (.plain (OpenSpec.ofChange fnExactIsNetworkSpec)) fnExactIsNetworkCard

/-- THE TIED CARD OF 'laws.FnExactSharedNodes'. -/
def fnExactSharedNodesCard : Claim7 := { stood := { row := fnExactSharedNodesRow, standIns := [], harness := (true, "e4fa0d59ea1bcd9b342942a5cafbe71b60ff442b0556a1976f00fe29741f58db"), looks := false }, kinds := [], alts := [], laidByText := true, laidKinds := [.data, .data, .data], laidTests := true, laidLooks := .later }
def FnExactSharedNodesCardSaid : Prop := Claim7.holds Tryz.pinned (.plain (OpenSpec.ofChange fnExactSharedNodesSpec)) fnExactSharedNodesCard

/-- THE TIED CARD OF 'laws.FnExactConflictSet'. -/
def fnExactConflictSetCard : Claim7 := { stood := { row := fnExactConflictSetRow, standIns := [], harness := (true, "e4fa0d59ea1bcd9b342942a5cafbe71b60ff442b0556a1976f00fe29741f58db"), looks := false }, kinds := [], alts := [], laidByText := true, laidKinds := [.data, .data, .data], laidTests := true, laidLooks := .later }
def FnExactConflictSetCardSaid : Prop := Claim7.holds Tryz.pinned (.plain (OpenSpec.ofChange fnExactConflictSetSpec)) fnExactConflictSetCard

/-- THE TIED CARD OF 'laws.FnExactNodeLine'. -/
def fnExactNodeLineCard : Claim7 := { stood := { row := fnExactNodeLineRow, standIns := [], harness := (true, "e4fa0d59ea1bcd9b342942a5cafbe71b60ff442b0556a1976f00fe29741f58db"), looks := false }, kinds := [], alts := [], laidByText := true, laidKinds := [.data, .data, .data], laidTests := true, laidLooks := .later }
def FnExactNodeLineCardSaid : Prop := Claim7.holds Tryz.pinned (.plain (OpenSpec.ofChange fnExactNodeLineSpec)) fnExactNodeLineCard

/-- THE SECOND FORM's CARD OF 'laws.FnExactEmptyNetwork'. -/
def fnExactEmptyNetworkUptoCard : Claim7 := { stood := { row := fnExactEmptyNetworkUptoRow, standIns := [], harness := (true, "e4fa0d59ea1bcd9b342942a5cafbe71b60ff442b0556a1976f00fe29741f58db"), looks := false }, kinds := [], alts := [], laidByText := true, laidKinds := [.data, .data, .data], laidTests := true, laidLooks := .later }
def FnExactEmptyNetworkUptoCardSaid : Prop := Claim7.holds Tryz.pinned (.plain (OpenSpec.upto fnExactEmptyNetworkSpec)) fnExactEmptyNetworkUptoCard

/-- THE SECOND FORM's CARD OF 'laws.FnExactIsNetwork'. -/
def fnExactIsNetworkUptoCard : Claim7 := { stood := { row := fnExactIsNetworkUptoRow, standIns := [], harness := (true, "e4fa0d59ea1bcd9b342942a5cafbe71b60ff442b0556a1976f00fe29741f58db"), looks := false }, kinds := [], alts := [], laidByText := true, laidKinds := [.data, .data, .data], laidTests := true, laidLooks := .later }
def FnExactIsNetworkUptoCardSaid : Prop := Claim7.holds Tryz.pinned (.plain (OpenSpec.upto fnExactIsNetworkSpec)) fnExactIsNetworkUptoCard

/-- THE SECOND FORM's CARD OF 'laws.FnExactSharedNodes'. -/
def fnExactSharedNodesUptoCard : Claim7 := { stood := { row := fnExactSharedNodesUptoRow, standIns := [], harness := (true, "e4fa0d59ea1bcd9b342942a5cafbe71b60ff442b0556a1976f00fe29741f58db"), looks := false }, kinds := [], alts := [], laidByText := true, laidKinds := [.data, .data, .data], laidTests := true, laidLooks := .later }
def FnExactSharedNodesUptoCardSaid : Prop := Claim7.holds Tryz.pinned (.plain (OpenSpec.upto fnExactSharedNodesSpec)) fnExactSharedNodesUptoCard

/-- THE SECOND FORM's CARD OF 'laws.FnExactConflictSet'. -/
def fnExactConflictSetUptoCard : Claim7 := { stood := { row := fnExactConflictSetUptoRow, standIns := [], harness := (true, "e4fa0d59ea1bcd9b342942a5cafbe71b60ff442b0556a1976f00fe29741f58db"), looks := false }, kinds := [], alts := [], laidByText := true, laidKinds := [.data, .data, .data], laidTests := true, laidLooks := .later }
def FnExactConflictSetUptoCardSaid : Prop := Claim7.holds Tryz.pinned (.plain (OpenSpec.upto fnExactConflictSetSpec)) fnExactConflictSetUptoCard

/-- THE SECOND FORM's CARD OF 'laws.FnExactNodeLine'. -/
def fnExactNodeLineUptoCard : Claim7 := { stood := { row := fnExactNodeLineUptoRow, standIns := [], harness := (true, "e4fa0d59ea1bcd9b342942a5cafbe71b60ff442b0556a1976f00fe29741f58db"), looks := false }, kinds := [], alts := [], laidByText := true, laidKinds := [.data, .data, .data], laidTests := true, laidLooks := .later }
def FnExactNodeLineUptoCardSaid : Prop := Claim7.holds Tryz.pinned (.plain (OpenSpec.upto fnExactNodeLineSpec)) fnExactNodeLineUptoCard
end Rows
end Go.Proofs.YtfnejdkkhpjhmaaGreatDoor
