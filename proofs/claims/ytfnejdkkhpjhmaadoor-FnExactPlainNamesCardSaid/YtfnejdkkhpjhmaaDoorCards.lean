/-
  DERIVED. GIVEN WITH THE SEED: THE CARDS: each row of YtfnejdkkhpjhmaaDoorRows.lean that lists a variable, with what it lists TIED to the program's text (the seventh form; the later family's looks); each row that meets fmt, with fmt's text TOLD by the authors' own Lean function (tested against real Go, not proved from fmt's source: count such statements apart). THE CARD IS WHAT COUNTS. Prove the row's statement (the work); the ties are given (YtfnejdkkhpjhmaaDoorTie.lean); close each card by the builder's one call (the guide's Derived/Test/ToyasCard.lean, 'card_holds'). Laid BY PROGRAM, IN A SANDBOX (cutbox-door.mjs). By AI agents, Wed Nov 11 2026. No macro, syntax, notation, axiom, sorry.
-/
import Derived.Test.YtfnejdkkhpjhmaaDoorRows
import GoSem.ClaimSeven
namespace Go.Proofs.YtfnejdkkhpjhmaaDoor
namespace Rows

/-- THE TIED CARD OF 'laws.FnExactShapeOf'. -/
def fnExactShapeOfCard : Claim7 := { stood := { row := fnExactShapeOfRow, standIns := [], harness := (true, "c732f806dafc729c70afb3712f4092bcc1eaef4e8a500a66335e3bdefb1da042"), looks := false }, kinds := [], alts := [], laidByText := true, laidKinds := [.data, .data, .data], laidTests := true, laidLooks := .later }
def FnExactShapeOfCardSaid : Prop := Claim7.holds Tryd.pinned (.plain (OpenSpec.ofChange fnExactShapeOfSpec)) fnExactShapeOfCard

/-- THE TIED CARD OF 'laws.FnExactPlainNames'. -/
def fnExactPlainNamesCard : Claim7 := { stood := { row := fnExactPlainNamesRow, standIns := [], harness := (true, "c732f806dafc729c70afb3712f4092bcc1eaef4e8a500a66335e3bdefb1da042"), looks := false }, kinds := [], alts := [], laidByText := true, laidKinds := [.data, .data, .data], laidTests := true, laidLooks := .later }
def FnExactPlainNamesCardSaid : Prop := Claim7.holds Tryd.pinned (.plain (OpenSpec.ofChange fnExactPlainNamesSpec)) fnExactPlainNamesCard

/-- THE TIED CARD OF 'laws.FnExactPlainConds'. -/
def fnExactPlainCondsCard : Claim7 := { stood := { row := fnExactPlainCondsRow, standIns := [], harness := (true, "c732f806dafc729c70afb3712f4092bcc1eaef4e8a500a66335e3bdefb1da042"), looks := false }, kinds := [], alts := [], laidByText := true, laidKinds := [.data, .data, .data], laidTests := true, laidLooks := .later }
def FnExactPlainCondsCardSaid : Prop := Claim7.holds Tryd.pinned (.plain (OpenSpec.ofChange fnExactPlainCondsSpec)) fnExactPlainCondsCard

/-- THE SECOND FORM's CARD OF 'laws.FnExactShapeOf'. -/
def fnExactShapeOfUptoCard : Claim7 := { stood := { row := fnExactShapeOfUptoRow, standIns := [], harness := (true, "c732f806dafc729c70afb3712f4092bcc1eaef4e8a500a66335e3bdefb1da042"), looks := false }, kinds := [], alts := [], laidByText := true, laidKinds := [.data, .data, .data], laidTests := true, laidLooks := .later }
def FnExactShapeOfUptoCardSaid : Prop := Claim7.holds Tryd.pinned (.plain (OpenSpec.upto fnExactShapeOfSpec)) fnExactShapeOfUptoCard

/-- THE SECOND FORM's CARD OF 'laws.FnExactPlainNames'. -/
def fnExactPlainNamesUptoCard : Claim7 := { stood := { row := fnExactPlainNamesUptoRow, standIns := [], harness := (true, "c732f806dafc729c70afb3712f4092bcc1eaef4e8a500a66335e3bdefb1da042"), looks := false }, kinds := [], alts := [], laidByText := true, laidKinds := [.data, .data, .data], laidTests := true, laidLooks := .later }
def FnExactPlainNamesUptoCardSaid : Prop := Claim7.holds Tryd.pinned (.plain (OpenSpec.upto fnExactPlainNamesSpec)) fnExactPlainNamesUptoCard

/-- THE SECOND FORM's CARD OF 'laws.FnExactPlainConds'. -/
def fnExactPlainCondsUptoCard : Claim7 := { stood := { row := fnExactPlainCondsUptoRow, standIns := [], harness := (true, "c732f806dafc729c70afb3712f4092bcc1eaef4e8a500a66335e3bdefb1da042"), looks := false }, kinds := [], alts := [], laidByText := true, laidKinds := [.data, .data, .data], laidTests := true, laidLooks := .later }
def FnExactPlainCondsUptoCardSaid : Prop := Claim7.holds Tryd.pinned (.plain (OpenSpec.upto fnExactPlainCondsSpec)) fnExactPlainCondsUptoCard
end Rows
end Go.Proofs.YtfnejdkkhpjhmaaDoor
