/-
  DERIVED. GIVEN WITH THE SEED: THE CARDS: each row of YtplchhahjmoodaaGreatDoorRows.lean that lists a variable, with what it lists TIED to the program's text (the seventh form; the later family's looks); each row that meets fmt, with fmt's text TOLD by the authors' own Lean function (tested against real Go, not proved from fmt's source: count such statements apart). THE CARD IS WHAT COUNTS. Prove the row's statement (the work); the ties are given (YtplchhahjmoodaaGreatDoorTie.lean); close each card by the builder's one call (the guide's Derived/Test/ToyasCard.lean, 'card_holds'). Laid BY PROGRAM, IN A SANDBOX (cutbox-door.mjs). By AI agents, Wed Nov 11 2026. No macro, syntax, notation, axiom, sorry.
-/
import Derived.Test.YtplchhahjmoodaaGreatDoorRows
import GoSem.ClaimSeven
namespace Go.Proofs.YtplchhahjmoodaaGreatDoor
namespace Rows

/-- THE TIED CARD OF 'laws.FnFormulaText'. -/
def fnFormulaTextCard : Claim7 := { stood := { row := fnFormulaTextRow, standIns := [], harness := (true, "0488fce66b1d38cf8c6dd10eec67a9b4d5cce3b7acd9a10cc597bcbd5f70e857"), looks := true }, kinds := [], alts := [], laidByText := true, laidKinds := [.data], laidTests := true, laidLooks := .later }
def FnFormulaTextCardSaid : Prop := Claim7.holds Tryz.pinned (.plain (OpenSpec.ofChange fnFormulaTextSpec)) fnFormulaTextCard

/-- THE TIED CARD OF 'laws.FnStructures'. -/
def fnStructuresCard : Claim7 := { stood := { row := fnStructuresRow, standIns := [], harness := (true, "0488fce66b1d38cf8c6dd10eec67a9b4d5cce3b7acd9a10cc597bcbd5f70e857"), looks := true }, kinds := [], alts := [], laidByText := true, laidKinds := [.data, .data, .data], laidTests := true, laidLooks := .later }
def FnStructuresCardSaid : Prop := Claim7.holds Tryz.pinned (.plain (OpenSpec.ofChange fnStructuresSpec)) fnStructuresCard

/-- THE SECOND FORM's CARD OF 'laws.FnFormulaText'. -/
def fnFormulaTextUptoCard : Claim7 := { stood := { row := fnFormulaTextUptoRow, standIns := [], harness := (true, "0488fce66b1d38cf8c6dd10eec67a9b4d5cce3b7acd9a10cc597bcbd5f70e857"), looks := true }, kinds := [], alts := [], laidByText := true, laidKinds := [.data], laidTests := true, laidLooks := .later }
def FnFormulaTextUptoCardSaid : Prop := Claim7.holds Tryz.pinned (.plain (OpenSpec.upto fnFormulaTextSpec)) fnFormulaTextUptoCard

/-- THE SECOND FORM's CARD OF 'laws.FnStructures'. -/
def fnStructuresUptoCard : Claim7 := { stood := { row := fnStructuresUptoRow, standIns := [], harness := (true, "0488fce66b1d38cf8c6dd10eec67a9b4d5cce3b7acd9a10cc597bcbd5f70e857"), looks := true }, kinds := [], alts := [], laidByText := true, laidKinds := [.data, .data, .data], laidTests := true, laidLooks := .later }
def FnStructuresUptoCardSaid : Prop := Claim7.holds Tryz.pinned (.plain (OpenSpec.upto fnStructuresSpec)) fnStructuresUptoCard
end Rows
end Go.Proofs.YtplchhahjmoodaaGreatDoor
