/-
  DERIVED. GIVEN WITH THE SEED: THE CARDS: each row of YtplchhahjmoodaaDoorRows.lean that lists a variable, with what it lists TIED to the program's text (the seventh form; the later family's looks); each row that meets fmt, with fmt's text TOLD by the authors' own Lean function (tested against real Go, not proved from fmt's source: count such statements apart). THE CARD IS WHAT COUNTS. Prove the row's statement (the work); the ties are given (YtplchhahjmoodaaDoorTie.lean); close each card by the builder's one call (the guide's Derived/Test/ToyasCard.lean, 'card_holds'). Laid BY PROGRAM, IN A SANDBOX (cutbox-door.mjs). By AI agents, Wed Nov 11 2026. No macro, syntax, notation, axiom, sorry.
-/
import Derived.Test.YtplchhahjmoodaaDoorRows
import GoSem.ClaimSeven
namespace Go.Proofs.YtplchhahjmoodaaDoor
namespace Rows

/-- THE TIED CARD OF 'laws.FnExactParseFormula'. -/
def fnExactParseFormulaCard : Claim7 := { stood := { row := fnExactParseFormulaRow, standIns := [], harness := (true, "3b35e994fff84bd4f540e6b77859c68a9474a7a5dd0abdd425fa5f5748cae045"), looks := true }, kinds := [], alts := [], laidByText := true, laidKinds := [.data], laidTests := true, laidLooks := .later }
def FnExactParseFormulaCardSaid : Prop := Claim7.holds Tryd.pinned (.plain (OpenSpec.ofChange fnExactParseFormulaSpec)) fnExactParseFormulaCard

/-- THE TIED CARD OF 'laws.FnExactStructureText'. -/
def fnExactStructureTextCard : Claim7 := { stood := { row := fnExactStructureTextRow, standIns := [], harness := (true, "3b35e994fff84bd4f540e6b77859c68a9474a7a5dd0abdd425fa5f5748cae045"), looks := true }, kinds := [], alts := [], laidByText := true, laidKinds := [.data, .data, .data], laidTests := true, laidLooks := .later }
def FnExactStructureTextCardSaid : Prop := Claim7.holds Tryd.pinned (.plain (OpenSpec.ofChange fnExactStructureTextSpec)) fnExactStructureTextCard

/-- THE SECOND FORM's CARD OF 'laws.FnExactParseFormula'. -/
def fnExactParseFormulaUptoCard : Claim7 := { stood := { row := fnExactParseFormulaUptoRow, standIns := [], harness := (true, "3b35e994fff84bd4f540e6b77859c68a9474a7a5dd0abdd425fa5f5748cae045"), looks := true }, kinds := [], alts := [], laidByText := true, laidKinds := [.data], laidTests := true, laidLooks := .later }
def FnExactParseFormulaUptoCardSaid : Prop := Claim7.holds Tryd.pinned (.plain (OpenSpec.upto fnExactParseFormulaSpec)) fnExactParseFormulaUptoCard

/-- THE SECOND FORM's CARD OF 'laws.FnExactStructureText'. -/
def fnExactStructureTextUptoCard : Claim7 := { stood := { row := fnExactStructureTextUptoRow, standIns := [], harness := (true, "3b35e994fff84bd4f540e6b77859c68a9474a7a5dd0abdd425fa5f5748cae045"), looks := true }, kinds := [], alts := [], laidByText := true, laidKinds := [.data, .data, .data], laidTests := true, laidLooks := .later }
def FnExactStructureTextUptoCardSaid : Prop := Claim7.holds Tryd.pinned (.plain (OpenSpec.upto fnExactStructureTextSpec)) fnExactStructureTextUptoCard
end Rows
end Go.Proofs.YtplchhahjmoodaaDoor
