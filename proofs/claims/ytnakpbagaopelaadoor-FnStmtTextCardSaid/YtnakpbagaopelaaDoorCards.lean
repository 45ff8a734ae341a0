/-
  DERIVED. GIVEN WITH THE SEED: THE CARDS: each row of YtnakpbagaopelaaDoorRows.lean that lists a variable, with what it lists TIED to the program's text (the seventh form; the later family's looks); each row that meets fmt, with fmt's text TOLD by the authors' own Lean function (tested against real Go, not proved from fmt's source: count such statements apart). THE CARD IS WHAT COUNTS. Prove the row's statement (the work); the ties are given (YtnakpbagaopelaaDoorTie.lean); close each card by the builder's one call (the guide's Derived/Test/ToyasCard.lean, 'card_holds'). Laid BY PROGRAM, IN A SANDBOX (cutbox-door.mjs). By AI agents, Wed Nov 11 2026. No macro, syntax, notation, axiom, sorry.
-/
import Derived.Test.YtnakpbagaopelaaDoorRows
import GoSem.ClaimSeven
namespace Go.Proofs.YtnakpbagaopelaaDoor
namespace Rows

/-- THE TIED CARD OF 'laws.FnStmtText'. -/
def fnStmtTextCard : Claim7 := { stood := { row := fnStmtTextRow, standIns := [], harness := (true, "9e5366e86c4dec9c6be51ac4417c88a9a75614b867a94cee68436decc9762875"), looks := false }, kinds := [], alts := [], laidByText := true, laidKinds := [.data, .data], laidTests := true, laidLooks := .later }
def FnStmtTextCardSaid : Prop := Claim7.holds Tryd.pinned (.plain (OpenSpec.ofChange fnStmtTextSpec)) fnStmtTextCard

/-- THE TIED CARD OF 'laws.FnExactStmtText'. -/
def fnExactStmtTextCard : Claim7 := { stood := { row := fnExactStmtTextRow, standIns := [], harness := (true, "9e5366e86c4dec9c6be51ac4417c88a9a75614b867a94cee68436decc9762875"), looks := false }, kinds := [], alts := [], laidByText := true, laidKinds := [.data], laidTests := true, laidLooks := .later }
def FnExactStmtTextCardSaid : Prop := Claim7.holds Tryd.pinned (.plain (OpenSpec.ofChange fnExactStmtTextSpec)) fnExactStmtTextCard

/-- THE TIED CARD OF 'laws.FnExactParseStmt'. -/
def fnExactParseStmtCard : Claim7 := { stood := { row := fnExactParseStmtRow, standIns := [], harness := (true, "9e5366e86c4dec9c6be51ac4417c88a9a75614b867a94cee68436decc9762875"), looks := false }, kinds := [], alts := [], laidByText := true, laidKinds := [.data, .data], laidTests := true, laidLooks := .later }
def FnExactParseStmtCardSaid : Prop := Claim7.holds Tryd.pinned (.plain (OpenSpec.ofChange fnExactParseStmtSpec)) fnExactParseStmtCard

/-- THE SECOND FORM's CARD OF 'laws.FnStmtText'. -/
def fnStmtTextUptoCard : Claim7 := { stood := { row := fnStmtTextUptoRow, standIns := [], harness := (true, "9e5366e86c4dec9c6be51ac4417c88a9a75614b867a94cee68436decc9762875"), looks := false }, kinds := [], alts := [], laidByText := true, laidKinds := [.data, .data], laidTests := true, laidLooks := .later }
def FnStmtTextUptoCardSaid : Prop := Claim7.holds Tryd.pinned (.plain (OpenSpec.upto fnStmtTextSpec)) fnStmtTextUptoCard

/-- THE SECOND FORM's CARD OF 'laws.FnExactStmtText'. -/
def fnExactStmtTextUptoCard : Claim7 := { stood := { row := fnExactStmtTextUptoRow, standIns := [], harness := (true, "9e5366e86c4dec9c6be51ac4417c88a9a75614b867a94cee68436decc9762875"), looks := false }, kinds := [], alts := [], laidByText := true, laidKinds := [.data], laidTests := true, laidLooks := .later }
def FnExactStmtTextUptoCardSaid : Prop := Claim7.holds Tryd.pinned (.plain (OpenSpec.upto fnExactStmtTextSpec)) fnExactStmtTextUptoCard

/-- THE SECOND FORM's CARD OF 'laws.FnExactParseStmt'. -/
def fnExactParseStmtUptoCard : Claim7 := { stood := { row := fnExactParseStmtUptoRow, standIns := [], harness := (true, "9e5366e86c4dec9c6be51ac4417c88a9a75614b867a94cee68436decc9762875"), looks := false }, kinds := [], alts := [], laidByText := true, laidKinds := [.data, .data], laidTests := true, laidLooks := .later }
def FnExactParseStmtUptoCardSaid : Prop := Claim7.holds Tryd.pinned (.plain (OpenSpec.upto fnExactParseStmtSpec)) fnExactParseStmtUptoCard
end Rows
end Go.Proofs.YtnakpbagaopelaaDoor
