/-
  DERIVED. GIVEN WITH THE SEED: THE CARDS: each row of YtiocpaoelahcaaaDoorRows.lean that lists a variable, with what it lists TIED to the program's text (the seventh form; the later family's looks); each row that meets fmt, with fmt's text TOLD by the authors' own Lean function (tested against real Go, not proved from fmt's source: count such statements apart). THE CARD IS WHAT COUNTS. Prove the row's statement (the work); the ties are given (YtiocpaoelahcaaaDoorTie.lean); close each card by the builder's one call (the guide's Derived/Test/ToyasCard.lean, 'card_holds'). Laid BY PROGRAM, IN A SANDBOX (cutbox-door.mjs). By AI agents, Wed Nov 11 2026. No macro, syntax, notation, axiom, sorry.
-/
import Derived.Test.YtiocpaoelahcaaaDoorRows
import GoSem.ClaimSeven
namespace Go.Proofs.YtiocpaoelahcaaaDoor
namespace Rows

/-- THE TIED CARD OF 'laws.FnStmts'. -/
def fnStmtsCard : Claim7 := { stood := { row := fnStmtsRow, standIns := [], harness := (true, "db107f4794f9f179ddc0788a660859d67a848602a392c37f730fb166c8238e72"), looks := false }, kinds := [], alts := [], laidByText := true, laidKinds := [.data], laidTests := true, laidLooks := .later }
def FnStmtsCardSaid : Prop := Claim7.holds Tryd.pinned (.plain (OpenSpec.ofChange fnStmtsSpec)) fnStmtsCard

/-- THE TIED CARD OF 'laws.FnExactNamesOf'. -/
def fnExactNamesOfCard : Claim7 := { stood := { row := fnExactNamesOfRow, standIns := [], harness := (true, "db107f4794f9f179ddc0788a660859d67a848602a392c37f730fb166c8238e72"), looks := false }, kinds := [], alts := [], laidByText := true, laidKinds := [.data], laidTests := true, laidLooks := .later }
def FnExactNamesOfCardSaid : Prop := Claim7.holds Tryd.pinned (.plain (OpenSpec.ofChange fnExactNamesOfSpec)) fnExactNamesOfCard

/-- THE TIED CARD OF 'laws.FnExactIsStmt'. -/
def fnExactIsStmtCard : Claim7 := { stood := { row := fnExactIsStmtRow, standIns := [], harness := (true, "db107f4794f9f179ddc0788a660859d67a848602a392c37f730fb166c8238e72"), looks := false }, kinds := [], alts := [], laidByText := true, laidKinds := [.data], laidTests := true, laidLooks := .later }
def FnExactIsStmtCardSaid : Prop := Claim7.holds Tryd.pinned (.plain (OpenSpec.ofChange fnExactIsStmtSpec)) fnExactIsStmtCard

/-- THE SECOND FORM's CARD OF 'laws.FnStmts'. -/
def fnStmtsUptoCard : Claim7 := { stood := { row := fnStmtsUptoRow, standIns := [], harness := (true, "db107f4794f9f179ddc0788a660859d67a848602a392c37f730fb166c8238e72"), looks := false }, kinds := [], alts := [], laidByText := true, laidKinds := [.data], laidTests := true, laidLooks := .later }
def FnStmtsUptoCardSaid : Prop := Claim7.holds Tryd.pinned (.plain (OpenSpec.upto fnStmtsSpec)) fnStmtsUptoCard

/-- THE SECOND FORM's CARD OF 'laws.FnExactNamesOf'. -/
def fnExactNamesOfUptoCard : Claim7 := { stood := { row := fnExactNamesOfUptoRow, standIns := [], harness := (true, "db107f4794f9f179ddc0788a660859d67a848602a392c37f730fb166c8238e72"), looks := false }, kinds := [], alts := [], laidByText := true, laidKinds := [.data], laidTests := true, laidLooks := .later }
def FnExactNamesOfUptoCardSaid : Prop := Claim7.holds Tryd.pinned (.plain (OpenSpec.upto fnExactNamesOfSpec)) fnExactNamesOfUptoCard

/-- THE SECOND FORM's CARD OF 'laws.FnExactIsStmt'. -/
def fnExactIsStmtUptoCard : Claim7 := { stood := { row := fnExactIsStmtUptoRow, standIns := [], harness := (true, "db107f4794f9f179ddc0788a660859d67a848602a392c37f730fb166c8238e72"), looks := false }, kinds := [], alts := [], laidByText := true, laidKinds := [.data], laidTests := true, laidLooks := .later }
def FnExactIsStmtUptoCardSaid : Prop := Claim7.holds Tryd.pinned (.plain (OpenSpec.upto fnExactIsStmtSpec)) fnExactIsStmtUptoCard
end Rows
end Go.Proofs.YtiocpaoelahcaaaDoor
