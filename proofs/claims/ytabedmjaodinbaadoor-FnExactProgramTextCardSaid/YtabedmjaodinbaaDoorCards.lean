/-
  DERIVED. GIVEN WITH THE SEED: THE CARDS: each row of YtabedmjaodinbaaDoorRows.lean that lists a variable, with what it lists TIED to the program's text (the seventh form; the later family's looks); each row that meets fmt, with fmt's text TOLD by the authors' own Lean function (tested against real Go, not proved from fmt's source: count such statements apart). THE CARD IS WHAT COUNTS. Prove the row's statement (the work); the ties are given (YtabedmjaodinbaaDoorTie.lean); close each card by the builder's one call (the guide's Derived/Test/ToyasCard.lean, 'card_holds'). Laid BY PROGRAM, IN A SANDBOX (cutbox-door.mjs). By AI agents, Wed Nov 11 2026. No macro, syntax, notation, axiom, sorry.
-/
import Derived.Test.YtabedmjaodinbaaDoorRows
import GoSem.ClaimSeven
namespace Go.Proofs.YtabedmjaodinbaaDoor
namespace Rows

/-- THE TIED CARD OF 'laws.FnExactIsProgram'. -/
def fnExactIsProgramCard : Claim7 := { stood := { row := fnExactIsProgramRow, standIns := [], harness := (true, "5ebef5634ee4cd2cf47ffe7e48b87248df286199fe730be6af4e7ce29ca67501"), looks := false }, kinds := [], alts := [], laidByText := true, laidKinds := [.data], laidTests := true, laidLooks := .later }
def FnExactIsProgramCardSaid : Prop := Claim7.holds Tryd.pinned (.plain (OpenSpec.ofChange fnExactIsProgramSpec)) fnExactIsProgramCard

/-- THE TIED CARD OF 'laws.FnExactProgramText'. -/
def fnExactProgramTextCard : Claim7 := { stood := { row := fnExactProgramTextRow, standIns := [], harness := (true, "5ebef5634ee4cd2cf47ffe7e48b87248df286199fe730be6af4e7ce29ca67501"), looks := false }, kinds := [], alts := [], laidByText := true, laidKinds := [.data, .data, .data, .data], laidTests := true, laidLooks := .later }
def FnExactProgramTextCardSaid : Prop := Claim7.holds Tryd.pinned (.plain (OpenSpec.ofChange fnExactProgramTextSpec)) fnExactProgramTextCard

/-- THE SECOND FORM's CARD OF 'laws.FnExactIsProgram'. -/
def fnExactIsProgramUptoCard : Claim7 := { stood := { row := fnExactIsProgramUptoRow, standIns := [], harness := (true, "5ebef5634ee4cd2cf47ffe7e48b87248df286199fe730be6af4e7ce29ca67501"), looks := false }, kinds := [], alts := [], laidByText := true, laidKinds := [.data], laidTests := true, laidLooks := .later }
def FnExactIsProgramUptoCardSaid : Prop := Claim7.holds Tryd.pinned (.plain (OpenSpec.upto fnExactIsProgramSpec)) fnExactIsProgramUptoCard

/-- THE SECOND FORM's CARD OF 'laws.FnExactProgramText'. -/
def fnExactProgramTextUptoCard : Claim7 := { stood := { row := fnExactProgramTextUptoRow, standIns := [], harness := (true, "5ebef5634ee4cd2cf47ffe7e48b87248df286199fe730be6af4e7ce29ca67501"), looks := false }, kinds := [], alts := [], laidByText := true, laidKinds := [.data, .data, .data, .data], laidTests := true, laidLooks := .later }
def FnExactProgramTextUptoCardSaid : Prop := Claim7.holds Tryd.pinned (.plain (OpenSpec.upto fnExactProgramTextSpec)) fnExactProgramTextUptoCard
end Rows
end Go.Proofs.YtabedmjaodinbaaDoor
