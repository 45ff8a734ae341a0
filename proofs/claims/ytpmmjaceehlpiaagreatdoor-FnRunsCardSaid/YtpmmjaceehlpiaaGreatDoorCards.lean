/-
  DERIVED. GIVEN WITH THE SEED: THE CARDS: each row of YtpmmjaceehlpiaaGreatDoorRows.lean that lists a variable, with what it lists TIED to the program's text (the seventh form; the later family's looks); each row that meets fmt, with fmt's text TOLD by the authors' own Lean function (tested against real Go, not proved from fmt's source: count such statements apart). THE CARD IS WHAT COUNTS. Prove the row's statement (the work); the ties are given (YtpmmjaceehlpiaaGreatDoorTie.lean); close each card by the builder's one call (the guide's Derived/Test/ToyasCard.lean, 'card_holds'). Laid BY PROGRAM, IN A SANDBOX (cutbox-door.mjs). By AI agents, Wed Nov 11 2026. No macro, syntax, notation, axiom, sorry.
-/
import Derived.Test.YtpmmjaceehlpiaaGreatDoorRows
import GoSem.ClaimSeven
namespace Go.Proofs.YtpmmjaceehlpiaaGreatDoor
namespace Rows

/-- THE TIED CARD OF 'laws.FnRuns'. -/
def fnRunsCard : Claim7 := { stood := { row := fnRunsRow, standIns := [], harness := (true, "d93eb2fb4310847a02ca38887b55c21f6e1f3f1ae009933e939791ae2d64efb2"), looks := false }, kinds := [], alts := [], laidByText := true, laidKinds := [.data], laidTests := true, laidLooks := .later }
def FnRunsCardSaid : Prop := Claim7.holds Tryz.pinned (.plain (OpenSpec.ofChange fnRunsSpec)) fnRunsCard

/-- THE TIED CARD OF 'laws.FnExactFollow'. -/
def fnExactFollowCard : Claim7 := { stood := { row := fnExactFollowRow, standIns := [], harness := (true, "d93eb2fb4310847a02ca38887b55c21f6e1f3f1ae009933e939791ae2d64efb2"), looks := false }, kinds := [], alts := [], laidByText := true, laidKinds := [.data], laidTests := true, laidLooks := .later }
def FnExactFollowCardSaid : Prop := Claim7.holds Tryz.pinned (.plain (OpenSpec.ofChange fnExactFollowSpec)) fnExactFollowCard

/-- THE TIED CARD OF 'laws.FnExactStatesFrom'. -/
def fnExactStatesFromCard : Claim7 := { stood := { row := fnExactStatesFromRow, standIns := [], harness := (true, "d93eb2fb4310847a02ca38887b55c21f6e1f3f1ae009933e939791ae2d64efb2"), looks := false }, kinds := [], alts := [], laidByText := true, laidKinds := [.data], laidTests := true, laidLooks := .later }
def FnExactStatesFromCardSaid : Prop := Claim7.holds Tryz.pinned (.plain (OpenSpec.ofChange fnExactStatesFromSpec)) fnExactStatesFromCard

/-- THE SECOND FORM's CARD OF 'laws.FnRuns'. -/
def fnRunsUptoCard : Claim7 := { stood := { row := fnRunsUptoRow, standIns := [], harness := (true, "d93eb2fb4310847a02ca38887b55c21f6e1f3f1ae009933e939791ae2d64efb2"), looks := false }, kinds := [], alts := [], laidByText := true, laidKinds := [.data], laidTests := true, laidLooks := .later }
def FnRunsUptoCardSaid : Prop := Claim7.holds Tryz.pinned (.plain (OpenSpec.upto fnRunsSpec)) fnRunsUptoCard

/-- THE SECOND FORM's CARD OF 'laws.FnExactFollow'. -/
def fnExactFollowUptoCard : Claim7 := { stood := { row := fnExactFollowUptoRow, standIns := [], harness := (true, "d93eb2fb4310847a02ca38887b55c21f6e1f3f1ae009933e939791ae2d64efb2"), looks := false }, kinds := [], alts := [], laidByText := true, laidKinds := [.data], laidTests := true, laidLooks := .later }
def FnExactFollowUptoCardSaid : Prop := Claim7.holds Tryz.pinned (.plain (OpenSpec.upto fnExactFollowSpec)) fnExactFollowUptoCard

/-- THE SECOND FORM's CARD OF 'laws.FnExactStatesFrom'. -/
def fnExactStatesFromUptoCard : Claim7 := { stood := { row := fnExactStatesFromUptoRow, standIns := [], harness := (true, "d93eb2fb4310847a02ca38887b55c21f6e1f3f1ae009933e939791ae2d64efb2"), looks := false }, kinds := [], alts := [], laidByText := true, laidKinds := [.data], laidTests := true, laidLooks := .later }
def FnExactStatesFromUptoCardSaid : Prop := Claim7.holds Tryz.pinned (.plain (OpenSpec.upto fnExactStatesFromSpec)) fnExactStatesFromUptoCard
end Rows
end Go.Proofs.YtpmmjaceehlpiaaGreatDoor
