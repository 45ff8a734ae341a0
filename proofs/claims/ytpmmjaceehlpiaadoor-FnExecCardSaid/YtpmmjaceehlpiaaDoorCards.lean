/-
  DERIVED. GIVEN WITH THE SEED: THE CARDS: each row of YtpmmjaceehlpiaaDoorRows.lean that lists a variable, with what it lists TIED to the program's text (the seventh form; the later family's looks); each row that meets fmt, with fmt's text TOLD by the authors' own Lean function (tested against real Go, not proved from fmt's source: count such statements apart). THE CARD IS WHAT COUNTS. Prove the row's statement (the work); the ties are given (YtpmmjaceehlpiaaDoorTie.lean); close each card by the builder's one call (the guide's Derived/Test/ToyasCard.lean, 'card_holds'). Laid BY PROGRAM, IN A SANDBOX (cutbox-door.mjs). By AI agents, Wed Nov 11 2026. No macro, syntax, notation, axiom, sorry.
-/
import Derived.Test.YtpmmjaceehlpiaaDoorRows
import GoSem.ClaimSeven
namespace Go.Proofs.YtpmmjaceehlpiaaDoor
namespace Rows

/-- THE TIED CARD OF 'laws.FnExec'. -/
def fnExecCard : Claim7 := { stood := { row := fnExecRow, standIns := [], harness := (true, "501a9dcedfb3656f589c5a04334f7169f99d25e7fe6be0f50f55107cfb784aff"), looks := false }, kinds := [], alts := [], laidByText := true, laidKinds := [.data, .data], laidTests := true, laidLooks := .later }
def FnExecCardSaid : Prop := Claim7.holds Tryd.pinned (.plain (OpenSpec.ofChange fnExecSpec)) fnExecCard

/-- THE TIED CARD OF 'laws.FnExactExec'. -/
def fnExactExecCard : Claim7 := { stood := { row := fnExactExecRow, standIns := [], harness := (true, "501a9dcedfb3656f589c5a04334f7169f99d25e7fe6be0f50f55107cfb784aff"), looks := false }, kinds := [], alts := [], laidByText := true, laidKinds := [.data], laidTests := true, laidLooks := .later }
def FnExactExecCardSaid : Prop := Claim7.holds Tryd.pinned (.plain (OpenSpec.ofChange fnExactExecSpec)) fnExactExecCard

/-- THE SECOND FORM's CARD OF 'laws.FnExec'. -/
def fnExecUptoCard : Claim7 := { stood := { row := fnExecUptoRow, standIns := [], harness := (true, "501a9dcedfb3656f589c5a04334f7169f99d25e7fe6be0f50f55107cfb784aff"), looks := false }, kinds := [], alts := [], laidByText := true, laidKinds := [.data, .data], laidTests := true, laidLooks := .later }
def FnExecUptoCardSaid : Prop := Claim7.holds Tryd.pinned (.plain (OpenSpec.upto fnExecSpec)) fnExecUptoCard

/-- THE SECOND FORM's CARD OF 'laws.FnExactExec'. -/
def fnExactExecUptoCard : Claim7 := { stood := { row := fnExactExecUptoRow, standIns := [], harness := (true, "501a9dcedfb3656f589c5a04334f7169f99d25e7fe6be0f50f55107cfb784aff"), looks := false }, kinds := [], alts := [], laidByText := true, laidKinds := [.data], laidTests := true, laidLooks := .later }
def FnExactExecUptoCardSaid : Prop := Claim7.holds Tryd.pinned (.plain (OpenSpec.upto fnExactExecSpec)) fnExactExecUptoCard
end Rows
end Go.Proofs.YtpmmjaceehlpiaaDoor
