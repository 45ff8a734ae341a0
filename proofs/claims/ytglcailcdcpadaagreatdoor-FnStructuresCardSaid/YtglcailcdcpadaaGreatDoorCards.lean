/-
  DERIVED. GIVEN WITH THE SEED: THE CARDS: each row of YtglcailcdcpadaaGreatDoorRows.lean that lists a variable, with what it lists TIED to the program's text (the seventh form; the later family's looks); each row that meets fmt, with fmt's text TOLD by the authors' own Lean function (tested against real Go, not proved from fmt's source: count such statements apart). THE CARD IS WHAT COUNTS. Prove the row's statement (the work); the ties are given (YtglcailcdcpadaaGreatDoorTie.lean); close each card by the builder's one call (the guide's Derived/Test/ToyasCard.lean, 'card_holds'). Laid BY PROGRAM, IN A SANDBOX (cutbox-door.mjs). By AI agents, Wed Nov 11 2026. No macro, syntax, notation, axiom, sorry.
-/
import Derived.Test.YtglcailcdcpadaaGreatDoorRows
import GoSem.ClaimSeven
namespace Go.Proofs.YtglcailcdcpadaaGreatDoor
namespace Rows

/-- THE TIED CARD OF 'laws.FnStructures'. -/
def fnStructuresCard : Claim7 := { stood := { row := fnStructuresRow, standIns := [], harness := (true, "3e81db3d2bce6cacfe7312d1a114153fe255b935e4e03a2a7c70ba9dbecb8317"), looks := true }, kinds := [], alts := [], laidByText := true, laidKinds := [.data, .data, .data], laidTests := true, laidLooks := .later }
def FnStructuresCardSaid : Prop := Claim7.holds Tryz.pinned (.plain (OpenSpec.ofChange fnStructuresSpec)) fnStructuresCard

/-- THE TIED CARD OF 'laws.FnEvaluated'. -/
def fnEvaluatedCard : Claim7 := { stood := { row := fnEvaluatedRow, standIns := [], harness := (true, "3e81db3d2bce6cacfe7312d1a114153fe255b935e4e03a2a7c70ba9dbecb8317"), looks := true }, kinds := [], alts := [], laidByText := true, laidKinds := [.data, .data, .data], laidTests := true, laidLooks := .later }
def FnEvaluatedCardSaid : Prop := Claim7.holds Tryz.pinned (.plain (OpenSpec.ofChange fnEvaluatedSpec)) fnEvaluatedCard

/-- THE SECOND FORM's CARD OF 'laws.FnStructures'. -/
def fnStructuresUptoCard : Claim7 := { stood := { row := fnStructuresUptoRow, standIns := [], harness := (true, "3e81db3d2bce6cacfe7312d1a114153fe255b935e4e03a2a7c70ba9dbecb8317"), looks := true }, kinds := [], alts := [], laidByText := true, laidKinds := [.data, .data, .data], laidTests := true, laidLooks := .later }
def FnStructuresUptoCardSaid : Prop := Claim7.holds Tryz.pinned (.plain (OpenSpec.upto fnStructuresSpec)) fnStructuresUptoCard

/-- THE SECOND FORM's CARD OF 'laws.FnEvaluated'. -/
def fnEvaluatedUptoCard : Claim7 := { stood := { row := fnEvaluatedUptoRow, standIns := [], harness := (true, "3e81db3d2bce6cacfe7312d1a114153fe255b935e4e03a2a7c70ba9dbecb8317"), looks := true }, kinds := [], alts := [], laidByText := true, laidKinds := [.data, .data, .data], laidTests := true, laidLooks := .later }
def FnEvaluatedUptoCardSaid : Prop := Claim7.holds Tryz.pinned (.plain (OpenSpec.upto fnEvaluatedSpec)) fnEvaluatedUptoCard
end Rows
end Go.Proofs.YtglcailcdcpadaaGreatDoor
