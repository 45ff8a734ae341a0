/-
  DERIVED. GIVEN WITH THE SEED: THE CARDS: each row of YtbnpfgkcehlfnaaDoorRows.lean that lists a variable, with what it lists TIED to the program's text (the seventh form; the later family's looks); each row that meets fmt, with fmt's text TOLD by the authors' own Lean function (tested against real Go, not proved from fmt's source: count such statements apart). THE CARD IS WHAT COUNTS. Prove the row's statement (the work); the ties are given (YtbnpfgkcehlfnaaDoorTie.lean); close each card by the builder's one call (the guide's Derived/Test/ToyasCard.lean, 'card_holds'). Laid BY PROGRAM, IN A SANDBOX (cutbox-door.mjs). By AI agents, Wed Nov 11 2026. No macro, syntax, notation, axiom, sorry.
-/
import Derived.Test.YtbnpfgkcehlfnaaDoorRows
import GoSem.ClaimSeven
namespace Go.Proofs.YtbnpfgkcehlfnaaDoor
namespace Rows

/-- THE TIED CARD OF 'laws.FnKleene'. -/
def fnKleeneCard : Claim7 := { stood := { row := fnKleeneRow, standIns := [], harness := (true, "c99a2bab892b1cac42f30da64481248af39b20593c885c0db7b731d1942f6973"), looks := false }, kinds := [], alts := [], laidByText := true, laidKinds := [.data, .data, .data, .data], laidTests := true, laidLooks := .later }
def FnKleeneCardSaid : Prop := Claim7.holds Tryd.pinned (.plain (OpenSpec.ofChange fnKleeneSpec)) fnKleeneCard

/-- THE TIED CARD OF 'laws.FnExactNotOf'. -/
def fnExactNotOfCard : Claim7 := { stood := { row := fnExactNotOfRow, standIns := [], harness := (true, "c99a2bab892b1cac42f30da64481248af39b20593c885c0db7b731d1942f6973"), looks := false }, kinds := [], alts := [], laidByText := true, laidKinds := [.data], laidTests := true, laidLooks := .later }
def FnExactNotOfCardSaid : Prop := Claim7.holds Tryd.pinned (.plain (OpenSpec.ofChange fnExactNotOfSpec)) fnExactNotOfCard

/-- THE TIED CARD OF 'laws.FnExactAndOf'. -/
def fnExactAndOfCard : Claim7 := { stood := { row := fnExactAndOfRow, standIns := [], harness := (true, "c99a2bab892b1cac42f30da64481248af39b20593c885c0db7b731d1942f6973"), looks := false }, kinds := [], alts := [], laidByText := true, laidKinds := [.data], laidTests := true, laidLooks := .later }
def FnExactAndOfCardSaid : Prop := Claim7.holds Tryd.pinned (.plain (OpenSpec.ofChange fnExactAndOfSpec)) fnExactAndOfCard

/-- THE TIED CARD OF 'laws.FnExactOrOf'. -/
def fnExactOrOfCard : Claim7 := { stood := { row := fnExactOrOfRow, standIns := [], harness := (true, "c99a2bab892b1cac42f30da64481248af39b20593c885c0db7b731d1942f6973"), looks := false }, kinds := [], alts := [], laidByText := true, laidKinds := [.data], laidTests := true, laidLooks := .later }
def FnExactOrOfCardSaid : Prop := Claim7.holds Tryd.pinned (.plain (OpenSpec.ofChange fnExactOrOfSpec)) fnExactOrOfCard

/-- THE TIED CARD OF 'laws.FnExactJoinOf'. -/
def fnExactJoinOfCard : Claim7 := { stood := { row := fnExactJoinOfRow, standIns := [], harness := (true, "c99a2bab892b1cac42f30da64481248af39b20593c885c0db7b731d1942f6973"), looks := false }, kinds := [], alts := [], laidByText := true, laidKinds := [.data], laidTests := true, laidLooks := .later }
def FnExactJoinOfCardSaid : Prop := Claim7.holds Tryd.pinned (.plain (OpenSpec.ofChange fnExactJoinOfSpec)) fnExactJoinOfCard

/-- THE TIED CARD OF 'laws.FnExactIsWithin'. -/
def fnExactIsWithinCard : Claim7 := { stood := { row := fnExactIsWithinRow, standIns := [], harness := (true, "c99a2bab892b1cac42f30da64481248af39b20593c885c0db7b731d1942f6973"), looks := false }, kinds := [], alts := [], laidByText := true, laidKinds := [.data], laidTests := true, laidLooks := .later }
def FnExactIsWithinCardSaid : Prop := Claim7.holds Tryd.pinned (.plain (OpenSpec.ofChange fnExactIsWithinSpec)) fnExactIsWithinCard

/-- THE SECOND FORM's CARD OF 'laws.FnKleene'. -/
def fnKleeneUptoCard : Claim7 := { stood := { row := fnKleeneUptoRow, standIns := [], harness := (true, "c99a2bab892b1cac42f30da64481248af39b20593c885c0db7b731d1942f6973"), looks := false }, kinds := [], alts := [], laidByText := true, laidKinds := [.data, .data, .data, .data], laidTests := true, laidLooks := .later }
def FnKleeneUptoCardSaid : Prop := Claim7.holds Tryd.pinned (.plain (OpenSpec.upto fnKleeneSpec)) fnKleeneUptoCard

/-- THE SECOND FORM's CARD OF 'laws.FnExactNotOf'. -/
def fnExactNotOfUptoCard : Claim7 := { stood := { row := fnExactNotOfUptoRow, standIns := [], harness := (true, "c99a2bab892b1cac42f30da64481248af39b20593c885c0db7b731d1942f6973"), looks := false }, kinds := [], alts := [], laidByText := true, laidKinds := [.data], laidTests := true, laidLooks := .later }
def FnExactNotOfUptoCardSaid : Prop := Claim7.holds Tryd.pinned (.plain (OpenSpec.upto fnExactNotOfSpec)) fnExactNotOfUptoCard

/-- THE SECOND FORM's CARD OF 'laws.FnExactAndOf'. -/
def fnExactAndOfUptoCard : Claim7 := { stood := { row := fnExactAndOfUptoRow, standIns := [], harness := (true, "c99a2bab892b1cac42f30da64481248af39b20593c885c0db7b731d1942f6973"), looks := false }, kinds := [], alts := [], laidByText := true, laidKinds := [.data], laidTests := true, laidLooks := .later }
def FnExactAndOfUptoCardSaid : Prop := Claim7.holds Tryd.pinned (.plain (OpenSpec.upto fnExactAndOfSpec)) fnExactAndOfUptoCard

/-- THE SECOND FORM's CARD OF 'laws.FnExactOrOf'. -/
def fnExactOrOfUptoCard : Claim7 := { stood := { row := fnExactOrOfUptoRow, standIns := [], harness := (true, "c99a2bab892b1cac42f30da64481248af39b20593c885c0db7b731d1942f6973"), looks := false }, kinds := [], alts := [], laidByText := true, laidKinds := [.data], laidTests := true, laidLooks := .later }
def FnExactOrOfUptoCardSaid : Prop := Claim7.holds Tryd.pinned (.plain (OpenSpec.upto fnExactOrOfSpec)) fnExactOrOfUptoCard

/-- THE SECOND FORM's CARD OF 'laws.FnExactJoinOf'. -/
def fnExactJoinOfUptoCard : Claim7 := { stood := { row := fnExactJoinOfUptoRow, standIns := [], harness := (true, "c99a2bab892b1cac42f30da64481248af39b20593c885c0db7b731d1942f6973"), looks := false }, kinds := [], alts := [], laidByText := true, laidKinds := [.data], laidTests := true, laidLooks := .later }
def FnExactJoinOfUptoCardSaid : Prop := Claim7.holds Tryd.pinned (.plain (OpenSpec.upto fnExactJoinOfSpec)) fnExactJoinOfUptoCard

/-- THE SECOND FORM's CARD OF 'laws.FnExactIsWithin'. -/
def fnExactIsWithinUptoCard : Claim7 := { stood := { row := fnExactIsWithinUptoRow, standIns := [], harness := (true, "c99a2bab892b1cac42f30da64481248af39b20593c885c0db7b731d1942f6973"), looks := false }, kinds := [], alts := [], laidByText := true, laidKinds := [.data], laidTests := true, laidLooks := .later }
def FnExactIsWithinUptoCardSaid : Prop := Claim7.holds Tryd.pinned (.plain (OpenSpec.upto fnExactIsWithinSpec)) fnExactIsWithinUptoCard
end Rows
end Go.Proofs.YtbnpfgkcehlfnaaDoor
