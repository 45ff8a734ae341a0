/-
  NARROWER THAN 'FOR EVERY INPUT', by the rows' own cells (each row's printed sentence says how): FnExactFormulaText: loops, laid · FnExactParseFormula: laid.
  DERIVED. THE GIVEN ROWS OF THIS SEAT. 2 by the template 'for every input the law returns true; each argument reads behind the call as it read before'; 0 by the template 'total and deterministic' (their statements: YthhhmlohfhioeaaDoorTotals.lean).
  GIVEN WITH THE SEED: the statements are not yours to turn. If you find one false, say at which input.
  Laid BY PROGRAM, IN A SANDBOX (cutbox-rows.mjs): the forced cells as the released guide's own fill.sh prints them over the translation d5f41dba537d8662… (all of the seat's roots in one cut). By AI agents, Wed Nov 11 2026. No macro, syntax, notation, axiom, sorry.
-/
import Derived.Test.YthhhmlohfhioeaaDoorChecked
import GoSem.Claim
import GoSem.ClaimJoined
import GoSem.ClaimMapViews
import Derived.JoinedTies
import Derived.KernelRfl
namespace Go.Proofs.YthhhmlohfhioeaaDoor
/- THE CELL 'sum', in the pinned program and in every row, IS THE sha256 OF THE DUMP (.gsa) THAT YthhhmlohfhioeaaDoorProg.lean LOADS. Nothing in Lean hashes anything: it is a label: what it is worth is what the hold of that sum in a sandbox is worth. -/
noncomputable def Tryd.pinned : Pinned := { name := "ythhhmlohfhioeaadoor", sum := "d5f41dba537d8662f9659a35ac1d94cbd27c127321d675233455327bda6dd8b7", checked := Tryd.checked }
namespace Rows
def none {H : Type} : Left H := { results := [], args := [] }

/- WHAT THE LISTED PACKAGE-LEVEL VARIABLES READ AS WHEN THE CALL BEGINS. Each datum BY PROGRAM (the guide's laid-datum.mjs) off the statement by which the dump's own 'gosem.cut.vars' lays the variable. In a bare row this is a premise. The card (YthhhmlohfhioeaaDoorCards.lean) ties it to the program's text. -/
def laid_loop_example_g00590_impl_formulaWords {H : Type} : DataW H := .agg [.lit (.string []), .lit (.string [116, 114, 117, 101]), .lit (.string [111, 110]), .lit (.string [102, 114, 111, 109]), .lit (.string [115, 104, 97, 114, 101, 100]), .lit (.string [110, 101, 120, 116]), .lit (.string [115, 97, 109, 101]), .lit (.string [112, 97, 116, 104]), .lit (.string [33]), .lit (.string [38]), .lit (.string [124]), .lit (.string [115, 111, 109, 101]), .lit (.string [97, 108, 108])]

/-- 'laws.FnExactFormulaText': WHATEVER THE INPUT: true; the input reads as it did. -/
def fnExactFormulaTextSpec : ChangeSpec := { name := "fnExactFormulaText", vars := ["loop.example/g00590/impl.formulaWords"], fn := fun _ => fun
  | [d1, d2, g1] => { results := [.lit (.bool true)], args := [d1, d2], vars := [g1] }
  | _ => none }
def fnExactFormulaTextRow : OpenClaim := { program := "ythhhmlohfhioeaadoor", sum := "d5f41dba537d8662f9659a35ac1d94cbd27c127321d675233455327bda6dd8b7", func := "loop.example/g00590/laws.FnExactFormulaText", spec := "fnExactFormulaText", inPlace := ["internal/abi.NoEscape", "internal/bytealg.MakeNoZero"], unfollowed := true, recurses := true, named := ["loop.example/g00590/impl.formulaWords"], loops := true, apart := false, laid := [("loop.example/g00590/impl.formulaWords", laid_loop_example_g00590_impl_formulaWords)] }
def FnExactFormulaTextSaid : Prop := fnExactFormulaTextRow.holds Tryd.pinned (OpenSpec.ofChange fnExactFormulaTextSpec)

/-- ITS FALSE NEIGHBOUR: 'it returns false'. Refute it at one input. -/
def fnExactFormulaTextWrong : ChangeSpec := { name := "fnExactFormulaText", vars := ["loop.example/g00590/impl.formulaWords"], fn := fun _ => fun
  | [d1, d2, g1] => { results := [.lit (.bool false)], args := [d1, d2], vars := [g1] }
  | _ => none }
def FnExactFormulaTextWrongFalsely : Prop := fnExactFormulaTextRow.holds Tryd.pinned (OpenSpec.ofChange fnExactFormulaTextWrong)

/-- 'laws.FnExactParseFormula': WHATEVER THE INPUT: true; the input reads as it did. -/
def fnExactParseFormulaSpec : ChangeSpec := { name := "fnExactParseFormula", vars := ["loop.example/g00590/impl.formulaWords"], fn := fun _ => fun
  | [d1, d2, g1] => { results := [.lit (.bool true)], args := [d1, d2], vars := [g1] }
  | _ => none }
def fnExactParseFormulaRow : OpenClaim := { program := "ythhhmlohfhioeaadoor", sum := "d5f41dba537d8662f9659a35ac1d94cbd27c127321d675233455327bda6dd8b7", func := "loop.example/g00590/laws.FnExactParseFormula", spec := "fnExactParseFormula", inPlace := ["internal/bytealg.IndexByteString", "internal/bytealg.IndexString", "internal/abi.NoEscape", "internal/bytealg.MakeNoZero"], unfollowed := true, recurses := true, named := ["loop.example/g00590/impl.formulaWords", "internal/bytealg.MaxLen"], apart := false, laid := [("loop.example/g00590/impl.formulaWords", laid_loop_example_g00590_impl_formulaWords)] }
def FnExactParseFormulaSaid : Prop := fnExactParseFormulaRow.holds Tryd.pinned (OpenSpec.ofChange fnExactParseFormulaSpec)

/-- ITS FALSE NEIGHBOUR: 'it returns false'. Refute it at one input. -/
def fnExactParseFormulaWrong : ChangeSpec := { name := "fnExactParseFormula", vars := ["loop.example/g00590/impl.formulaWords"], fn := fun _ => fun
  | [d1, d2, g1] => { results := [.lit (.bool false)], args := [d1, d2], vars := [g1] }
  | _ => none }
def FnExactParseFormulaWrongFalsely : Prop := fnExactParseFormulaRow.holds Tryd.pinned (OpenSpec.ofChange fnExactParseFormulaWrong)

/- THE SECOND FORM. 'bulk': how many values and letters a reading holds, each counted each time it is reached (what is shared counts as often as it is met; a slice's spare places count too). A statement '..UptoSaid' is the law's where the arguments, and the package variables that the reading takes, are together of bulk at most 1048576: NARROWER than '..Said'. Prove '..Said' where nothing that the law and all that it calls make is longer than what came in: it says more and counts as full. Else prove '..UptoSaid'. A law counts once. -/
mutual
def uptoBulk {H : Type} : DataW H → Nat
  | .lit (.string bytes) => bytes.length + 1
  | .lit _ => 1
  | .nil => 1
  | .ptr d => uptoBulk d + 1
  | .slice elems spare => uptoBulkAll elems + uptoBulkAll spare + 1
  | .agg parts => uptoBulkAll parts + 1
  | .iface _ d => uptoBulk d + 1
  | .map entries => uptoBulkEntries entries + 1
  | .held _ => 1
def uptoBulkAll {H : Type} : List (DataW H) → Nat
  | [] => 0
  | d :: r => uptoBulk d + uptoBulkAll r
def uptoBulkEntries {H : Type} : List (Lit × DataW H) → Nat
  | [] => 0
  | x :: r => uptoBulkEntry x + uptoBulkEntries r
def uptoBulkEntry {H : Type} : Lit × DataW H → Nat
  | (.string bytes, d) => bytes.length + uptoBulk d + 1
  | (_, d) => uptoBulk d + 1
 end
def uptoSmall : (H : Type) → List (DataW H) → Bool := fun _ ds => decide (uptoBulkAll ds ≤ 1048576)
def OpenSpec.upto (s : _root_.Go.ChangeSpec) : _root_.Go.OpenSpec := { _root_.Go.OpenSpec.ofChange s with cond := some uptoSmall }

/-- 'laws.FnExactFormulaText', WHERE WHAT IT READS IS OF BULK AT MOST 1048576: true; the input reads as it did. -/
def fnExactFormulaTextUptoRow : OpenClaim := { program := "ythhhmlohfhioeaadoor", sum := "d5f41dba537d8662f9659a35ac1d94cbd27c127321d675233455327bda6dd8b7", func := "loop.example/g00590/laws.FnExactFormulaText", spec := "fnExactFormulaText", inPlace := ["internal/abi.NoEscape", "internal/bytealg.MakeNoZero"], unfollowed := true, recurses := true, named := ["loop.example/g00590/impl.formulaWords"], loops := true, apart := false, laid := [("loop.example/g00590/impl.formulaWords", laid_loop_example_g00590_impl_formulaWords)], narrowed := true }
def FnExactFormulaTextUptoSaid : Prop := fnExactFormulaTextUptoRow.holds Tryd.pinned (OpenSpec.upto fnExactFormulaTextSpec)

/-- 'laws.FnExactParseFormula', WHERE WHAT IT READS IS OF BULK AT MOST 1048576: true; the input reads as it did. -/
def fnExactParseFormulaUptoRow : OpenClaim := { program := "ythhhmlohfhioeaadoor", sum := "d5f41dba537d8662f9659a35ac1d94cbd27c127321d675233455327bda6dd8b7", func := "loop.example/g00590/laws.FnExactParseFormula", spec := "fnExactParseFormula", inPlace := ["internal/bytealg.IndexByteString", "internal/bytealg.IndexString", "internal/abi.NoEscape", "internal/bytealg.MakeNoZero"], unfollowed := true, recurses := true, named := ["loop.example/g00590/impl.formulaWords", "internal/bytealg.MaxLen"], apart := false, laid := [("loop.example/g00590/impl.formulaWords", laid_loop_example_g00590_impl_formulaWords)], narrowed := true }
def FnExactParseFormulaUptoSaid : Prop := fnExactParseFormulaUptoRow.holds Tryd.pinned (OpenSpec.upto fnExactParseFormulaSpec)

end Rows
end Go.Proofs.YthhhmlohfhioeaaDoor
