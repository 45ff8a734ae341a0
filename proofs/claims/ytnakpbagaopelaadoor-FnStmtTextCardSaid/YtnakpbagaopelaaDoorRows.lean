/-
  NARROWER THAN 'FOR EVERY INPUT', by the rows' own cells (each row's printed sentence says how): FnStmtText: laid · FnExactStmtText: laid · FnExactParseStmt: laid.
  DERIVED. THE GIVEN ROWS OF THIS SEAT. 3 by the template 'for every input the law returns true; each argument reads behind the call as it read before'; 0 by the template 'total and deterministic' (their statements: YtnakpbagaopelaaDoorTotals.lean).
  GIVEN WITH THE SEED: the statements are not yours to turn. If you find one false, say at which input.
  Laid BY PROGRAM, IN A SANDBOX (cutbox-rows.mjs): the forced cells as the released guide's own fill.sh prints them over the translation 2faf56cb827ebe24… (all of the seat's roots in one cut). By AI agents, Wed Nov 11 2026. No macro, syntax, notation, axiom, sorry.
-/
import Derived.Test.YtnakpbagaopelaaDoorChecked
import GoSem.Claim
import GoSem.ClaimJoined
import GoSem.ClaimMapViews
import Derived.JoinedTies
import Derived.KernelRfl
namespace Go.Proofs.YtnakpbagaopelaaDoor
/- THE CELL 'sum', in the pinned program and in every row, IS THE sha256 OF THE DUMP (.gsa) THAT YtnakpbagaopelaaDoorProg.lean LOADS. Nothing in Lean hashes anything: it is a label: what it is worth is what the hold of that sum in a sandbox is worth. -/
noncomputable def Tryd.pinned : Pinned := { name := "ytnakpbagaopelaadoor", sum := "2faf56cb827ebe240ec54025d4d4f3e6079d2cd0fc285eedc344c45ed20d3a75", checked := Tryd.checked }
namespace Rows
def none {H : Type} : Left H := { results := [], args := [] }

/- WHAT THE LISTED PACKAGE-LEVEL VARIABLES READ AS WHEN THE CALL BEGINS. Each datum BY PROGRAM (the guide's laid-datum.mjs) off the statement by which the dump's own 'gosem.cut.vars' lays the variable. In a bare row this is a premise. The card (YtnakpbagaopelaaDoorCards.lean) ties it to the program's text. -/
def laid_loop_example_g00590_impl_namesTable {H : Type} : DataW H := .agg [.lit (.int .i64 0), .lit (.int .i64 0), .lit (.int .i64 1), .lit (.int .i64 1), .lit (.int .i64 2), .lit (.int .i64 2), .lit (.int .i64 1), .lit (.int .i64 2), .lit (.int .i64 1), .lit (.int .i64 1), .lit (.int .i64 1), .lit (.int .i64 2), .lit (.int .i64 2)]
def laid_loop_example_g00590_impl_stmtSigns {H : Type} : DataW H := .agg [.lit (.string [61, 61]), .lit (.string [33, 61]), .lit (.string [61])]

/-- 'laws.FnStmtText': WHATEVER THE INPUT: true; the input reads as it did. -/
def fnStmtTextSpec : ChangeSpec := { name := "fnStmtText", vars := ["loop.example/g00590/impl.namesTable", "loop.example/g00590/impl.stmtSigns"], fn := fun _ => fun
  | [d, g1, g2] => { results := [.lit (.bool true)], args := [d], vars := [g1, g2] }
  | _ => none }
def fnStmtTextRow : OpenClaim := { program := "ytnakpbagaopelaadoor", sum := "2faf56cb827ebe240ec54025d4d4f3e6079d2cd0fc285eedc344c45ed20d3a75", func := "loop.example/g00590/laws.FnStmtText", spec := "fnStmtText", inPlace := ["internal/bytealg.IndexByteString", "internal/bytealg.IndexString"], named := ["loop.example/g00590/impl.namesTable", "loop.example/g00590/impl.stmtSigns", "internal/bytealg.MaxLen"], apart := false, laid := [("loop.example/g00590/impl.namesTable", laid_loop_example_g00590_impl_namesTable), ("loop.example/g00590/impl.stmtSigns", laid_loop_example_g00590_impl_stmtSigns)] }
def FnStmtTextSaid : Prop := fnStmtTextRow.holds Tryd.pinned (OpenSpec.ofChange fnStmtTextSpec)

/-- ITS FALSE NEIGHBOUR: 'it returns false'. Refute it at one input. -/
def fnStmtTextWrong : ChangeSpec := { name := "fnStmtText", vars := ["loop.example/g00590/impl.namesTable", "loop.example/g00590/impl.stmtSigns"], fn := fun _ => fun
  | [d, g1, g2] => { results := [.lit (.bool false)], args := [d], vars := [g1, g2] }
  | _ => none }
def FnStmtTextWrongFalsely : Prop := fnStmtTextRow.holds Tryd.pinned (OpenSpec.ofChange fnStmtTextWrong)

/-- 'laws.FnExactStmtText': WHATEVER THE INPUT: true; the input reads as it did. -/
def fnExactStmtTextSpec : ChangeSpec := { name := "fnExactStmtText", vars := ["loop.example/g00590/impl.namesTable"], fn := fun _ => fun
  | [d, g1] => { results := [.lit (.bool true)], args := [d], vars := [g1] }
  | _ => none }
def fnExactStmtTextRow : OpenClaim := { program := "ytnakpbagaopelaadoor", sum := "2faf56cb827ebe240ec54025d4d4f3e6079d2cd0fc285eedc344c45ed20d3a75", func := "loop.example/g00590/laws.FnExactStmtText", spec := "fnExactStmtText", named := ["loop.example/g00590/impl.namesTable"], apart := false, laid := [("loop.example/g00590/impl.namesTable", laid_loop_example_g00590_impl_namesTable)] }
def FnExactStmtTextSaid : Prop := fnExactStmtTextRow.holds Tryd.pinned (OpenSpec.ofChange fnExactStmtTextSpec)

/-- ITS FALSE NEIGHBOUR: 'it returns false'. Refute it at one input. -/
def fnExactStmtTextWrong : ChangeSpec := { name := "fnExactStmtText", vars := ["loop.example/g00590/impl.namesTable"], fn := fun _ => fun
  | [d, g1] => { results := [.lit (.bool false)], args := [d], vars := [g1] }
  | _ => none }
def FnExactStmtTextWrongFalsely : Prop := fnExactStmtTextRow.holds Tryd.pinned (OpenSpec.ofChange fnExactStmtTextWrong)

/-- 'laws.FnExactParseStmt': WHATEVER THE INPUT: true; the input reads as it did. -/
def fnExactParseStmtSpec : ChangeSpec := { name := "fnExactParseStmt", vars := ["loop.example/g00590/impl.stmtSigns", "loop.example/g00590/impl.namesTable"], fn := fun _ => fun
  | [d, g1, g2] => { results := [.lit (.bool true)], args := [d], vars := [g1, g2] }
  | _ => none }
def fnExactParseStmtRow : OpenClaim := { program := "ytnakpbagaopelaadoor", sum := "2faf56cb827ebe240ec54025d4d4f3e6079d2cd0fc285eedc344c45ed20d3a75", func := "loop.example/g00590/laws.FnExactParseStmt", spec := "fnExactParseStmt", inPlace := ["internal/bytealg.IndexByteString", "internal/bytealg.IndexString"], named := ["loop.example/g00590/impl.stmtSigns", "internal/bytealg.MaxLen", "loop.example/g00590/impl.namesTable"], apart := false, laid := [("loop.example/g00590/impl.namesTable", laid_loop_example_g00590_impl_namesTable), ("loop.example/g00590/impl.stmtSigns", laid_loop_example_g00590_impl_stmtSigns)] }
def FnExactParseStmtSaid : Prop := fnExactParseStmtRow.holds Tryd.pinned (OpenSpec.ofChange fnExactParseStmtSpec)

/-- ITS FALSE NEIGHBOUR: 'it returns false'. Refute it at one input. -/
def fnExactParseStmtWrong : ChangeSpec := { name := "fnExactParseStmt", vars := ["loop.example/g00590/impl.stmtSigns", "loop.example/g00590/impl.namesTable"], fn := fun _ => fun
  | [d, g1, g2] => { results := [.lit (.bool false)], args := [d], vars := [g1, g2] }
  | _ => none }
def FnExactParseStmtWrongFalsely : Prop := fnExactParseStmtRow.holds Tryd.pinned (OpenSpec.ofChange fnExactParseStmtWrong)

/- THE SECOND FORM. 'bulk': how many values and letters a reading holds, each counted each time it is reached (what is shared counts as often as it is met; a slice's spare places count too). A statement '..UptoSaid' is the law's where the arguments, and the package variables that the reading takes, are together of bulk at most 1048576: NARROWER than '..Said'. Prove '..Said' where nothing that the law and all that it calls make is longer than what came in: it says more and counts as full. Else prove '..UptoSaid'. A law counts once. -/
mutual
def uptoBulk {H : Type} : DataW H → Nat
  | .lit (.string bytes) => bytes.length + 1
  | .lit _ => 1
  | .nil => 1
  | .ptr d => uptoBulk d + 1
  | .slice elems spare => uptoBulkAll elems + uptoBulkAll spare + 1
  | .agg parts => uptoBulkAll parts + 1
  | .iface _ d => uptoBulk d + 1
  | .map entries => uptoBulkEntries entries + 1
  | .held _ => 1
def uptoBulkAll {H : Type} : List (DataW H) → Nat
  | [] => 0
  | d :: r => uptoBulk d + uptoBulkAll r
def uptoBulkEntries {H : Type} : List (Lit × DataW H) → Nat
  | [] => 0
  | x :: r => uptoBulkEntry x + uptoBulkEntries r
def uptoBulkEntry {H : Type} : Lit × DataW H → Nat
  | (.string bytes, d) => bytes.length + uptoBulk d + 1
  | (_, d) => uptoBulk d + 1
 end
def uptoSmall : (H : Type) → List (DataW H) → Bool := fun _ ds => decide (uptoBulkAll ds ≤ 1048576)
def OpenSpec.upto (s : _root_.Go.ChangeSpec) : _root_.Go.OpenSpec := { _root_.Go.OpenSpec.ofChange s with cond := some uptoSmall }

/-- 'laws.FnStmtText', WHERE WHAT IT READS IS OF BULK AT MOST 1048576: true; the input reads as it did. -/
def fnStmtTextUptoRow : OpenClaim := { program := "ytnakpbagaopelaadoor", sum := "2faf56cb827ebe240ec54025d4d4f3e6079d2cd0fc285eedc344c45ed20d3a75", func := "loop.example/g00590/laws.FnStmtText", spec := "fnStmtText", inPlace := ["internal/bytealg.IndexByteString", "internal/bytealg.IndexString"], named := ["loop.example/g00590/impl.namesTable", "loop.example/g00590/impl.stmtSigns", "internal/bytealg.MaxLen"], apart := false, laid := [("loop.example/g00590/impl.namesTable", laid_loop_example_g00590_impl_namesTable), ("loop.example/g00590/impl.stmtSigns", laid_loop_example_g00590_impl_stmtSigns)], narrowed := true }
def FnStmtTextUptoSaid : Prop := fnStmtTextUptoRow.holds Tryd.pinned (OpenSpec.upto fnStmtTextSpec)

/-- 'laws.FnExactStmtText', WHERE WHAT IT READS IS OF BULK AT MOST 1048576: true; the input reads as it did. -/
def fnExactStmtTextUptoRow : OpenClaim := { program := "ytnakpbagaopelaadoor", sum := "2faf56cb827ebe240ec54025d4d4f3e6079d2cd0fc285eedc344c45ed20d3a75", func := "loop.example/g00590/laws.FnExactStmtText", spec := "fnExactStmtText", named := ["loop.example/g00590/impl.namesTable"], apart := false, laid := [("loop.example/g00590/impl.namesTable", laid_loop_example_g00590_impl_namesTable)], narrowed := true }
def FnExactStmtTextUptoSaid : Prop := fnExactStmtTextUptoRow.holds Tryd.pinned (OpenSpec.upto fnExactStmtTextSpec)

/-- 'laws.FnExactParseStmt', WHERE WHAT IT READS IS OF BULK AT MOST 1048576: true; the input reads as it did. -/
def fnExactParseStmtUptoRow : OpenClaim := { program := "ytnakpbagaopelaadoor", sum := "2faf56cb827ebe240ec54025d4d4f3e6079d2cd0fc285eedc344c45ed20d3a75", func := "loop.example/g00590/laws.FnExactParseStmt", spec := "fnExactParseStmt", inPlace := ["internal/bytealg.IndexByteString", "internal/bytealg.IndexString"], named := ["loop.example/g00590/impl.stmtSigns", "internal/bytealg.MaxLen", "loop.example/g00590/impl.namesTable"], apart := false, laid := [("loop.example/g00590/impl.namesTable", laid_loop_example_g00590_impl_namesTable), ("loop.example/g00590/impl.stmtSigns", laid_loop_example_g00590_impl_stmtSigns)], narrowed := true }
def FnExactParseStmtUptoSaid : Prop := fnExactParseStmtUptoRow.holds Tryd.pinned (OpenSpec.upto fnExactParseStmtSpec)

end Rows
end Go.Proofs.YtnakpbagaopelaaDoor
