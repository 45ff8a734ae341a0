/-
  NARROWER THAN 'FOR EVERY INPUT', by the rows' own cells (each row's printed sentence says how): FnStmts: laid · FnExactNamesOf: laid · FnExactIsStmt: laid.
  DERIVED. THE GIVEN ROWS OF THIS SEAT. 3 by the template 'for every input the law returns true; each argument reads behind the call as it read before'; 0 by the template 'total and deterministic' (their statements: YtiocpaoelahcaaaDoorTotals.lean).
  GIVEN WITH THE SEED: the statements are not yours to turn. If you find one false, say at which input.
  Laid BY PROGRAM, IN A SANDBOX (cutbox-rows.mjs): the forced cells as the released guide's own fill.sh prints them over the translation ba819d205ea49544… (all of the seat's roots in one cut). By AI agents, Wed Nov 11 2026. No macro, syntax, notation, axiom, sorry.
-/
import Derived.Test.YtiocpaoelahcaaaDoorChecked
import GoSem.Claim
import GoSem.ClaimJoined
import GoSem.ClaimMapViews
import Derived.JoinedTies
import Derived.KernelRfl
namespace Go.Proofs.YtiocpaoelahcaaaDoor
/- THE CELL 'sum', in the pinned program and in every row, IS THE sha256 OF THE DUMP (.gsa) THAT YtiocpaoelahcaaaDoorProg.lean LOADS. Nothing in Lean hashes anything: it is a label: what it is worth is what the hold of that sum in a sandbox is worth. -/
noncomputable def Tryd.pinned : Pinned := { name := "ytiocpaoelahcaaadoor", sum := "ba819d205ea495442186fcab22dc8bffde1f8155b687acd4e1a6b219b78db3e3", checked := Tryd.checked }
namespace Rows
def none {H : Type} : Left H := { results := [], args := [] }

/- WHAT THE LISTED PACKAGE-LEVEL VARIABLES READ AS WHEN THE CALL BEGINS. Each datum BY PROGRAM (the guide's laid-datum.mjs) off the statement by which the dump's own 'gosem.cut.vars' lays the variable. In a bare row this is a premise. The card (YtiocpaoelahcaaaDoorCards.lean) ties it to the program's text. -/
def laid_loop_example_g00590_impl_namesTable {H : Type} : DataW H := .agg [.lit (.int .i64 0), .lit (.int .i64 0), .lit (.int .i64 1), .lit (.int .i64 1), .lit (.int .i64 2), .lit (.int .i64 2), .lit (.int .i64 1), .lit (.int .i64 2), .lit (.int .i64 1), .lit (.int .i64 1), .lit (.int .i64 1), .lit (.int .i64 2), .lit (.int .i64 2)]

/-- 'laws.FnStmts': WHATEVER THE INPUT: true; the input reads as it did. -/
def fnStmtsSpec : ChangeSpec := { name := "fnStmts", vars := ["loop.example/g00590/impl.namesTable"], fn := fun _ => fun
  | [d, g1] => { results := [.lit (.bool true)], args := [d], vars := [g1] }
  | _ => none }
def fnStmtsRow : OpenClaim := { program := "ytiocpaoelahcaaadoor", sum := "ba819d205ea495442186fcab22dc8bffde1f8155b687acd4e1a6b219b78db3e3", func := "loop.example/g00590/laws.FnStmts", spec := "fnStmts", named := ["loop.example/g00590/impl.namesTable"], apart := false, laid := [("loop.example/g00590/impl.namesTable", laid_loop_example_g00590_impl_namesTable)] }
def FnStmtsSaid : Prop := fnStmtsRow.holds Tryd.pinned (OpenSpec.ofChange fnStmtsSpec)

/-- ITS FALSE NEIGHBOUR: 'it returns false'. Refute it at one input. -/
def fnStmtsWrong : ChangeSpec := { name := "fnStmts", vars := ["loop.example/g00590/impl.namesTable"], fn := fun _ => fun
  | [d, g1] => { results := [.lit (.bool false)], args := [d], vars := [g1] }
  | _ => none }
def FnStmtsWrongFalsely : Prop := fnStmtsRow.holds Tryd.pinned (OpenSpec.ofChange fnStmtsWrong)

/-- 'laws.FnExactNamesOf': WHATEVER THE INPUT: true; the input reads as it did. -/
def fnExactNamesOfSpec : ChangeSpec := { name := "fnExactNamesOf", vars := ["loop.example/g00590/impl.namesTable"], fn := fun _ => fun
  | [d, g1] => { results := [.lit (.bool true)], args := [d], vars := [g1] }
  | _ => none }
def fnExactNamesOfRow : OpenClaim := { program := "ytiocpaoelahcaaadoor", sum := "ba819d205ea495442186fcab22dc8bffde1f8155b687acd4e1a6b219b78db3e3", func := "loop.example/g00590/laws.FnExactNamesOf", spec := "fnExactNamesOf", named := ["loop.example/g00590/impl.namesTable"], apart := false, laid := [("loop.example/g00590/impl.namesTable", laid_loop_example_g00590_impl_namesTable)] }
def FnExactNamesOfSaid : Prop := fnExactNamesOfRow.holds Tryd.pinned (OpenSpec.ofChange fnExactNamesOfSpec)

/-- ITS FALSE NEIGHBOUR: 'it returns false'. Refute it at one input. -/
def fnExactNamesOfWrong : ChangeSpec := { name := "fnExactNamesOf", vars := ["loop.example/g00590/impl.namesTable"], fn := fun _ => fun
  | [d, g1] => { results := [.lit (.bool false)], args := [d], vars := [g1] }
  | _ => none }
def FnExactNamesOfWrongFalsely : Prop := fnExactNamesOfRow.holds Tryd.pinned (OpenSpec.ofChange fnExactNamesOfWrong)

/-- 'laws.FnExactIsStmt': WHATEVER THE INPUT: true; the input reads as it did. -/
def fnExactIsStmtSpec : ChangeSpec := { name := "fnExactIsStmt", vars := ["loop.example/g00590/impl.namesTable"], fn := fun _ => fun
  | [d1, d2, g1] => { results := [.lit (.bool true)], args := [d1, d2], vars := [g1] }
  | _ => none }
def fnExactIsStmtRow : OpenClaim := { program := "ytiocpaoelahcaaadoor", sum := "ba819d205ea495442186fcab22dc8bffde1f8155b687acd4e1a6b219b78db3e3", func := "loop.example/g00590/laws.FnExactIsStmt", spec := "fnExactIsStmt", named := ["loop.example/g00590/impl.namesTable"], apart := false, laid := [("loop.example/g00590/impl.namesTable", laid_loop_example_g00590_impl_namesTable)] }
def FnExactIsStmtSaid : Prop := fnExactIsStmtRow.holds Tryd.pinned (OpenSpec.ofChange fnExactIsStmtSpec)

/-- ITS FALSE NEIGHBOUR: 'it returns false'. Refute it at one input. -/
def fnExactIsStmtWrong : ChangeSpec := { name := "fnExactIsStmt", vars := ["loop.example/g00590/impl.namesTable"], fn := fun _ => fun
  | [d1, d2, g1] => { results := [.lit (.bool false)], args := [d1, d2], vars := [g1] }
  | _ => none }
def FnExactIsStmtWrongFalsely : Prop := fnExactIsStmtRow.holds Tryd.pinned (OpenSpec.ofChange fnExactIsStmtWrong)

/- THE SECOND FORM. 'bulk': how many values and letters a reading holds, each counted each time it is reached (what is shared counts as often as it is met; a slice's spare places count too). A statement '..UptoSaid' is the law's where the arguments, and the package variables that the reading takes, are together of bulk at most 1048576: NARROWER than '..Said'. Prove '..Said' where nothing that the law and all that it calls make is longer than what came in: it says more and counts as full. Else prove '..UptoSaid'. A law counts once. -/
mutual
def uptoBulk {H : Type} : DataW H → Nat
  | .lit (.string bytes) => bytes.length + 1
  | .lit _ => 1
  | .nil => 1
  | .ptr d => uptoBulk d + 1
  | .slice elems spare => uptoBulkAll elems + uptoBulkAll spare + 1
  | .agg parts => uptoBulkAll parts + 1
  | .iface _ d => uptoBulk d + 1
  | .map entries => uptoBulkEntries entries + 1
  | .held _ => 1
def uptoBulkAll {H : Type} : List (DataW H) → Nat
  | [] => 0
  | d :: r => uptoBulk d + uptoBulkAll r
def uptoBulkEntries {H : Type} : List (Lit × DataW H) → Nat
  | [] => 0
  | x :: r => uptoBulkEntry x + uptoBulkEntries r
def uptoBulkEntry {H : Type} : Lit × DataW H → Nat
  | (.string bytes, d) => bytes.length + uptoBulk d + 1
  | (_, d) => uptoBulk d + 1
 end
def uptoSmall : (H : Type) → List (DataW H) → Bool := fun _ ds => decide (uptoBulkAll ds ≤ 1048576)
def OpenSpec.upto (s : _root_.Go.ChangeSpec) : _root_.Go.OpenSpec := { _root_.Go.OpenSpec.ofChange s with cond := some uptoSmall }

/-- 'laws.FnStmts', WHERE WHAT IT READS IS OF BULK AT MOST 1048576: true; the input reads as it did. -/
def fnStmtsUptoRow : OpenClaim := { program := "ytiocpaoelahcaaadoor", sum := "ba819d205ea495442186fcab22dc8bffde1f8155b687acd4e1a6b219b78db3e3", func := "loop.example/g00590/laws.FnStmts", spec := "fnStmts", named := ["loop.example/g00590/impl.namesTable"], apart := false, laid := [("loop.example/g00590/impl.namesTable", laid_loop_example_g00590_impl_namesTable)], narrowed := true }
def FnStmtsUptoSaid : Prop := fnStmtsUptoRow.holds Tryd.pinned (OpenSpec.upto fnStmtsSpec)

/-- 'laws.FnExactNamesOf', WHERE WHAT IT READS IS OF BULK AT MOST 1048576: true; the input reads as it did. -/
def fnExactNamesOfUptoRow : OpenClaim := { program := "ytiocpaoelahcaaadoor", sum := "ba819d205ea495442186fcab22dc8bffde1f8155b687acd4e1a6b219b78db3e3", func := "loop.example/g00590/laws.FnExactNamesOf", spec := "fnExactNamesOf", named := ["loop.example/g00590/impl.namesTable"], apart := false, laid := [("loop.example/g00590/impl.namesTable", laid_loop_example_g00590_impl_namesTable)], narrowed := true }
def FnExactNamesOfUptoSaid : Prop := fnExactNamesOfUptoRow.holds Tryd.pinned (OpenSpec.upto fnExactNamesOfSpec)

/-- 'laws.FnExactIsStmt', WHERE WHAT IT READS IS OF BULK AT MOST 1048576: true; the input reads as it did. -/
def fnExactIsStmtUptoRow : OpenClaim := { program := "ytiocpaoelahcaaadoor", sum := "ba819d205ea495442186fcab22dc8bffde1f8155b687acd4e1a6b219b78db3e3", func := "loop.example/g00590/laws.FnExactIsStmt", spec := "fnExactIsStmt", named := ["loop.example/g00590/impl.namesTable"], apart := false, laid := [("loop.example/g00590/impl.namesTable", laid_loop_example_g00590_impl_namesTable)], narrowed := true }
def FnExactIsStmtUptoSaid : Prop := fnExactIsStmtUptoRow.holds Tryd.pinned (OpenSpec.upto fnExactIsStmtSpec)

end Rows
end Go.Proofs.YtiocpaoelahcaaaDoor
