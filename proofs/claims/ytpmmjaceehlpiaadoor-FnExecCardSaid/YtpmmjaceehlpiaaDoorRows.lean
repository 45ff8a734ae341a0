/-
  NARROWER THAN 'FOR EVERY INPUT', by the rows' own cells (each row's printed sentence says how): FnExec: laid · FnExactExec: laid.
  DERIVED. THE GIVEN ROWS OF THIS SEAT. 2 by the template 'for every input the law returns true; each argument reads behind the call as it read before'; 0 by the template 'total and deterministic' (their statements: YtpmmjaceehlpiaaDoorTotals.lean).
  GIVEN WITH THE SEED: the statements are not yours to turn. If you find one false, say at which input.
  Laid BY PROGRAM, IN A SANDBOX (cutbox-rows.mjs): the forced cells as the released guide's own fill.sh prints them over the translation 9adaaeff52b9db35… (all of the seat's roots in one cut). By AI agents, Wed Nov 11 2026. No macro, syntax, notation, axiom, sorry.
-/
import Derived.Test.YtpmmjaceehlpiaaDoorChecked
import GoSem.Claim
import GoSem.ClaimJoined
import GoSem.ClaimMapViews
import Derived.JoinedTies
import Derived.KernelRfl
namespace Go.Proofs.YtpmmjaceehlpiaaDoor
/- THE CELL 'sum', in the pinned program and in every row, IS THE sha256 OF THE DUMP (.gsa) THAT YtpmmjaceehlpiaaDoorProg.lean LOADS. Nothing in Lean hashes anything: it is a label: what it is worth is what the hold of that sum in a sandbox is worth. -/
noncomputable def Tryd.pinned : Pinned := { name := "ytpmmjaceehlpiaadoor", sum := "9adaaeff52b9db35dcaa3598d87650243224c7196edefc9dbe1980c57e79a132", checked := Tryd.checked }
namespace Rows
def none {H : Type} : Left H := { results := [], args := [] }

/- WHAT THE LISTED PACKAGE-LEVEL VARIABLES READ AS WHEN THE CALL BEGINS. Each datum BY PROGRAM (the guide's laid-datum.mjs) off the statement by which the dump's own 'gosem.cut.vars' lays the variable. In a bare row this is a premise. The card (YtpmmjaceehlpiaaDoorCards.lean) ties it to the program's text. -/
def laid_loop_example_g00590_impl_namesTable {H : Type} : DataW H := .agg [.lit (.int .i64 0), .lit (.int .i64 0), .lit (.int .i64 1), .lit (.int .i64 1), .lit (.int .i64 2), .lit (.int .i64 2), .lit (.int .i64 1), .lit (.int .i64 2), .lit (.int .i64 1), .lit (.int .i64 1), .lit (.int .i64 1), .lit (.int .i64 2), .lit (.int .i64 2)]
def laid_loop_example_g00590_impl_codeNames {H : Type} : DataW H := .agg [.lit (.string [111, 107]), .lit (.string [98, 108, 111, 99, 107, 101, 100]), .lit (.string [110, 117, 108, 108]), .lit (.string [99, 121, 99, 108, 101]), .lit (.string [108, 101, 97, 107]), .lit (.string [100, 97, 110, 103, 108, 105, 110, 103]), .lit (.string [102, 117, 108, 108]), .lit (.string [98, 97, 100])]

/-- 'laws.FnExec': WHATEVER THE INPUT: true; the input reads as it did. -/
def fnExecSpec : ChangeSpec := { name := "fnExec", vars := ["loop.example/g00590/impl.namesTable", "loop.example/g00590/impl.codeNames"], fn := fun _ => fun
  | [d, g1, g2] => { results := [.lit (.bool true)], args := [d], vars := [g1, g2] }
  | _ => none }
def fnExecRow : OpenClaim := { program := "ytpmmjaceehlpiaadoor", sum := "9adaaeff52b9db35dcaa3598d87650243224c7196edefc9dbe1980c57e79a132", func := "loop.example/g00590/laws.FnExec", spec := "fnExec", unfollowed := true, recurses := true, named := ["loop.example/g00590/impl.namesTable", "loop.example/g00590/impl.codeNames"], apart := false, laid := [("loop.example/g00590/impl.namesTable", laid_loop_example_g00590_impl_namesTable), ("loop.example/g00590/impl.codeNames", laid_loop_example_g00590_impl_codeNames)] }
def FnExecSaid : Prop := fnExecRow.holds Tryd.pinned (OpenSpec.ofChange fnExecSpec)

/-- ITS FALSE NEIGHBOUR: 'it returns false'. Refute it at one input. -/
def fnExecWrong : ChangeSpec := { name := "fnExec", vars := ["loop.example/g00590/impl.namesTable", "loop.example/g00590/impl.codeNames"], fn := fun _ => fun
  | [d, g1, g2] => { results := [.lit (.bool false)], args := [d], vars := [g1, g2] }
  | _ => none }
def FnExecWrongFalsely : Prop := fnExecRow.holds Tryd.pinned (OpenSpec.ofChange fnExecWrong)

/-- 'laws.FnExactExec': WHATEVER THE INPUT: true; the input reads as it did. -/
def fnExactExecSpec : ChangeSpec := { name := "fnExactExec", vars := ["loop.example/g00590/impl.namesTable"], fn := fun _ => fun
  | [d1, d2, d3, g1] => { results := [.lit (.bool true)], args := [d1, d2, d3], vars := [g1] }
  | _ => none }
def fnExactExecRow : OpenClaim := { program := "ytpmmjaceehlpiaadoor", sum := "9adaaeff52b9db35dcaa3598d87650243224c7196edefc9dbe1980c57e79a132", func := "loop.example/g00590/laws.FnExactExec", spec := "fnExactExec", unfollowed := true, recurses := true, named := ["loop.example/g00590/impl.namesTable"], apart := false, laid := [("loop.example/g00590/impl.namesTable", laid_loop_example_g00590_impl_namesTable)] }
def FnExactExecSaid : Prop := fnExactExecRow.holds Tryd.pinned (OpenSpec.ofChange fnExactExecSpec)

/-- ITS FALSE NEIGHBOUR: 'it returns false'. Refute it at one input. -/
def fnExactExecWrong : ChangeSpec := { name := "fnExactExec", vars := ["loop.example/g00590/impl.namesTable"], fn := fun _ => fun
  | [d1, d2, d3, g1] => { results := [.lit (.bool false)], args := [d1, d2, d3], vars := [g1] }
  | _ => none }
def FnExactExecWrongFalsely : Prop := fnExactExecRow.holds Tryd.pinned (OpenSpec.ofChange fnExactExecWrong)

/- THE SECOND FORM. 'bulk': how many values and letters a reading holds, each counted each time it is reached (what is shared counts as often as it is met; a slice's spare places count too). A statement '..UptoSaid' is the law's where the arguments, and the package variables that the reading takes, are together of bulk at most 1048576: NARROWER than '..Said'. Prove '..Said' where nothing that the law and all that it calls make is longer than what came in: it says more and counts as full. Else prove '..UptoSaid'. A law counts once. -/
mutual
def uptoBulk {H : Type} : DataW H → Nat
  | .lit (.string bytes) => bytes.length + 1
  | .lit _ => 1
  | .nil => 1
  | .ptr d => uptoBulk d + 1
  | .slice elems spare => uptoBulkAll elems + uptoBulkAll spare + 1
  | .agg parts => uptoBulkAll parts + 1
  | .iface _ d => uptoBulk d + 1
  | .map entries => uptoBulkEntries entries + 1
  | .held _ => 1
def uptoBulkAll {H : Type} : List (DataW H) → Nat
  | [] => 0
  | d :: r => uptoBulk d + uptoBulkAll r
def uptoBulkEntries {H : Type} : List (Lit × DataW H) → Nat
  | [] => 0
  | x :: r => uptoBulkEntry x + uptoBulkEntries r
def uptoBulkEntry {H : Type} : Lit × DataW H → Nat
  | (.string bytes, d) => bytes.length + uptoBulk d + 1
  | (_, d) => uptoBulk d + 1
 end
def uptoSmall : (H : Type) → List (DataW H) → Bool := fun _ ds => decide (uptoBulkAll ds ≤ 1048576)
def OpenSpec.upto (s : _root_.Go.ChangeSpec) : _root_.Go.OpenSpec := { _root_.Go.OpenSpec.ofChange s with cond := some uptoSmall }

/-- 'laws.FnExec', WHERE WHAT IT READS IS OF BULK AT MOST 1048576: true; the input reads as it did. -/
def fnExecUptoRow : OpenClaim := { program := "ytpmmjaceehlpiaadoor", sum := "9adaaeff52b9db35dcaa3598d87650243224c7196edefc9dbe1980c57e79a132", func := "loop.example/g00590/laws.FnExec", spec := "fnExec", unfollowed := true, recurses := true, named := ["loop.example/g00590/impl.namesTable", "loop.example/g00590/impl.codeNames"], apart := false, laid := [("loop.example/g00590/impl.namesTable", laid_loop_example_g00590_impl_namesTable), ("loop.example/g00590/impl.codeNames", laid_loop_example_g00590_impl_codeNames)], narrowed := true }
def FnExecUptoSaid : Prop := fnExecUptoRow.holds Tryd.pinned (OpenSpec.upto fnExecSpec)

/-- 'laws.FnExactExec', WHERE WHAT IT READS IS OF BULK AT MOST 1048576: true; the input reads as it did. -/
def fnExactExecUptoRow : OpenClaim := { program := "ytpmmjaceehlpiaadoor", sum := "9adaaeff52b9db35dcaa3598d87650243224c7196edefc9dbe1980c57e79a132", func := "loop.example/g00590/laws.FnExactExec", spec := "fnExactExec", unfollowed := true, recurses := true, named := ["loop.example/g00590/impl.namesTable"], apart := false, laid := [("loop.example/g00590/impl.namesTable", laid_loop_example_g00590_impl_namesTable)], narrowed := true }
def FnExactExecUptoSaid : Prop := fnExactExecUptoRow.holds Tryd.pinned (OpenSpec.upto fnExactExecSpec)

end Rows
end Go.Proofs.YtpmmjaceehlpiaaDoor
