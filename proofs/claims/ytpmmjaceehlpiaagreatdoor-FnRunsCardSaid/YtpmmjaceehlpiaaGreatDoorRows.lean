/-
  NARROWER THAN 'FOR EVERY INPUT', by the rows' own cells (each row's printed sentence says how): FnRuns: laid · FnExactFollow: laid · FnExactStatesFrom: laid.
  DERIVED. THE GIVEN ROWS OF THIS SEAT. 3 by the template 'for every input the law returns true; each argument reads behind the call as it read before'; 0 by the template 'total and deterministic' (their statements: YtpmmjaceehlpiaaGreatDoorTotals.lean).
  GIVEN WITH THE SEED: the statements are not yours to turn. If you find one false, say at which input.
  Laid BY PROGRAM, IN A SANDBOX (cutbox-rows.mjs): the forced cells as the released guide's own fill.sh prints them over the translation 733777408d8c9e00… (all of the seat's roots in one cut). By AI agents, Wed Nov 11 2026. No macro, syntax, notation, axiom, sorry.
-/
import Derived.Test.YtpmmjaceehlpiaaGreatDoorChecked
import GoSem.Claim
import GoSem.ClaimJoined
import GoSem.ClaimMapViews
import Derived.JoinedTies
import Derived.KernelRfl
namespace Go.Proofs.YtpmmjaceehlpiaaGreatDoor
/- THE CELL 'sum', in the pinned program and in every row, IS THE sha256 OF THE DUMP (.gsa) THAT YtpmmjaceehlpiaaGreatDoorProg.lean LOADS. Nothing in Lean hashes anything: it is a label: what it is worth is what the hold of that sum in a sandbox is worth. -/
noncomputable def Tryz.pinned : Pinned := { name := "ytpmmjaceehlpiaagreatdoor", sum := "733777408d8c9e0046cd2f51a01de300c79cf3aa70e31cbadfe16151789d2455", checked := Tryz.checked }
namespace Rows
def none {H : Type} : Left H := { results := [], args := [] }

/- WHAT THE LISTED PACKAGE-LEVEL VARIABLES READ AS WHEN THE CALL BEGINS. Each datum BY PROGRAM (the guide's laid-datum.mjs) off the statement by which the dump's own 'gosem.cut.vars' lays the variable. In a bare row this is a premise. The card (YtpmmjaceehlpiaaGreatDoorCards.lean) ties it to the program's text. -/
def laid_loop_example_g00590_impl_namesTable {H : Type} : DataW H := .agg [.lit (.int .i64 0), .lit (.int .i64 0), .lit (.int .i64 1), .lit (.int .i64 1), .lit (.int .i64 2), .lit (.int .i64 2), .lit (.int .i64 1), .lit (.int .i64 2), .lit (.int .i64 1), .lit (.int .i64 1), .lit (.int .i64 1), .lit (.int .i64 2), .lit (.int .i64 2)]

/-- 'laws.FnRuns': WHATEVER THE INPUT: true; the input reads as it did. -/
def fnRunsSpec : ChangeSpec := { name := "fnRuns", vars := ["loop.example/g00590/impl.namesTable"], fn := fun _ => fun
  | [d, g1] => { results := [.lit (.bool true)], args := [d], vars := [g1] }
  | _ => none }
def fnRunsRow : OpenClaim := { program := "ytpmmjaceehlpiaagreatdoor", sum := "733777408d8c9e0046cd2f51a01de300c79cf3aa70e31cbadfe16151789d2455", func := "loop.example/g00590/laws.FnRuns", spec := "fnRuns", unfollowed := true, recurses := true, named := ["loop.example/g00590/impl.namesTable"], plainKeys := false, apart := false, laid := [("loop.example/g00590/impl.namesTable", laid_loop_example_g00590_impl_namesTable)] }
def FnRunsSaid : Prop := fnRunsRow.holds Tryz.pinned (OpenSpec.ofChange fnRunsSpec)

/-- ITS FALSE NEIGHBOUR: 'it returns false'. Refute it at one input. -/
def fnRunsWrong : ChangeSpec := { name := "fnRuns", vars := ["loop.example/g00590/impl.namesTable"], fn := fun _ => fun
  | [d, g1] => { results := [.lit (.bool false)], args := [d], vars := [g1] }
  | _ => none }
def FnRunsWrongFalsely : Prop := fnRunsRow.holds Tryz.pinned (OpenSpec.ofChange fnRunsWrong)

/-- 'laws.FnExactFollow': WHATEVER THE INPUT: true; the input reads as it did. -/
def fnExactFollowSpec : ChangeSpec := { name := "fnExactFollow", vars := ["loop.example/g00590/impl.namesTable"], fn := fun _ => fun
  | [d1, d2, d3, g1] => { results := [.lit (.bool true)], args := [d1, d2, d3], vars := [g1] }
  | _ => none }
def fnExactFollowRow : OpenClaim := { program := "ytpmmjaceehlpiaagreatdoor", sum := "733777408d8c9e0046cd2f51a01de300c79cf3aa70e31cbadfe16151789d2455", func := "loop.example/g00590/laws.FnExactFollow", spec := "fnExactFollow", unfollowed := true, recurses := true, named := ["loop.example/g00590/impl.namesTable"], plainKeys := false, apart := false, laid := [("loop.example/g00590/impl.namesTable", laid_loop_example_g00590_impl_namesTable)] }
def FnExactFollowSaid : Prop := fnExactFollowRow.holds Tryz.pinned (OpenSpec.ofChange fnExactFollowSpec)

/-- ITS FALSE NEIGHBOUR: 'it returns false'. Refute it at one input. -/
def fnExactFollowWrong : ChangeSpec := { name := "fnExactFollow", vars := ["loop.example/g00590/impl.namesTable"], fn := fun _ => fun
  | [d1, d2, d3, g1] => { results := [.lit (.bool false)], args := [d1, d2, d3], vars := [g1] }
  | _ => none }
def FnExactFollowWrongFalsely : Prop := fnExactFollowRow.holds Tryz.pinned (OpenSpec.ofChange fnExactFollowWrong)

/-- 'laws.FnExactStatesFrom': WHATEVER THE INPUT: true; the input reads as it did. -/
def fnExactStatesFromSpec : ChangeSpec := { name := "fnExactStatesFrom", vars := ["loop.example/g00590/impl.namesTable"], fn := fun _ => fun
  | [d1, d2, g1] => { results := [.lit (.bool true)], args := [d1, d2], vars := [g1] }
  | _ => none }
def fnExactStatesFromRow : OpenClaim := { program := "ytpmmjaceehlpiaagreatdoor", sum := "733777408d8c9e0046cd2f51a01de300c79cf3aa70e31cbadfe16151789d2455", func := "loop.example/g00590/laws.FnExactStatesFrom", spec := "fnExactStatesFrom", unfollowed := true, recurses := true, named := ["loop.example/g00590/impl.namesTable"], plainKeys := false, apart := false, laid := [("loop.example/g00590/impl.namesTable", laid_loop_example_g00590_impl_namesTable)] }
def FnExactStatesFromSaid : Prop := fnExactStatesFromRow.holds Tryz.pinned (OpenSpec.ofChange fnExactStatesFromSpec)

/-- ITS FALSE NEIGHBOUR: 'it returns false'. Refute it at one input. -/
def fnExactStatesFromWrong : ChangeSpec := { name := "fnExactStatesFrom", vars := ["loop.example/g00590/impl.namesTable"], fn := fun _ => fun
  | [d1, d2, g1] => { results := [.lit (.bool false)], args := [d1, d2], vars := [g1] }
  | _ => none }
def FnExactStatesFromWrongFalsely : Prop := fnExactStatesFromRow.holds Tryz.pinned (OpenSpec.ofChange fnExactStatesFromWrong)

/- THE SECOND FORM. 'bulk': how many values and letters a reading holds, each counted each time it is reached (what is shared counts as often as it is met; a slice's spare places count too). A statement '..UptoSaid' is the law's where the arguments, and the package variables that the reading takes, are together of bulk at most 1048576: NARROWER than '..Said'. Prove '..Said' where nothing that the law and all that it calls make is longer than what came in: it says more and counts as full. Else prove '..UptoSaid'. A law counts once. -/
mutual
def uptoBulk {H : Type} : DataW H → Nat
  | .lit (.string bytes) => bytes.length + 1
  | .lit _ => 1
  | .nil => 1
  | .ptr d => uptoBulk d + 1
  | .slice elems spare => uptoBulkAll elems + uptoBulkAll spare + 1
  | .agg parts => uptoBulkAll parts + 1
  | .iface _ d => uptoBulk d + 1
  | .map entries => uptoBulkEntries entries + 1
  | .held _ => 1
def uptoBulkAll {H : Type} : List (DataW H) → Nat
  | [] => 0
  | d :: r => uptoBulk d + uptoBulkAll r
def uptoBulkEntries {H : Type} : List (Lit × DataW H) → Nat
  | [] => 0
  | x :: r => uptoBulkEntry x + uptoBulkEntries r
def uptoBulkEntry {H : Type} : Lit × DataW H → Nat
  | (.string bytes, d) => bytes.length + uptoBulk d + 1
  | (_, d) => uptoBulk d + 1
 end
def uptoSmall : (H : Type) → List (DataW H) → Bool := fun _ ds => decide (uptoBulkAll ds ≤ 1048576)
def OpenSpec.upto (s : _root_.Go.ChangeSpec) : _root_.Go.OpenSpec := { _root_.Go.OpenSpec.ofChange s with cond := some uptoSmall }

/-- 'laws.FnRuns', WHERE WHAT IT READS IS OF BULK AT MOST 1048576: true; the input reads as it did. -/
def fnRunsUptoRow : OpenClaim := { program := "ytpmmjaceehlpiaagreatdoor", sum := "733777408d8c9e0046cd2f51a01de300c79cf3aa70e31cbadfe16151789d2455", func := "loop.example/g00590/laws.FnRuns", spec := "fnRuns", unfollowed := true, recurses := true, named := ["loop.example/g00590/impl.namesTable"], plainKeys := false, apart := false, laid := [("loop.example/g00590/impl.namesTable", laid_loop_example_g00590_impl_namesTable)], narrowed := true }
def FnRunsUptoSaid : Prop := fnRunsUptoRow.holds Tryz.pinned (OpenSpec.upto fnRunsSpec)

/-- 'laws.FnExactFollow', WHERE WHAT IT READS IS OF BULK AT MOST 1048576: true; the input reads as it did. -/
def fnExactFollowUptoRow : OpenClaim := { program := "ytpmmjaceehlpiaagreatdoor", sum := "733777408d8c9e0046cd2f51a01de300c79cf3aa70e31cbadfe16151789d2455", func := "loop.example/g00590/laws.FnExactFollow", spec := "fnExactFollow", unfollowed := true, recurses := true, named := ["loop.example/g00590/impl.namesTable"], plainKeys := false, apart := false, laid := [("loop.example/g00590/impl.namesTable", laid_loop_example_g00590_impl_namesTable)], narrowed := true }
def FnExactFollowUptoSaid : Prop := fnExactFollowUptoRow.holds Tryz.pinned (OpenSpec.upto fnExactFollowSpec)

/-- 'laws.FnExactStatesFrom', WHERE WHAT IT READS IS OF BULK AT MOST 1048576: true; the input reads as it did. -/
def fnExactStatesFromUptoRow : OpenClaim := { program := "ytpmmjaceehlpiaagreatdoor", sum := "733777408d8c9e0046cd2f51a01de300c79cf3aa70e31cbadfe16151789d2455", func := "loop.example/g00590/laws.FnExactStatesFrom", spec := "fnExactStatesFrom", unfollowed := true, recurses := true, named := ["loop.example/g00590/impl.namesTable"], plainKeys := false, apart := false, laid := [("loop.example/g00590/impl.namesTable", laid_loop_example_g00590_impl_namesTable)], narrowed := true }
def FnExactStatesFromUptoSaid : Prop := fnExactStatesFromUptoRow.holds Tryz.pinned (OpenSpec.upto fnExactStatesFromSpec)

end Rows
end Go.Proofs.YtpmmjaceehlpiaaGreatDoor
