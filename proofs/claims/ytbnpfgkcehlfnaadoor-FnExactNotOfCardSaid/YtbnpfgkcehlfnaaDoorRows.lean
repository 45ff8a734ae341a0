/-
  NARROWER THAN 'FOR EVERY INPUT', by the rows' own cells (each row's printed sentence says how): FnKleene: laid · FnExactNotOf: laid · FnExactAndOf: laid · FnExactOrOf: laid · FnExactJoinOf: laid · FnExactIsWithin: laid.
  DERIVED. THE GIVEN ROWS OF THIS SEAT. 6 by the template 'for every input the law returns true; each argument reads behind the call as it read before'; 0 by the template 'total and deterministic' (their statements: YtbnpfgkcehlfnaaDoorTotals.lean).
  GIVEN WITH THE SEED: the statements are not yours to turn. If you find one false, say at which input.
  Laid BY PROGRAM, IN A SANDBOX (cutbox-rows.mjs): the forced cells as the released guide's own fill.sh prints them over the translation 0550bfebd8de6236… (all of the seat's roots in one cut). By AI agents, Wed Nov 11 2026. No macro, syntax, notation, axiom, sorry.
-/
import Derived.Test.YtbnpfgkcehlfnaaDoorChecked
import GoSem.Claim
import GoSem.ClaimJoined
import GoSem.ClaimMapViews
import Derived.JoinedTies
import Derived.KernelRfl
namespace Go.Proofs.YtbnpfgkcehlfnaaDoor
/- THE CELL 'sum', in the pinned program and in every row, IS THE sha256 OF THE DUMP (.gsa) THAT YtbnpfgkcehlfnaaDoorProg.lean LOADS. Nothing in Lean hashes anything: it is a label: what it is worth is what the hold of that sum in a sandbox is worth. -/
noncomputable def Tryd.pinned : Pinned := { name := "ytbnpfgkcehlfnaadoor", sum := "0550bfebd8de62365b6de00decc0c2161ec696b38023e12ffd7fb2802fd13247", checked := Tryd.checked }
namespace Rows
def none {H : Type} : Left H := { results := [], args := [] }

/- WHAT THE LISTED PACKAGE-LEVEL VARIABLES READ AS WHEN THE CALL BEGINS. Each datum BY PROGRAM (the guide's laid-datum.mjs) off the statement by which the dump's own 'gosem.cut.vars' lays the variable. In a bare row this is a premise. The card (YtbnpfgkcehlfnaaDoorCards.lean) ties it to the program's text. -/
def laid_loop_example_g00590_impl_notRow {H : Type} : DataW H := .agg [.lit (.int .i64 2), .lit (.int .i64 1), .lit (.int .i64 0)]
def laid_loop_example_g00590_impl_andTable {H : Type} : DataW H := .agg [.agg [.lit (.int .i64 0), .lit (.int .i64 0), .lit (.int .i64 0)], .agg [.lit (.int .i64 0), .lit (.int .i64 1), .lit (.int .i64 1)], .agg [.lit (.int .i64 0), .lit (.int .i64 1), .lit (.int .i64 2)]]
def laid_loop_example_g00590_impl_orTable {H : Type} : DataW H := .agg [.agg [.lit (.int .i64 0), .lit (.int .i64 1), .lit (.int .i64 2)], .agg [.lit (.int .i64 1), .lit (.int .i64 1), .lit (.int .i64 2)], .agg [.lit (.int .i64 2), .lit (.int .i64 2), .lit (.int .i64 2)]]
def laid_loop_example_g00590_impl_joinTable {H : Type} : DataW H := .agg [.agg [.lit (.int .i64 0), .lit (.int .i64 1), .lit (.int .i64 1)], .agg [.lit (.int .i64 1), .lit (.int .i64 1), .lit (.int .i64 1)], .agg [.lit (.int .i64 1), .lit (.int .i64 1), .lit (.int .i64 2)]]

/-- 'laws.FnKleene': WHATEVER THE INPUT: true; the input reads as it did. -/
def fnKleeneSpec : ChangeSpec := { name := "fnKleene", vars := ["loop.example/g00590/impl.andTable", "loop.example/g00590/impl.orTable", "loop.example/g00590/impl.notRow", "loop.example/g00590/impl.joinTable"], fn := fun _ => fun
  | [d, g1, g2, g3, g4] => { results := [.lit (.bool true)], args := [d], vars := [g1, g2, g3, g4] }
  | _ => none }
def fnKleeneRow : OpenClaim := { program := "ytbnpfgkcehlfnaadoor", sum := "0550bfebd8de62365b6de00decc0c2161ec696b38023e12ffd7fb2802fd13247", func := "loop.example/g00590/laws.FnKleene", spec := "fnKleene", named := ["loop.example/g00590/impl.andTable", "loop.example/g00590/impl.orTable", "loop.example/g00590/impl.notRow", "loop.example/g00590/impl.joinTable"], apart := false, laid := [("loop.example/g00590/impl.notRow", laid_loop_example_g00590_impl_notRow), ("loop.example/g00590/impl.andTable", laid_loop_example_g00590_impl_andTable), ("loop.example/g00590/impl.orTable", laid_loop_example_g00590_impl_orTable), ("loop.example/g00590/impl.joinTable", laid_loop_example_g00590_impl_joinTable)] }
def FnKleeneSaid : Prop := fnKleeneRow.holds Tryd.pinned (OpenSpec.ofChange fnKleeneSpec)

/-- ITS FALSE NEIGHBOUR: 'it returns false'. Refute it at one input. -/
def fnKleeneWrong : ChangeSpec := { name := "fnKleene", vars := ["loop.example/g00590/impl.andTable", "loop.example/g00590/impl.orTable", "loop.example/g00590/impl.notRow", "loop.example/g00590/impl.joinTable"], fn := fun _ => fun
  | [d, g1, g2, g3, g4] => { results := [.lit (.bool false)], args := [d], vars := [g1, g2, g3, g4] }
  | _ => none }
def FnKleeneWrongFalsely : Prop := fnKleeneRow.holds Tryd.pinned (OpenSpec.ofChange fnKleeneWrong)

/-- 'laws.FnExactNotOf': WHATEVER THE INPUT: true; the input reads as it did. -/
def fnExactNotOfSpec : ChangeSpec := { name := "fnExactNotOf", vars := ["loop.example/g00590/impl.notRow"], fn := fun _ => fun
  | [d, g1] => { results := [.lit (.bool true)], args := [d], vars := [g1] }
  | _ => none }
def fnExactNotOfRow : OpenClaim := { program := "ytbnpfgkcehlfnaadoor", sum := "0550bfebd8de62365b6de00decc0c2161ec696b38023e12ffd7fb2802fd13247", func := "loop.example/g00590/laws.FnExactNotOf", spec := "fnExactNotOf", named := ["loop.example/g00590/impl.notRow"], apart := false, laid := [("loop.example/g00590/impl.notRow", laid_loop_example_g00590_impl_notRow)] }
def FnExactNotOfSaid : Prop := fnExactNotOfRow.holds Tryd.pinned (OpenSpec.ofChange fnExactNotOfSpec)

/-- ITS FALSE NEIGHBOUR: 'it returns false'. Refute it at one input. -/
def fnExactNotOfWrong : ChangeSpec := { name := "fnExactNotOf", vars := ["loop.example/g00590/impl.notRow"], fn := fun _ => fun
  | [d, g1] => { results := [.lit (.bool false)], args := [d], vars := [g1] }
  | _ => none }
def FnExactNotOfWrongFalsely : Prop := fnExactNotOfRow.holds Tryd.pinned (OpenSpec.ofChange fnExactNotOfWrong)

/-- 'laws.FnExactAndOf': WHATEVER THE INPUT: true; the input reads as it did. -/
def fnExactAndOfSpec : ChangeSpec := { name := "fnExactAndOf", vars := ["loop.example/g00590/impl.andTable"], fn := fun _ => fun
  | [d1, d2, g1] => { results := [.lit (.bool true)], args := [d1, d2], vars := [g1] }
  | _ => none }
def fnExactAndOfRow : OpenClaim := { program := "ytbnpfgkcehlfnaadoor", sum := "0550bfebd8de62365b6de00decc0c2161ec696b38023e12ffd7fb2802fd13247", func := "loop.example/g00590/laws.FnExactAndOf", spec := "fnExactAndOf", named := ["loop.example/g00590/impl.andTable"], apart := false, laid := [("loop.example/g00590/impl.andTable", laid_loop_example_g00590_impl_andTable)] }
def FnExactAndOfSaid : Prop := fnExactAndOfRow.holds Tryd.pinned (OpenSpec.ofChange fnExactAndOfSpec)

/-- ITS FALSE NEIGHBOUR: 'it returns false'. Refute it at one input. -/
def fnExactAndOfWrong : ChangeSpec := { name := "fnExactAndOf", vars := ["loop.example/g00590/impl.andTable"], fn := fun _ => fun
  | [d1, d2, g1] => { results := [.lit (.bool false)], args := [d1, d2], vars := [g1] }
  | _ => none }
def FnExactAndOfWrongFalsely : Prop := fnExactAndOfRow.holds Tryd.pinned (OpenSpec.ofChange fnExactAndOfWrong)

/-- 'laws.FnExactOrOf': WHATEVER THE INPUT: true; the input reads as it did. -/
def fnExactOrOfSpec : ChangeSpec := { name := "fnExactOrOf", vars := ["loop.example/g00590/impl.orTable"], fn := fun _ => fun
  | [d1, d2, g1] => { results := [.lit (.bool true)], args := [d1, d2], vars := [g1] }
  | _ => none }
def fnExactOrOfRow : OpenClaim := { program := "ytbnpfgkcehlfnaadoor", sum := "0550bfebd8de62365b6de00decc0c2161ec696b38023e12ffd7fb2802fd13247", func := "loop.example/g00590/laws.FnExactOrOf", spec := "fnExactOrOf", named := ["loop.example/g00590/impl.orTable"], apart := false, laid := [("loop.example/g00590/impl.orTable", laid_loop_example_g00590_impl_orTable)] }
def FnExactOrOfSaid : Prop := fnExactOrOfRow.holds Tryd.pinned (OpenSpec.ofChange fnExactOrOfSpec)

/-- ITS FALSE NEIGHBOUR: 'it returns false'. Refute it at one input. -/
def fnExactOrOfWrong : ChangeSpec := { name := "fnExactOrOf", vars := ["loop.example/g00590/impl.orTable"], fn := fun _ => fun
  | [d1, d2, g1] => { results := [.lit (.bool false)], args := [d1, d2], vars := [g1] }
  | _ => none }
def FnExactOrOfWrongFalsely : Prop := fnExactOrOfRow.holds Tryd.pinned (OpenSpec.ofChange fnExactOrOfWrong)

/-- 'laws.FnExactJoinOf': WHATEVER THE INPUT: true; the input reads as it did. -/
def fnExactJoinOfSpec : ChangeSpec := { name := "fnExactJoinOf", vars := ["loop.example/g00590/impl.joinTable"], fn := fun _ => fun
  | [d1, d2, g1] => { results := [.lit (.bool true)], args := [d1, d2], vars := [g1] }
  | _ => none }
def fnExactJoinOfRow : OpenClaim := { program := "ytbnpfgkcehlfnaadoor", sum := "0550bfebd8de62365b6de00decc0c2161ec696b38023e12ffd7fb2802fd13247", func := "loop.example/g00590/laws.FnExactJoinOf", spec := "fnExactJoinOf", named := ["loop.example/g00590/impl.joinTable"], apart := false, laid := [("loop.example/g00590/impl.joinTable", laid_loop_example_g00590_impl_joinTable)] }
def FnExactJoinOfSaid : Prop := fnExactJoinOfRow.holds Tryd.pinned (OpenSpec.ofChange fnExactJoinOfSpec)

/-- ITS FALSE NEIGHBOUR: 'it returns false'. Refute it at one input. -/
def fnExactJoinOfWrong : ChangeSpec := { name := "fnExactJoinOf", vars := ["loop.example/g00590/impl.joinTable"], fn := fun _ => fun
  | [d1, d2, g1] => { results := [.lit (.bool false)], args := [d1, d2], vars := [g1] }
  | _ => none }
def FnExactJoinOfWrongFalsely : Prop := fnExactJoinOfRow.holds Tryd.pinned (OpenSpec.ofChange fnExactJoinOfWrong)

/-- 'laws.FnExactIsWithin': WHATEVER THE INPUT: true; the input reads as it did. -/
def fnExactIsWithinSpec : ChangeSpec := { name := "fnExactIsWithin", vars := ["loop.example/g00590/impl.joinTable"], fn := fun _ => fun
  | [d1, d2, g1] => { results := [.lit (.bool true)], args := [d1, d2], vars := [g1] }
  | _ => none }
def fnExactIsWithinRow : OpenClaim := { program := "ytbnpfgkcehlfnaadoor", sum := "0550bfebd8de62365b6de00decc0c2161ec696b38023e12ffd7fb2802fd13247", func := "loop.example/g00590/laws.FnExactIsWithin", spec := "fnExactIsWithin", named := ["loop.example/g00590/impl.joinTable"], apart := false, laid := [("loop.example/g00590/impl.joinTable", laid_loop_example_g00590_impl_joinTable)] }
def FnExactIsWithinSaid : Prop := fnExactIsWithinRow.holds Tryd.pinned (OpenSpec.ofChange fnExactIsWithinSpec)

/-- ITS FALSE NEIGHBOUR: 'it returns false'. Refute it at one input. -/
def fnExactIsWithinWrong : ChangeSpec := { name := "fnExactIsWithin", vars := ["loop.example/g00590/impl.joinTable"], fn := fun _ => fun
  | [d1, d2, g1] => { results := [.lit (.bool false)], args := [d1, d2], vars := [g1] }
  | _ => none }
def FnExactIsWithinWrongFalsely : Prop := fnExactIsWithinRow.holds Tryd.pinned (OpenSpec.ofChange fnExactIsWithinWrong)

/- THE SECOND FORM. 'bulk': how many values and letters a reading holds, each counted each time it is reached (what is shared counts as often as it is met; a slice's spare places count too). A statement '..UptoSaid' is the law's where the arguments, and the package variables that the reading takes, are together of bulk at most 1048576: NARROWER than '..Said'. Prove '..Said' where nothing that the law and all that it calls make is longer than what came in: it says more and counts as full. Else prove '..UptoSaid'. A law counts once. -/
mutual
def uptoBulk {H : Type} : DataW H → Nat
  | .lit (.string bytes) => bytes.length + 1
  | .lit _ => 1
  | .nil => 1
  | .ptr d => uptoBulk d + 1
  | .slice elems spare => uptoBulkAll elems + uptoBulkAll spare + 1
  | .agg parts => uptoBulkAll parts + 1
  | .iface _ d => uptoBulk d + 1
  | .map entries => uptoBulkEntries entries + 1
  | .held _ => 1
def uptoBulkAll {H : Type} : List (DataW H) → Nat
  | [] => 0
  | d :: r => uptoBulk d + uptoBulkAll r
def uptoBulkEntries {H : Type} : List (Lit × DataW H) → Nat
  | [] => 0
  | x :: r => uptoBulkEntry x + uptoBulkEntries r
def uptoBulkEntry {H : Type} : Lit × DataW H → Nat
  | (.string bytes, d) => bytes.length + uptoBulk d + 1
  | (_, d) => uptoBulk d + 1
 end
def uptoSmall : (H : Type) → List (DataW H) → Bool := fun _ ds => decide (uptoBulkAll ds ≤ 1048576)
def OpenSpec.upto (s : _root_.Go.ChangeSpec) : _root_.Go.OpenSpec := { _root_.Go.OpenSpec.ofChange s with cond := some uptoSmall }

/-- 'laws.FnKleene', WHERE WHAT IT READS IS OF BULK AT MOST 1048576: true; the input reads as it did. -/
def fnKleeneUptoRow : OpenClaim := { program := "ytbnpfgkcehlfnaadoor", sum := "0550bfebd8de62365b6de00decc0c2161ec696b38023e12ffd7fb2802fd13247", func := "loop.example/g00590/laws.FnKleene", spec := "fnKleene", named := ["loop.example/g00590/impl.andTable", "loop.example/g00590/impl.orTable", "loop.example/g00590/impl.notRow", "loop.example/g00590/impl.joinTable"], apart := false, laid := [("loop.example/g00590/impl.notRow", laid_loop_example_g00590_impl_notRow), ("loop.example/g00590/impl.andTable", laid_loop_example_g00590_impl_andTable), ("loop.example/g00590/impl.orTable", laid_loop_example_g00590_impl_orTable), ("loop.example/g00590/impl.joinTable", laid_loop_example_g00590_impl_joinTable)], narrowed := true }
def FnKleeneUptoSaid : Prop := fnKleeneUptoRow.holds Tryd.pinned (OpenSpec.upto fnKleeneSpec)

/-- 'laws.FnExactNotOf', WHERE WHAT IT READS IS OF BULK AT MOST 1048576: true; the input reads as it did. -/
def fnExactNotOfUptoRow : OpenClaim := { program := "ytbnpfgkcehlfnaadoor", sum := "0550bfebd8de62365b6de00decc0c2161ec696b38023e12ffd7fb2802fd13247", func := "loop.example/g00590/laws.FnExactNotOf", spec := "fnExactNotOf", named := ["loop.example/g00590/impl.notRow"], apart := false, laid := [("loop.example/g00590/impl.notRow", laid_loop_example_g00590_impl_notRow)], narrowed := true }
def FnExactNotOfUptoSaid : Prop := fnExactNotOfUptoRow.holds Tryd.pinned (OpenSpec.upto fnExactNotOfSpec)

/-- 'laws.FnExactAndOf', WHERE WHAT IT READS IS OF BULK AT MOST 1048576: true; the input reads as it did. -/
def fnExactAndOfUptoRow : OpenClaim := { program := "ytbnpfgkcehlfnaadoor", sum := "0550bfebd8de62365b6de00decc0c2161ec696b38023e12ffd7fb2802fd13247", func := "loop.example/g00590/laws.FnExactAndOf", spec := "fnExactAndOf", named := ["loop.example/g00590/impl.andTable"], apart := false, laid := [("loop.example/g00590/impl.andTable", laid_loop_example_g00590_impl_andTable)], narrowed := true }
def FnExactAndOfUptoSaid : Prop := fnExactAndOfUptoRow.holds Tryd.pinned (OpenSpec.upto fnExactAndOfSpec)

/-- 'laws.FnExactOrOf', WHERE WHAT IT READS IS OF BULK AT MOST 1048576: true; the input reads as it did. -/
def fnExactOrOfUptoRow : OpenClaim := { program := "ytbnpfgkcehlfnaadoor", sum := "0550bfebd8de62365b6de00decc0c2161ec696b38023e12ffd7fb2802fd13247", func := "loop.example/g00590/laws.FnExactOrOf", spec := "fnExactOrOf", named := ["loop.example/g00590/impl.orTable"], apart := false, laid := [("loop.example/g00590/impl.orTable", laid_loop_example_g00590_impl_orTable)], narrowed := true }
def FnExactOrOfUptoSaid : Prop := fnExactOrOfUptoRow.holds Tryd.pinned (OpenSpec.upto fnExactOrOfSpec)

/-- 'laws.FnExactJoinOf', WHERE WHAT IT READS IS OF BULK AT MOST 1048576: true; the input reads as it did. -/
def fnExactJoinOfUptoRow : OpenClaim := { program := "ytbnpfgkcehlfnaadoor", sum := "0550bfebd8de62365b6de00decc0c2161ec696b38023e12ffd7fb2802fd13247", func := "loop.example/g00590/laws.FnExactJoinOf", spec := "fnExactJoinOf", named := ["loop.example/g00590/impl.joinTable"], apart := false, laid := [("loop.example/g00590/impl.joinTable", laid_loop_example_g00590_impl_joinTable)], narrowed := true }
def FnExactJoinOfUptoSaid : Prop := fnExactJoinOfUptoRow.holds Tryd.pinned (OpenSpec.upto fnExactJoinOfSpec)

/-- 'laws.FnExactIsWithin', WHERE WHAT IT READS IS OF BULK AT MOST 1048576: true; the input reads as it did. -/
def fnExactIsWithinUptoRow : OpenClaim := { program := "ytbnpfgkcehlfnaadoor", sum := "0550bfebd8de62365b6de00decc0c2161ec696b38023e12ffd7fb2802fd13247", func := "loop.example/g00590/laws.FnExactIsWithin", spec := "fnExactIsWithin", named := ["loop.example/g00590/impl.joinTable"], apart := false, laid := [("loop.example/g00590/impl.joinTable", laid_loop_example_g00590_impl_joinTable)], narrowed := true }
def FnExactIsWithinUptoSaid : Prop := fnExactIsWithinUptoRow.holds Tryd.pinned (OpenSpec.upto fnExactIsWithinSpec)

end Rows
end Go.Proofs.YtbnpfgkcehlfnaaDoor
