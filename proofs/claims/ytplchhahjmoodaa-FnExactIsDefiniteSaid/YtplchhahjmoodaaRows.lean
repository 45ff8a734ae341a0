/-
  No cell of these rows narrows 'for every input' (looked for: loops, veiled, ifaces, maps, wideKeys, modest, calm, conditions, laid).
  DERIVED. THE GIVEN ROWS OF THIS SEAT. 4 by the template 'for every input the law returns true; each argument reads behind the call as it read before'; 0 by the template 'total and deterministic' (their statements: YtplchhahjmoodaaTotals.lean).
  GIVEN WITH THE SEED: the statements are not yours to turn. If you find one false, say at which input.
  Laid BY PROGRAM, IN A SANDBOX (cutbox-rows.mjs): the forced cells as the released guide's own fill.sh prints them over the translation 5cf77dfc7cf16420… (all of the seat's roots in one cut). By AI agents, Wed Nov 11 2026. No macro, syntax, notation, axiom, sorry.
-/
import Derived.Test.YtplchhahjmoodaaChecked
import GoSem.Claim
import GoSem.ClaimJoined
import GoSem.ClaimMapViews
import Derived.JoinedTies
import Derived.KernelRfl
namespace Go.Proofs.Ytplchhahjmoodaa
/- THE CELL 'sum', in the pinned program and in every row, IS THE sha256 OF THE DUMP (.gsa) THAT YtplchhahjmoodaaProg.lean LOADS. Nothing in Lean hashes anything: it is a label: what it is worth is what the hold of that sum in a sandbox is worth. -/
noncomputable def Try.pinned : Pinned := { name := "ytplchhahjmoodaa", sum := "5cf77dfc7cf16420fb48bf622fc5ba2dee97cfb174c6c1424715534a800ea7c4", checked := Try.checked }
namespace Rows
def none {H : Type} : Left H := { results := [], args := [] }

/-- 'laws.FnExactIsStructure': WHATEVER THE INPUT: true; the input reads as it did. -/
def fnExactIsStructureSpec : ChangeSpec := { name := "fnExactIsStructure", fn := fun _ => fun
  | [d1, d2] => { results := [.lit (.bool true)], args := [d1, d2] }
  | _ => none }
def fnExactIsStructureRow : OpenClaim := { program := "ytplchhahjmoodaa", sum := "5cf77dfc7cf16420fb48bf622fc5ba2dee97cfb174c6c1424715534a800ea7c4", func := "loop.example/g00590/laws.FnExactIsStructure", spec := "fnExactIsStructure", apart := false }
def FnExactIsStructureSaid : Prop := fnExactIsStructureRow.holds Try.pinned (OpenSpec.ofChange fnExactIsStructureSpec)

/-- ITS FALSE NEIGHBOUR: 'it returns false'. Refute it at one input. -/
def fnExactIsStructureWrong : ChangeSpec := { name := "fnExactIsStructure", fn := fun _ => fun
  | [d1, d2] => { results := [.lit (.bool false)], args := [d1, d2] }
  | _ => none }
def FnExactIsStructureWrongFalsely : Prop := fnExactIsStructureRow.holds Try.pinned (OpenSpec.ofChange fnExactIsStructureWrong)

/-- 'laws.FnExactNextOf': WHATEVER THE INPUT: true; the input reads as it did. -/
def fnExactNextOfSpec : ChangeSpec := { name := "fnExactNextOf", fn := fun _ => fun
  | [d1, d2, d3] => { results := [.lit (.bool true)], args := [d1, d2, d3] }
  | _ => none }
def fnExactNextOfRow : OpenClaim := { program := "ytplchhahjmoodaa", sum := "5cf77dfc7cf16420fb48bf622fc5ba2dee97cfb174c6c1424715534a800ea7c4", func := "loop.example/g00590/laws.FnExactNextOf", spec := "fnExactNextOf", apart := false }
def FnExactNextOfSaid : Prop := fnExactNextOfRow.holds Try.pinned (OpenSpec.ofChange fnExactNextOfSpec)

/-- ITS FALSE NEIGHBOUR: 'it returns false'. Refute it at one input. -/
def fnExactNextOfWrong : ChangeSpec := { name := "fnExactNextOf", fn := fun _ => fun
  | [d1, d2, d3] => { results := [.lit (.bool false)], args := [d1, d2, d3] }
  | _ => none }
def FnExactNextOfWrongFalsely : Prop := fnExactNextOfRow.holds Try.pinned (OpenSpec.ofChange fnExactNextOfWrong)

/-- 'laws.FnExactIsDefinite': WHATEVER THE INPUT: true; the input reads as it did. -/
def fnExactIsDefiniteSpec : ChangeSpec := { name := "fnExactIsDefinite", fn := fun _ => fun
  | [d] => { results := [.lit (.bool true)], args := [d] }
  | _ => none }
def fnExactIsDefiniteRow : OpenClaim := { program := "ytplchhahjmoodaa", sum := "5cf77dfc7cf16420fb48bf622fc5ba2dee97cfb174c6c1424715534a800ea7c4", func := "loop.example/g00590/laws.FnExactIsDefinite", spec := "fnExactIsDefinite", unfollowed := true, recurses := true, apart := false }
def FnExactIsDefiniteSaid : Prop := fnExactIsDefiniteRow.holds Try.pinned (OpenSpec.ofChange fnExactIsDefiniteSpec)

/-- ITS FALSE NEIGHBOUR: 'it returns false'. Refute it at one input. -/
def fnExactIsDefiniteWrong : ChangeSpec := { name := "fnExactIsDefinite", fn := fun _ => fun
  | [d] => { results := [.lit (.bool false)], args := [d] }
  | _ => none }
def FnExactIsDefiniteWrongFalsely : Prop := fnExactIsDefiniteRow.holds Try.pinned (OpenSpec.ofChange fnExactIsDefiniteWrong)

/-- 'laws.FnExactEqualStructure': WHATEVER THE INPUT: true; the input reads as it did. -/
def fnExactEqualStructureSpec : ChangeSpec := { name := "fnExactEqualStructure", fn := fun _ => fun
  | [d1, d2] => { results := [.lit (.bool true)], args := [d1, d2] }
  | _ => none }
def fnExactEqualStructureRow : OpenClaim := { program := "ytplchhahjmoodaa", sum := "5cf77dfc7cf16420fb48bf622fc5ba2dee97cfb174c6c1424715534a800ea7c4", func := "loop.example/g00590/laws.FnExactEqualStructure", spec := "fnExactEqualStructure", unfollowed := true, recurses := true, apart := false }
def FnExactEqualStructureSaid : Prop := fnExactEqualStructureRow.holds Try.pinned (OpenSpec.ofChange fnExactEqualStructureSpec)

/-- ITS FALSE NEIGHBOUR: 'it returns false'. Refute it at one input. -/
def fnExactEqualStructureWrong : ChangeSpec := { name := "fnExactEqualStructure", fn := fun _ => fun
  | [d1, d2] => { results := [.lit (.bool false)], args := [d1, d2] }
  | _ => none }
def FnExactEqualStructureWrongFalsely : Prop := fnExactEqualStructureRow.holds Try.pinned (OpenSpec.ofChange fnExactEqualStructureWrong)

/- THE SECOND FORM. 'bulk': how many values and letters a reading holds, each counted each time it is reached (what is shared counts as often as it is met; a slice's spare places count too). A statement '..UptoSaid' is the law's where the arguments, and the package variables that the reading takes, are together of bulk at most 1048576: NARROWER than '..Said'. Prove '..Said' where nothing that the law and all that it calls make is longer than what came in: it says more and counts as full. Else prove '..UptoSaid'. A law counts once. -/
mutual
def uptoBulk {H : Type} : DataW H → Nat
  | .lit (.string bytes) => bytes.length + 1
  | .lit _ => 1
  | .nil => 1
  | .ptr d => uptoBulk d + 1
  | .slice elems spare => uptoBulkAll elems + uptoBulkAll spare + 1
  | .agg parts => uptoBulkAll parts + 1
  | .iface _ d => uptoBulk d + 1
  | .map entries => uptoBulkEntries entries + 1
  | .held _ => 1
def uptoBulkAll {H : Type} : List (DataW H) → Nat
  | [] => 0
  | d :: r => uptoBulk d + uptoBulkAll r
def uptoBulkEntries {H : Type} : List (Lit × DataW H) → Nat
  | [] => 0
  | x :: r => uptoBulkEntry x + uptoBulkEntries r
def uptoBulkEntry {H : Type} : Lit × DataW H → Nat
  | (.string bytes, d) => bytes.length + uptoBulk d + 1
  | (_, d) => uptoBulk d + 1
 end
def uptoSmall : (H : Type) → List (DataW H) → Bool := fun _ ds => decide (uptoBulkAll ds ≤ 1048576)
def OpenSpec.upto (s : _root_.Go.ChangeSpec) : _root_.Go.OpenSpec := { _root_.Go.OpenSpec.ofChange s with cond := some uptoSmall }

/-- 'laws.FnExactIsStructure', WHERE WHAT IT READS IS OF BULK AT MOST 1048576: true; the input reads as it did. -/
def fnExactIsStructureUptoRow : OpenClaim := { program := "ytplchhahjmoodaa", sum := "5cf77dfc7cf16420fb48bf622fc5ba2dee97cfb174c6c1424715534a800ea7c4", func := "loop.example/g00590/laws.FnExactIsStructure", spec := "fnExactIsStructure", apart := false, narrowed := true }
def FnExactIsStructureUptoSaid : Prop := fnExactIsStructureUptoRow.holds Try.pinned (OpenSpec.upto fnExactIsStructureSpec)

/-- 'laws.FnExactNextOf', WHERE WHAT IT READS IS OF BULK AT MOST 1048576: true; the input reads as it did. -/
def fnExactNextOfUptoRow : OpenClaim := { program := "ytplchhahjmoodaa", sum := "5cf77dfc7cf16420fb48bf622fc5ba2dee97cfb174c6c1424715534a800ea7c4", func := "loop.example/g00590/laws.FnExactNextOf", spec := "fnExactNextOf", apart := false, narrowed := true }
def FnExactNextOfUptoSaid : Prop := fnExactNextOfUptoRow.holds Try.pinned (OpenSpec.upto fnExactNextOfSpec)

/-- 'laws.FnExactIsDefinite', WHERE WHAT IT READS IS OF BULK AT MOST 1048576: true; the input reads as it did. -/
def fnExactIsDefiniteUptoRow : OpenClaim := { program := "ytplchhahjmoodaa", sum := "5cf77dfc7cf16420fb48bf622fc5ba2dee97cfb174c6c1424715534a800ea7c4", func := "loop.example/g00590/laws.FnExactIsDefinite", spec := "fnExactIsDefinite", unfollowed := true, recurses := true, apart := false, narrowed := true }
def FnExactIsDefiniteUptoSaid : Prop := fnExactIsDefiniteUptoRow.holds Try.pinned (OpenSpec.upto fnExactIsDefiniteSpec)

/-- 'laws.FnExactEqualStructure', WHERE WHAT IT READS IS OF BULK AT MOST 1048576: true; the input reads as it did. -/
def fnExactEqualStructureUptoRow : OpenClaim := { program := "ytplchhahjmoodaa", sum := "5cf77dfc7cf16420fb48bf622fc5ba2dee97cfb174c6c1424715534a800ea7c4", func := "loop.example/g00590/laws.FnExactEqualStructure", spec := "fnExactEqualStructure", unfollowed := true, recurses := true, apart := false, narrowed := true }
def FnExactEqualStructureUptoSaid : Prop := fnExactEqualStructureUptoRow.holds Try.pinned (OpenSpec.upto fnExactEqualStructureSpec)

end Rows
end Go.Proofs.Ytplchhahjmoodaa
