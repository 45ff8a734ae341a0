/-
  No cell of these rows narrows 'for every input' (looked for: loops, veiled, ifaces, maps, wideKeys, modest, calm, conditions, laid).
  DERIVED. THE GIVEN ROWS OF THIS SEAT. 5 by the template 'for every input the law returns true; each argument reads behind the call as it read before'; 0 by the template 'total and deterministic' (their statements: YtmkpmgjfchfbnaaTotals.lean).
  GIVEN WITH THE SEED: the statements are not yours to turn. If you find one false, say at which input.
  Laid BY PROGRAM, IN A SANDBOX (cutbox-rows.mjs): the forced cells as the released guide's own fill.sh prints them over the translation bcee686d487accdc… (all of the seat's roots in one cut). By AI agents, Wed Nov 11 2026. No macro, syntax, notation, axiom, sorry.
-/
import Derived.Test.YtmkpmgjfchfbnaaChecked
import GoSem.Claim
import GoSem.ClaimJoined
import GoSem.ClaimMapViews
import Derived.JoinedTies
import Derived.KernelRfl
namespace Go.Proofs.Ytmkpmgjfchfbnaa
/- THE CELL 'sum', in the pinned program and in every row, IS THE sha256 OF THE DUMP (.gsa) THAT YtmkpmgjfchfbnaaProg.lean LOADS. Nothing in Lean hashes anything: it is a label: what it is worth is what the hold of that sum in a sandbox is worth. -/
noncomputable def Try.pinned : Pinned := { name := "ytmkpmgjfchfbnaa", sum := "bcee686d487accdc0d96d41a01671e288c4ba0084fc3607dcb88ee11ac2ba43c", checked := Try.checked }
namespace Rows
def none {H : Type} : Left H := { results := [], args := [] }

/-- 'laws.FnNames': WHATEVER THE INPUT: true; the input reads as it did. -/
def fnNamesSpec : ChangeSpec := { name := "fnNames", fn := fun _ => fun
  | [d] => { results := [.lit (.bool true)], args := [d] }
  | _ => none }
def fnNamesRow : OpenClaim := { program := "ytmkpmgjfchfbnaa", sum := "bcee686d487accdc0d96d41a01671e288c4ba0084fc3607dcb88ee11ac2ba43c", func := "loop.example/g00590/laws.FnNames", spec := "fnNames", apart := false }
def FnNamesSaid : Prop := fnNamesRow.holds Try.pinned (OpenSpec.ofChange fnNamesSpec)

/-- ITS FALSE NEIGHBOUR: 'it returns false'. Refute it at one input. -/
def fnNamesWrong : ChangeSpec := { name := "fnNames", fn := fun _ => fun
  | [d] => { results := [.lit (.bool false)], args := [d] }
  | _ => none }
def FnNamesWrongFalsely : Prop := fnNamesRow.holds Try.pinned (OpenSpec.ofChange fnNamesWrong)

/-- 'laws.FnExactIsName': WHATEVER THE INPUT: true; the input reads as it did. -/
def fnExactIsNameSpec : ChangeSpec := { name := "fnExactIsName", fn := fun _ => fun
  | [d] => { results := [.lit (.bool true)], args := [d] }
  | _ => none }
def fnExactIsNameRow : OpenClaim := { program := "ytmkpmgjfchfbnaa", sum := "bcee686d487accdc0d96d41a01671e288c4ba0084fc3607dcb88ee11ac2ba43c", func := "loop.example/g00590/laws.FnExactIsName", spec := "fnExactIsName", apart := false }
def FnExactIsNameSaid : Prop := fnExactIsNameRow.holds Try.pinned (OpenSpec.ofChange fnExactIsNameSpec)

/-- ITS FALSE NEIGHBOUR: 'it returns false'. Refute it at one input. -/
def fnExactIsNameWrong : ChangeSpec := { name := "fnExactIsName", fn := fun _ => fun
  | [d] => { results := [.lit (.bool false)], args := [d] }
  | _ => none }
def FnExactIsNameWrongFalsely : Prop := fnExactIsNameRow.holds Try.pinned (OpenSpec.ofChange fnExactIsNameWrong)

/-- 'laws.FnExactIndexOf': WHATEVER THE INPUT: true; the input reads as it did. -/
def fnExactIndexOfSpec : ChangeSpec := { name := "fnExactIndexOf", fn := fun _ => fun
  | [d1, d2] => { results := [.lit (.bool true)], args := [d1, d2] }
  | _ => none }
def fnExactIndexOfRow : OpenClaim := { program := "ytmkpmgjfchfbnaa", sum := "bcee686d487accdc0d96d41a01671e288c4ba0084fc3607dcb88ee11ac2ba43c", func := "loop.example/g00590/laws.FnExactIndexOf", spec := "fnExactIndexOf", apart := false }
def FnExactIndexOfSaid : Prop := fnExactIndexOfRow.holds Try.pinned (OpenSpec.ofChange fnExactIndexOfSpec)

/-- ITS FALSE NEIGHBOUR: 'it returns false'. Refute it at one input. -/
def fnExactIndexOfWrong : ChangeSpec := { name := "fnExactIndexOf", fn := fun _ => fun
  | [d1, d2] => { results := [.lit (.bool false)], args := [d1, d2] }
  | _ => none }
def FnExactIndexOfWrongFalsely : Prop := fnExactIndexOfRow.holds Try.pinned (OpenSpec.ofChange fnExactIndexOfWrong)

/-- 'laws.FnExactAreVars': WHATEVER THE INPUT: true; the input reads as it did. -/
def fnExactAreVarsSpec : ChangeSpec := { name := "fnExactAreVars", fn := fun _ => fun
  | [d] => { results := [.lit (.bool true)], args := [d] }
  | _ => none }
def fnExactAreVarsRow : OpenClaim := { program := "ytmkpmgjfchfbnaa", sum := "bcee686d487accdc0d96d41a01671e288c4ba0084fc3607dcb88ee11ac2ba43c", func := "loop.example/g00590/laws.FnExactAreVars", spec := "fnExactAreVars", apart := false }
def FnExactAreVarsSaid : Prop := fnExactAreVarsRow.holds Try.pinned (OpenSpec.ofChange fnExactAreVarsSpec)

/-- ITS FALSE NEIGHBOUR: 'it returns false'. Refute it at one input. -/
def fnExactAreVarsWrong : ChangeSpec := { name := "fnExactAreVars", fn := fun _ => fun
  | [d] => { results := [.lit (.bool false)], args := [d] }
  | _ => none }
def FnExactAreVarsWrongFalsely : Prop := fnExactAreVarsRow.holds Try.pinned (OpenSpec.ofChange fnExactAreVarsWrong)

/-- 'laws.FnExactPositions': WHATEVER THE INPUT: true; the input reads as it did. -/
def fnExactPositionsSpec : ChangeSpec := { name := "fnExactPositions", fn := fun _ => fun
  | [d1, d2] => { results := [.lit (.bool true)], args := [d1, d2] }
  | _ => none }
def fnExactPositionsRow : OpenClaim := { program := "ytmkpmgjfchfbnaa", sum := "bcee686d487accdc0d96d41a01671e288c4ba0084fc3607dcb88ee11ac2ba43c", func := "loop.example/g00590/laws.FnExactPositions", spec := "fnExactPositions", apart := false }
def FnExactPositionsSaid : Prop := fnExactPositionsRow.holds Try.pinned (OpenSpec.ofChange fnExactPositionsSpec)

/-- ITS FALSE NEIGHBOUR: 'it returns false'. Refute it at one input. -/
def fnExactPositionsWrong : ChangeSpec := { name := "fnExactPositions", fn := fun _ => fun
  | [d1, d2] => { results := [.lit (.bool false)], args := [d1, d2] }
  | _ => none }
def FnExactPositionsWrongFalsely : Prop := fnExactPositionsRow.holds Try.pinned (OpenSpec.ofChange fnExactPositionsWrong)

/- THE SECOND FORM. 'bulk': how many values and letters a reading holds, each counted each time it is reached (what is shared counts as often as it is met; a slice's spare places count too). A statement '..UptoSaid' is the law's where the arguments, and the package variables that the reading takes, are together of bulk at most 1048576: NARROWER than '..Said'. Prove '..Said' where nothing that the law and all that it calls make is longer than what came in: it says more and counts as full. Else prove '..UptoSaid'. A law counts once. -/
mutual
def uptoBulk {H : Type} : DataW H → Nat
  | .lit (.string bytes) => bytes.length + 1
  | .lit _ => 1
  | .nil => 1
  | .ptr d => uptoBulk d + 1
  | .slice elems spare => uptoBulkAll elems + uptoBulkAll spare + 1
  | .agg parts => uptoBulkAll parts + 1
  | .iface _ d => uptoBulk d + 1
  | .map entries => uptoBulkEntries entries + 1
  | .held _ => 1
def uptoBulkAll {H : Type} : List (DataW H) → Nat
  | [] => 0
  | d :: r => uptoBulk d + uptoBulkAll r
def uptoBulkEntries {H : Type} : List (Lit × DataW H) → Nat
  | [] => 0
  | x :: r => uptoBulkEntry x + uptoBulkEntries r
def uptoBulkEntry {H : Type} : Lit × DataW H → Nat
  | (.string bytes, d) => bytes.length + uptoBulk d + 1
  | (_, d) => uptoBulk d + 1
 end
def uptoSmall : (H : Type) → List (DataW H) → Bool := fun _ ds => decide (uptoBulkAll ds ≤ 1048576)
def OpenSpec.upto (s : _root_.Go.ChangeSpec) : _root_.Go.OpenSpec := { _root_.Go.OpenSpec.ofChange s with cond := some uptoSmall }

/-- 'laws.FnNames', WHERE WHAT IT READS IS OF BULK AT MOST 1048576: true; the input reads as it did. -/
def fnNamesUptoRow : OpenClaim := { program := "ytmkpmgjfchfbnaa", sum := "bcee686d487accdc0d96d41a01671e288c4ba0084fc3607dcb88ee11ac2ba43c", func := "loop.example/g00590/laws.FnNames", spec := "fnNames", apart := false, narrowed := true }
def FnNamesUptoSaid : Prop := fnNamesUptoRow.holds Try.pinned (OpenSpec.upto fnNamesSpec)

/-- 'laws.FnExactIsName', WHERE WHAT IT READS IS OF BULK AT MOST 1048576: true; the input reads as it did. -/
def fnExactIsNameUptoRow : OpenClaim := { program := "ytmkpmgjfchfbnaa", sum := "bcee686d487accdc0d96d41a01671e288c4ba0084fc3607dcb88ee11ac2ba43c", func := "loop.example/g00590/laws.FnExactIsName", spec := "fnExactIsName", apart := false, narrowed := true }
def FnExactIsNameUptoSaid : Prop := fnExactIsNameUptoRow.holds Try.pinned (OpenSpec.upto fnExactIsNameSpec)

/-- 'laws.FnExactIndexOf', WHERE WHAT IT READS IS OF BULK AT MOST 1048576: true; the input reads as it did. -/
def fnExactIndexOfUptoRow : OpenClaim := { program := "ytmkpmgjfchfbnaa", sum := "bcee686d487accdc0d96d41a01671e288c4ba0084fc3607dcb88ee11ac2ba43c", func := "loop.example/g00590/laws.FnExactIndexOf", spec := "fnExactIndexOf", apart := false, narrowed := true }
def FnExactIndexOfUptoSaid : Prop := fnExactIndexOfUptoRow.holds Try.pinned (OpenSpec.upto fnExactIndexOfSpec)

/-- 'laws.FnExactAreVars', WHERE WHAT IT READS IS OF BULK AT MOST 1048576: true; the input reads as it did. -/
def fnExactAreVarsUptoRow : OpenClaim := { program := "ytmkpmgjfchfbnaa", sum := "bcee686d487accdc0d96d41a01671e288c4ba0084fc3607dcb88ee11ac2ba43c", func := "loop.example/g00590/laws.FnExactAreVars", spec := "fnExactAreVars", apart := false, narrowed := true }
def FnExactAreVarsUptoSaid : Prop := fnExactAreVarsUptoRow.holds Try.pinned (OpenSpec.upto fnExactAreVarsSpec)

/-- 'laws.FnExactPositions', WHERE WHAT IT READS IS OF BULK AT MOST 1048576: true; the input reads as it did. -/
def fnExactPositionsUptoRow : OpenClaim := { program := "ytmkpmgjfchfbnaa", sum := "bcee686d487accdc0d96d41a01671e288c4ba0084fc3607dcb88ee11ac2ba43c", func := "loop.example/g00590/laws.FnExactPositions", spec := "fnExactPositions", apart := false, narrowed := true }
def FnExactPositionsUptoSaid : Prop := fnExactPositionsUptoRow.holds Try.pinned (OpenSpec.upto fnExactPositionsSpec)

end Rows
end Go.Proofs.Ytmkpmgjfchfbnaa
