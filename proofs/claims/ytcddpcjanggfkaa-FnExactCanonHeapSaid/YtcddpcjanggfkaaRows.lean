/-
  No cell of these rows narrows 'for every input' (looked for: loops, veiled, ifaces, maps, wideKeys, modest, calm, conditions, laid).
  DERIVED. THE GIVEN ROWS OF THIS SEAT. 5 by the template 'for every input the law returns true; each argument reads behind the call as it read before'; 0 by the template 'total and deterministic' (their statements: YtcddpcjanggfkaaTotals.lean).
  GIVEN WITH THE SEED: the statements are not yours to turn. If you find one false, say at which input.
  Laid BY PROGRAM, IN A SANDBOX (cutbox-rows.mjs): the forced cells as the released guide's own fill.sh prints them over the translation 5b9b450d5fe6c691… (all of the seat's roots in one cut). By AI agents, Wed Nov 11 2026. No macro, syntax, notation, axiom, sorry.
-/
import Derived.Test.YtcddpcjanggfkaaChecked
import GoSem.Claim
import GoSem.ClaimJoined
import GoSem.ClaimMapViews
import Derived.JoinedTies
import Derived.KernelRfl
namespace Go.Proofs.Ytcddpcjanggfkaa
/- THE CELL 'sum', in the pinned program and in every row, IS THE sha256 OF THE DUMP (.gsa) THAT YtcddpcjanggfkaaProg.lean LOADS. Nothing in Lean hashes anything: it is a label: what it is worth is what the hold of that sum in a sandbox is worth. -/
noncomputable def Try.pinned : Pinned := { name := "ytcddpcjanggfkaa", sum := "5b9b450d5fe6c6914626cb980d84ac9554d882f4ebc1ce4be6ba2cc5e56430ce", checked := Try.checked }
namespace Rows
def none {H : Type} : Left H := { results := [], args := [] }

/-- 'laws.FnExactFollowed': WHATEVER THE INPUT: true; the input reads as it did. -/
def fnExactFollowedSpec : ChangeSpec := { name := "fnExactFollowed", fn := fun _ => fun
  | [d1, d2] => { results := [.lit (.bool true)], args := [d1, d2] }
  | _ => none }
def fnExactFollowedRow : OpenClaim := { program := "ytcddpcjanggfkaa", sum := "5b9b450d5fe6c6914626cb980d84ac9554d882f4ebc1ce4be6ba2cc5e56430ce", func := "loop.example/g00590/laws.FnExactFollowed", spec := "fnExactFollowed", apart := false }
def FnExactFollowedSaid : Prop := fnExactFollowedRow.holds Try.pinned (OpenSpec.ofChange fnExactFollowedSpec)

/-- ITS FALSE NEIGHBOUR: 'it returns false'. Refute it at one input. -/
def fnExactFollowedWrong : ChangeSpec := { name := "fnExactFollowed", fn := fun _ => fun
  | [d1, d2] => { results := [.lit (.bool false)], args := [d1, d2] }
  | _ => none }
def FnExactFollowedWrongFalsely : Prop := fnExactFollowedRow.holds Try.pinned (OpenSpec.ofChange fnExactFollowedWrong)

/-- 'laws.FnExactIsHeap': WHATEVER THE INPUT: true; the input reads as it did. -/
def fnExactIsHeapSpec : ChangeSpec := { name := "fnExactIsHeap", fn := fun _ => fun
  | [d1, d2] => { results := [.lit (.bool true)], args := [d1, d2] }
  | _ => none }
def fnExactIsHeapRow : OpenClaim := { program := "ytcddpcjanggfkaa", sum := "5b9b450d5fe6c6914626cb980d84ac9554d882f4ebc1ce4be6ba2cc5e56430ce", func := "loop.example/g00590/laws.FnExactIsHeap", spec := "fnExactIsHeap", apart := false }
def FnExactIsHeapSaid : Prop := fnExactIsHeapRow.holds Try.pinned (OpenSpec.ofChange fnExactIsHeapSpec)

/-- ITS FALSE NEIGHBOUR: 'it returns false'. Refute it at one input. -/
def fnExactIsHeapWrong : ChangeSpec := { name := "fnExactIsHeap", fn := fun _ => fun
  | [d1, d2] => { results := [.lit (.bool false)], args := [d1, d2] }
  | _ => none }
def FnExactIsHeapWrongFalsely : Prop := fnExactIsHeapRow.holds Try.pinned (OpenSpec.ofChange fnExactIsHeapWrong)

/-- 'laws.FnExactCanonHeap': WHATEVER THE INPUT: true; the input reads as it did. -/
def fnExactCanonHeapSpec : ChangeSpec := { name := "fnExactCanonHeap", fn := fun _ => fun
  | [d] => { results := [.lit (.bool true)], args := [d] }
  | _ => none }
def fnExactCanonHeapRow : OpenClaim := { program := "ytcddpcjanggfkaa", sum := "5b9b450d5fe6c6914626cb980d84ac9554d882f4ebc1ce4be6ba2cc5e56430ce", func := "loop.example/g00590/laws.FnExactCanonHeap", spec := "fnExactCanonHeap", apart := false }
def FnExactCanonHeapSaid : Prop := fnExactCanonHeapRow.holds Try.pinned (OpenSpec.ofChange fnExactCanonHeapSpec)

/-- ITS FALSE NEIGHBOUR: 'it returns false'. Refute it at one input. -/
def fnExactCanonHeapWrong : ChangeSpec := { name := "fnExactCanonHeap", fn := fun _ => fun
  | [d] => { results := [.lit (.bool false)], args := [d] }
  | _ => none }
def FnExactCanonHeapWrongFalsely : Prop := fnExactCanonHeapRow.holds Try.pinned (OpenSpec.ofChange fnExactCanonHeapWrong)

/-- 'laws.FnExactHasLeak': WHATEVER THE INPUT: true; the input reads as it did. -/
def fnExactHasLeakSpec : ChangeSpec := { name := "fnExactHasLeak", fn := fun _ => fun
  | [d] => { results := [.lit (.bool true)], args := [d] }
  | _ => none }
def fnExactHasLeakRow : OpenClaim := { program := "ytcddpcjanggfkaa", sum := "5b9b450d5fe6c6914626cb980d84ac9554d882f4ebc1ce4be6ba2cc5e56430ce", func := "loop.example/g00590/laws.FnExactHasLeak", spec := "fnExactHasLeak", apart := false }
def FnExactHasLeakSaid : Prop := fnExactHasLeakRow.holds Try.pinned (OpenSpec.ofChange fnExactHasLeakSpec)

/-- ITS FALSE NEIGHBOUR: 'it returns false'. Refute it at one input. -/
def fnExactHasLeakWrong : ChangeSpec := { name := "fnExactHasLeak", fn := fun _ => fun
  | [d] => { results := [.lit (.bool false)], args := [d] }
  | _ => none }
def FnExactHasLeakWrongFalsely : Prop := fnExactHasLeakRow.holds Try.pinned (OpenSpec.ofChange fnExactHasLeakWrong)

/-- 'laws.FnExactEqualHeap': WHATEVER THE INPUT: true; the input reads as it did. -/
def fnExactEqualHeapSpec : ChangeSpec := { name := "fnExactEqualHeap", fn := fun _ => fun
  | [d1, d2] => { results := [.lit (.bool true)], args := [d1, d2] }
  | _ => none }
def fnExactEqualHeapRow : OpenClaim := { program := "ytcddpcjanggfkaa", sum := "5b9b450d5fe6c6914626cb980d84ac9554d882f4ebc1ce4be6ba2cc5e56430ce", func := "loop.example/g00590/laws.FnExactEqualHeap", spec := "fnExactEqualHeap", apart := false }
def FnExactEqualHeapSaid : Prop := fnExactEqualHeapRow.holds Try.pinned (OpenSpec.ofChange fnExactEqualHeapSpec)

/-- ITS FALSE NEIGHBOUR: 'it returns false'. Refute it at one input. -/
def fnExactEqualHeapWrong : ChangeSpec := { name := "fnExactEqualHeap", fn := fun _ => fun
  | [d1, d2] => { results := [.lit (.bool false)], args := [d1, d2] }
  | _ => none }
def FnExactEqualHeapWrongFalsely : Prop := fnExactEqualHeapRow.holds Try.pinned (OpenSpec.ofChange fnExactEqualHeapWrong)

/- THE SECOND FORM. 'bulk': how many values and letters a reading holds, each counted each time it is reached (what is shared counts as often as it is met; a slice's spare places count too). A statement '..UptoSaid' is the law's where the arguments, and the package variables that the reading takes, are together of bulk at most 1048576: NARROWER than '..Said'. Prove '..Said' where nothing that the law and all that it calls make is longer than what came in: it says more and counts as full. Else prove '..UptoSaid'. A law counts once. -/
mutual
def uptoBulk {H : Type} : DataW H → Nat
  | .lit (.string bytes) => bytes.length + 1
  | .lit _ => 1
  | .nil => 1
  | .ptr d => uptoBulk d + 1
  | .slice elems spare => uptoBulkAll elems + uptoBulkAll spare + 1
  | .agg parts => uptoBulkAll parts + 1
  | .iface _ d => uptoBulk d + 1
  | .map entries => uptoBulkEntries entries + 1
  | .held _ => 1
def uptoBulkAll {H : Type} : List (DataW H) → Nat
  | [] => 0
  | d :: r => uptoBulk d + uptoBulkAll r
def uptoBulkEntries {H : Type} : List (Lit × DataW H) → Nat
  | [] => 0
  | x :: r => uptoBulkEntry x + uptoBulkEntries r
def uptoBulkEntry {H : Type} : Lit × DataW H → Nat
  | (.string bytes, d) => bytes.length + uptoBulk d + 1
  | (_, d) => uptoBulk d + 1
 end
def uptoSmall : (H : Type) → List (DataW H) → Bool := fun _ ds => decide (uptoBulkAll ds ≤ 1048576)
def OpenSpec.upto (s : _root_.Go.ChangeSpec) : _root_.Go.OpenSpec := { _root_.Go.OpenSpec.ofChange s with cond := some uptoSmall }

/-- 'laws.FnExactFollowed', WHERE WHAT IT READS IS OF BULK AT MOST 1048576: true; the input reads as it did. -/
def fnExactFollowedUptoRow : OpenClaim := { program := "ytcddpcjanggfkaa", sum := "5b9b450d5fe6c6914626cb980d84ac9554d882f4ebc1ce4be6ba2cc5e56430ce", func := "loop.example/g00590/laws.FnExactFollowed", spec := "fnExactFollowed", apart := false, narrowed := true }
def FnExactFollowedUptoSaid : Prop := fnExactFollowedUptoRow.holds Try.pinned (OpenSpec.upto fnExactFollowedSpec)

/-- 'laws.FnExactIsHeap', WHERE WHAT IT READS IS OF BULK AT MOST 1048576: true; the input reads as it did. -/
def fnExactIsHeapUptoRow : OpenClaim := { program := "ytcddpcjanggfkaa", sum := "5b9b450d5fe6c6914626cb980d84ac9554d882f4ebc1ce4be6ba2cc5e56430ce", func := "loop.example/g00590/laws.FnExactIsHeap", spec := "fnExactIsHeap", apart := false, narrowed := true }
def FnExactIsHeapUptoSaid : Prop := fnExactIsHeapUptoRow.holds Try.pinned (OpenSpec.upto fnExactIsHeapSpec)

/-- 'laws.FnExactCanonHeap', WHERE WHAT IT READS IS OF BULK AT MOST 1048576: true; the input reads as it did. -/
def fnExactCanonHeapUptoRow : OpenClaim := { program := "ytcddpcjanggfkaa", sum := "5b9b450d5fe6c6914626cb980d84ac9554d882f4ebc1ce4be6ba2cc5e56430ce", func := "loop.example/g00590/laws.FnExactCanonHeap", spec := "fnExactCanonHeap", apart := false, narrowed := true }
def FnExactCanonHeapUptoSaid : Prop := fnExactCanonHeapUptoRow.holds Try.pinned (OpenSpec.upto fnExactCanonHeapSpec)

/-- 'laws.FnExactHasLeak', WHERE WHAT IT READS IS OF BULK AT MOST 1048576: true; the input reads as it did. -/
def fnExactHasLeakUptoRow : OpenClaim := { program := "ytcddpcjanggfkaa", sum := "5b9b450d5fe6c6914626cb980d84ac9554d882f4ebc1ce4be6ba2cc5e56430ce", func := "loop.example/g00590/laws.FnExactHasLeak", spec := "fnExactHasLeak", apart := false, narrowed := true }
def FnExactHasLeakUptoSaid : Prop := fnExactHasLeakUptoRow.holds Try.pinned (OpenSpec.upto fnExactHasLeakSpec)

/-- 'laws.FnExactEqualHeap', WHERE WHAT IT READS IS OF BULK AT MOST 1048576: true; the input reads as it did. -/
def fnExactEqualHeapUptoRow : OpenClaim := { program := "ytcddpcjanggfkaa", sum := "5b9b450d5fe6c6914626cb980d84ac9554d882f4ebc1ce4be6ba2cc5e56430ce", func := "loop.example/g00590/laws.FnExactEqualHeap", spec := "fnExactEqualHeap", apart := false, narrowed := true }
def FnExactEqualHeapUptoSaid : Prop := fnExactEqualHeapUptoRow.holds Try.pinned (OpenSpec.upto fnExactEqualHeapSpec)

end Rows
end Go.Proofs.Ytcddpcjanggfkaa
