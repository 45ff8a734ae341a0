/-
  NARROWER THAN 'FOR EVERY INPUT', by the rows' own cells (each row's printed sentence says how): FnExactSizeOf: loops · FnExactDepthOf: loops · FnExactIsFormula: loops · FnExactFreeLogic: loops · FnExactEqualFormula: loops.
  DERIVED. THE GIVEN ROWS OF THIS SEAT. 7 by the template 'for every input the law returns true; each argument reads behind the call as it read before'; 0 by the template 'total and deterministic' (their statements: YthojbagdblmfnaaTotals.lean).
  GIVEN WITH THE SEED: the statements are not yours to turn. If you find one false, say at which input.
  Laid BY PROGRAM, IN A SANDBOX (cutbox-rows.mjs): the forced cells as the released guide's own fill.sh prints them over the translation a54f13cbeace325f… (all of the seat's roots in one cut). By AI agents, Wed Nov 11 2026. No macro, syntax, notation, axiom, sorry.
-/
import Derived.Test.YthojbagdblmfnaaChecked
import GoSem.Claim
import GoSem.ClaimJoined
import GoSem.ClaimMapViews
import Derived.JoinedTies
import Derived.KernelRfl
namespace Go.Proofs.Ythojbagdblmfnaa
/- THE CELL 'sum', in the pinned program and in every row, IS THE sha256 OF THE DUMP (.gsa) THAT YthojbagdblmfnaaProg.lean LOADS. Nothing in Lean hashes anything: it is a label: what it is worth is what the hold of that sum in a sandbox is worth. -/
noncomputable def Try.pinned : Pinned := { name := "ythojbagdblmfnaa", sum := "a54f13cbeace325f0f0b59ded8fb5f580d53f40bb796bfb0debb4b1286f5584a", checked := Try.checked }
namespace Rows
def none {H : Type} : Left H := { results := [], args := [] }

/-- 'laws.FnFormulas': WHATEVER THE INPUT: true; the input reads as it did. -/
def fnFormulasSpec : ChangeSpec := { name := "fnFormulas", fn := fun _ => fun
  | [d] => { results := [.lit (.bool true)], args := [d] }
  | _ => none }
def fnFormulasRow : OpenClaim := { program := "ythojbagdblmfnaa", sum := "a54f13cbeace325f0f0b59ded8fb5f580d53f40bb796bfb0debb4b1286f5584a", func := "loop.example/g00590/laws.FnFormulas", spec := "fnFormulas", unfollowed := true, recurses := true, plainKeys := false, apart := false }
def FnFormulasSaid : Prop := fnFormulasRow.holds Try.pinned (OpenSpec.ofChange fnFormulasSpec)

/-- ITS FALSE NEIGHBOUR: 'it returns false'. Refute it at one input. -/
def fnFormulasWrong : ChangeSpec := { name := "fnFormulas", fn := fun _ => fun
  | [d] => { results := [.lit (.bool false)], args := [d] }
  | _ => none }
def FnFormulasWrongFalsely : Prop := fnFormulasRow.holds Try.pinned (OpenSpec.ofChange fnFormulasWrong)

/-- 'laws.FnExactArityOf': WHATEVER THE INPUT: true; the input reads as it did. -/
def fnExactArityOfSpec : ChangeSpec := { name := "fnExactArityOf", fn := fun _ => fun
  | [d] => { results := [.lit (.bool true)], args := [d] }
  | _ => none }
def fnExactArityOfRow : OpenClaim := { program := "ythojbagdblmfnaa", sum := "a54f13cbeace325f0f0b59ded8fb5f580d53f40bb796bfb0debb4b1286f5584a", func := "loop.example/g00590/laws.FnExactArityOf", spec := "fnExactArityOf", unfollowed := true, recurses := true, plainKeys := false, apart := false }
def FnExactArityOfSaid : Prop := fnExactArityOfRow.holds Try.pinned (OpenSpec.ofChange fnExactArityOfSpec)

/-- ITS FALSE NEIGHBOUR: 'it returns false'. Refute it at one input. -/
def fnExactArityOfWrong : ChangeSpec := { name := "fnExactArityOf", fn := fun _ => fun
  | [d] => { results := [.lit (.bool false)], args := [d] }
  | _ => none }
def FnExactArityOfWrongFalsely : Prop := fnExactArityOfRow.holds Try.pinned (OpenSpec.ofChange fnExactArityOfWrong)

/-- 'laws.FnExactSizeOf': WHATEVER THE INPUT: true; the input reads as it did. -/
def fnExactSizeOfSpec : ChangeSpec := { name := "fnExactSizeOf", fn := fun _ => fun
  | [d] => { results := [.lit (.bool true)], args := [d] }
  | _ => none }
def fnExactSizeOfRow : OpenClaim := { program := "ythojbagdblmfnaa", sum := "a54f13cbeace325f0f0b59ded8fb5f580d53f40bb796bfb0debb4b1286f5584a", func := "loop.example/g00590/laws.FnExactSizeOf", spec := "fnExactSizeOf", unfollowed := true, recurses := true, loops := true, plainKeys := false, apart := false }
def FnExactSizeOfSaid : Prop := fnExactSizeOfRow.holds Try.pinned (OpenSpec.ofChange fnExactSizeOfSpec)

/-- ITS FALSE NEIGHBOUR: 'it returns false'. Refute it at one input. -/
def fnExactSizeOfWrong : ChangeSpec := { name := "fnExactSizeOf", fn := fun _ => fun
  | [d] => { results := [.lit (.bool false)], args := [d] }
  | _ => none }
def FnExactSizeOfWrongFalsely : Prop := fnExactSizeOfRow.holds Try.pinned (OpenSpec.ofChange fnExactSizeOfWrong)

/-- 'laws.FnExactDepthOf': WHATEVER THE INPUT: true; the input reads as it did. -/
def fnExactDepthOfSpec : ChangeSpec := { name := "fnExactDepthOf", fn := fun _ => fun
  | [d] => { results := [.lit (.bool true)], args := [d] }
  | _ => none }
def fnExactDepthOfRow : OpenClaim := { program := "ythojbagdblmfnaa", sum := "a54f13cbeace325f0f0b59ded8fb5f580d53f40bb796bfb0debb4b1286f5584a", func := "loop.example/g00590/laws.FnExactDepthOf", spec := "fnExactDepthOf", unfollowed := true, recurses := true, loops := true, plainKeys := false, apart := false }
def FnExactDepthOfSaid : Prop := fnExactDepthOfRow.holds Try.pinned (OpenSpec.ofChange fnExactDepthOfSpec)

/-- ITS FALSE NEIGHBOUR: 'it returns false'. Refute it at one input. -/
def fnExactDepthOfWrong : ChangeSpec := { name := "fnExactDepthOf", fn := fun _ => fun
  | [d] => { results := [.lit (.bool false)], args := [d] }
  | _ => none }
def FnExactDepthOfWrongFalsely : Prop := fnExactDepthOfRow.holds Try.pinned (OpenSpec.ofChange fnExactDepthOfWrong)

/-- 'laws.FnExactIsFormula': WHATEVER THE INPUT: true; the input reads as it did. -/
def fnExactIsFormulaSpec : ChangeSpec := { name := "fnExactIsFormula", fn := fun _ => fun
  | [d1, d2] => { results := [.lit (.bool true)], args := [d1, d2] }
  | _ => none }
def fnExactIsFormulaRow : OpenClaim := { program := "ythojbagdblmfnaa", sum := "a54f13cbeace325f0f0b59ded8fb5f580d53f40bb796bfb0debb4b1286f5584a", func := "loop.example/g00590/laws.FnExactIsFormula", spec := "fnExactIsFormula", unfollowed := true, recurses := true, loops := true, plainKeys := false, apart := false }
def FnExactIsFormulaSaid : Prop := fnExactIsFormulaRow.holds Try.pinned (OpenSpec.ofChange fnExactIsFormulaSpec)

/-- ITS FALSE NEIGHBOUR: 'it returns false'. Refute it at one input. -/
def fnExactIsFormulaWrong : ChangeSpec := { name := "fnExactIsFormula", fn := fun _ => fun
  | [d1, d2] => { results := [.lit (.bool false)], args := [d1, d2] }
  | _ => none }
def FnExactIsFormulaWrongFalsely : Prop := fnExactIsFormulaRow.holds Try.pinned (OpenSpec.ofChange fnExactIsFormulaWrong)

/-- 'laws.FnExactFreeLogic': WHATEVER THE INPUT: true; the input reads as it did. -/
def fnExactFreeLogicSpec : ChangeSpec := { name := "fnExactFreeLogic", fn := fun _ => fun
  | [d] => { results := [.lit (.bool true)], args := [d] }
  | _ => none }
def fnExactFreeLogicRow : OpenClaim := { program := "ythojbagdblmfnaa", sum := "a54f13cbeace325f0f0b59ded8fb5f580d53f40bb796bfb0debb4b1286f5584a", func := "loop.example/g00590/laws.FnExactFreeLogic", spec := "fnExactFreeLogic", unfollowed := true, recurses := true, loops := true, plainKeys := false, apart := false }
def FnExactFreeLogicSaid : Prop := fnExactFreeLogicRow.holds Try.pinned (OpenSpec.ofChange fnExactFreeLogicSpec)

/-- ITS FALSE NEIGHBOUR: 'it returns false'. Refute it at one input. -/
def fnExactFreeLogicWrong : ChangeSpec := { name := "fnExactFreeLogic", fn := fun _ => fun
  | [d] => { results := [.lit (.bool false)], args := [d] }
  | _ => none }
def FnExactFreeLogicWrongFalsely : Prop := fnExactFreeLogicRow.holds Try.pinned (OpenSpec.ofChange fnExactFreeLogicWrong)

/-- 'laws.FnExactEqualFormula': WHATEVER THE INPUT: true; the input reads as it did. -/
def fnExactEqualFormulaSpec : ChangeSpec := { name := "fnExactEqualFormula", fn := fun _ => fun
  | [d1, d2] => { results := [.lit (.bool true)], args := [d1, d2] }
  | _ => none }
def fnExactEqualFormulaRow : OpenClaim := { program := "ythojbagdblmfnaa", sum := "a54f13cbeace325f0f0b59ded8fb5f580d53f40bb796bfb0debb4b1286f5584a", func := "loop.example/g00590/laws.FnExactEqualFormula", spec := "fnExactEqualFormula", unfollowed := true, recurses := true, loops := true, plainKeys := false, apart := false }
def FnExactEqualFormulaSaid : Prop := fnExactEqualFormulaRow.holds Try.pinned (OpenSpec.ofChange fnExactEqualFormulaSpec)

/-- ITS FALSE NEIGHBOUR: 'it returns false'. Refute it at one input. -/
def fnExactEqualFormulaWrong : ChangeSpec := { name := "fnExactEqualFormula", fn := fun _ => fun
  | [d1, d2] => { results := [.lit (.bool false)], args := [d1, d2] }
  | _ => none }
def FnExactEqualFormulaWrongFalsely : Prop := fnExactEqualFormulaRow.holds Try.pinned (OpenSpec.ofChange fnExactEqualFormulaWrong)

/- THE SECOND FORM. 'bulk': how many values and letters a reading holds, each counted each time it is reached (what is shared counts as often as it is met; a slice's spare places count too). A statement '..UptoSaid' is the law's where the arguments, and the package variables that the reading takes, are together of bulk at most 1048576: NARROWER than '..Said'. Prove '..Said' where nothing that the law and all that it calls make is longer than what came in: it says more and counts as full. Else prove '..UptoSaid'. A law counts once. -/
mutual
def uptoBulk {H : Type} : DataW H → Nat
  | .lit (.string bytes) => bytes.length + 1
  | .lit _ => 1
  | .nil => 1
  | .ptr d => uptoBulk d + 1
  | .slice elems spare => uptoBulkAll elems + uptoBulkAll spare + 1
  | .agg parts => uptoBulkAll parts + 1
  | .iface _ d => uptoBulk d + 1
  | .map entries => uptoBulkEntries entries + 1
  | .held _ => 1
def uptoBulkAll {H : Type} : List (DataW H) → Nat
  | [] => 0
  | d :: r => uptoBulk d + uptoBulkAll r
def uptoBulkEntries {H : Type} : List (Lit × DataW H) → Nat
  | [] => 0
  | x :: r => uptoBulkEntry x + uptoBulkEntries r
def uptoBulkEntry {H : Type} : Lit × DataW H → Nat
  | (.string bytes, d) => bytes.length + uptoBulk d + 1
  | (_, d) => uptoBulk d + 1
 end
def uptoSmall : (H : Type) → List (DataW H) → Bool := fun _ ds => decide (uptoBulkAll ds ≤ 1048576)
def OpenSpec.upto (s : _root_.Go.ChangeSpec) : _root_.Go.OpenSpec := { _root_.Go.OpenSpec.ofChange s with cond := some uptoSmall }

/-- 'laws.FnFormulas', WHERE WHAT IT READS IS OF BULK AT MOST 1048576: true; the input reads as it did. -/
def fnFormulasUptoRow : OpenClaim := { program := "ythojbagdblmfnaa", sum := "a54f13cbeace325f0f0b59ded8fb5f580d53f40bb796bfb0debb4b1286f5584a", func := "loop.example/g00590/laws.FnFormulas", spec := "fnFormulas", unfollowed := true, recurses := true, plainKeys := false, apart := false, narrowed := true }
def FnFormulasUptoSaid : Prop := fnFormulasUptoRow.holds Try.pinned (OpenSpec.upto fnFormulasSpec)

/-- 'laws.FnExactArityOf', WHERE WHAT IT READS IS OF BULK AT MOST 1048576: true; the input reads as it did. -/
def fnExactArityOfUptoRow : OpenClaim := { program := "ythojbagdblmfnaa", sum := "a54f13cbeace325f0f0b59ded8fb5f580d53f40bb796bfb0debb4b1286f5584a", func := "loop.example/g00590/laws.FnExactArityOf", spec := "fnExactArityOf", unfollowed := true, recurses := true, plainKeys := false, apart := false, narrowed := true }
def FnExactArityOfUptoSaid : Prop := fnExactArityOfUptoRow.holds Try.pinned (OpenSpec.upto fnExactArityOfSpec)

/-- 'laws.FnExactSizeOf', WHERE WHAT IT READS IS OF BULK AT MOST 1048576: true; the input reads as it did. -/
def fnExactSizeOfUptoRow : OpenClaim := { program := "ythojbagdblmfnaa", sum := "a54f13cbeace325f0f0b59ded8fb5f580d53f40bb796bfb0debb4b1286f5584a", func := "loop.example/g00590/laws.FnExactSizeOf", spec := "fnExactSizeOf", unfollowed := true, recurses := true, loops := true, plainKeys := false, apart := false, narrowed := true }
def FnExactSizeOfUptoSaid : Prop := fnExactSizeOfUptoRow.holds Try.pinned (OpenSpec.upto fnExactSizeOfSpec)

/-- 'laws.FnExactDepthOf', WHERE WHAT IT READS IS OF BULK AT MOST 1048576: true; the input reads as it did. -/
def fnExactDepthOfUptoRow : OpenClaim := { program := "ythojbagdblmfnaa", sum := "a54f13cbeace325f0f0b59ded8fb5f580d53f40bb796bfb0debb4b1286f5584a", func := "loop.example/g00590/laws.FnExactDepthOf", spec := "fnExactDepthOf", unfollowed := true, recurses := true, loops := true, plainKeys := false, apart := false, narrowed := true }
def FnExactDepthOfUptoSaid : Prop := fnExactDepthOfUptoRow.holds Try.pinned (OpenSpec.upto fnExactDepthOfSpec)

/-- 'laws.FnExactIsFormula', WHERE WHAT IT READS IS OF BULK AT MOST 1048576: true; the input reads as it did. -/
def fnExactIsFormulaUptoRow : OpenClaim := { program := "ythojbagdblmfnaa", sum := "a54f13cbeace325f0f0b59ded8fb5f580d53f40bb796bfb0debb4b1286f5584a", func := "loop.example/g00590/laws.FnExactIsFormula", spec := "fnExactIsFormula", unfollowed := true, recurses := true, loops := true, plainKeys := false, apart := false, narrowed := true }
def FnExactIsFormulaUptoSaid : Prop := fnExactIsFormulaUptoRow.holds Try.pinned (OpenSpec.upto fnExactIsFormulaSpec)

/-- 'laws.FnExactFreeLogic', WHERE WHAT IT READS IS OF BULK AT MOST 1048576: true; the input reads as it did. -/
def fnExactFreeLogicUptoRow : OpenClaim := { program := "ythojbagdblmfnaa", sum := "a54f13cbeace325f0f0b59ded8fb5f580d53f40bb796bfb0debb4b1286f5584a", func := "loop.example/g00590/laws.FnExactFreeLogic", spec := "fnExactFreeLogic", unfollowed := true, recurses := true, loops := true, plainKeys := false, apart := false, narrowed := true }
def FnExactFreeLogicUptoSaid : Prop := fnExactFreeLogicUptoRow.holds Try.pinned (OpenSpec.upto fnExactFreeLogicSpec)

/-- 'laws.FnExactEqualFormula', WHERE WHAT IT READS IS OF BULK AT MOST 1048576: true; the input reads as it did. -/
def fnExactEqualFormulaUptoRow : OpenClaim := { program := "ythojbagdblmfnaa", sum := "a54f13cbeace325f0f0b59ded8fb5f580d53f40bb796bfb0debb4b1286f5584a", func := "loop.example/g00590/laws.FnExactEqualFormula", spec := "fnExactEqualFormula", unfollowed := true, recurses := true, loops := true, plainKeys := false, apart := false, narrowed := true }
def FnExactEqualFormulaUptoSaid : Prop := fnExactEqualFormulaUptoRow.holds Try.pinned (OpenSpec.upto fnExactEqualFormulaSpec)

end Rows
end Go.Proofs.Ythojbagdblmfnaa
