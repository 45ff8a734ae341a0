/-
  The program's table of the words of formulas.
-/
import Derived.Test.YthhhmlohfhioeaaDoorFlat
import Derived.Test.YthhhmlohfhioeaaDoorWords
import Derived.Test.YthhhmlohfhioeaaDoorChecked
import Derived.Test.YthhhmlohfhioeaaDoorRows
namespace Go.Proofs.YthhhmlohfhioeaaDoor
open Go Go.RowKit

def HasFormulaWords (w : World) : Prop := w.var? Tryd.prog "loop.example/g00590/impl.formulaWords" = some #[Value.string ⟨#[]⟩, Value.string ⟨#[116, 114, 117, 101]⟩, Value.string ⟨#[111, 110]⟩, Value.string ⟨#[102, 114, 111, 109]⟩, Value.string ⟨#[115, 104, 97, 114, 101, 100]⟩, Value.string ⟨#[110, 101, 120, 116]⟩, Value.string ⟨#[115, 97, 109, 101]⟩, Value.string ⟨#[112, 97, 116, 104]⟩, Value.string ⟨#[33]⟩, Value.string ⟨#[38]⟩, Value.string ⟨#[124]⟩, Value.string ⟨#[115, 111, 109, 101]⟩, Value.string ⟨#[97, 108, 108]⟩]
theorem HasFormulaWords.keeps {w w' : World} (h : HasFormulaWords w) (hb : Below w.heap.size w w') : HasFormulaWords w' := var_stays h hb
theorem gFormulaWords : Tryd.prog.globalNamed "loop.example/g00590/impl.formulaWords" = some 0 := by kernel_rfl
theorem formulaWords_of {W : World} (i : Nat) {l : List (String × DataW Unit)} (h : laidMet Tryd.prog l W) (hi : l[i]? = some ("loop.example/g00590/impl.formulaWords", Rows.laid_loop_example_g00590_impl_formulaWords)) : HasFormulaWords W :=
  (laid_at (t := 71) i h hi gFormulaWords (by kernel_rfl) (by kernel_rfl)).trans (congrArg some (show (flat Rows.laid_loop_example_g00590_impl_formulaWords).toArray = _ by kernel_rfl))
theorem HasFormulaWords.cell {w : World} (h : HasFormulaWords w) (i : Nat) : w.cell? ⟨0, i, none⟩ = (#[Value.string ⟨#[]⟩, Value.string ⟨#[116, 114, 117, 101]⟩, Value.string ⟨#[111, 110]⟩, Value.string ⟨#[102, 114, 111, 109]⟩, Value.string ⟨#[115, 104, 97, 114, 101, 100]⟩, Value.string ⟨#[110, 101, 120, 116]⟩, Value.string ⟨#[115, 97, 109, 101]⟩, Value.string ⟨#[112, 97, 116, 104]⟩, Value.string ⟨#[33]⟩, Value.string ⟨#[38]⟩, Value.string ⟨#[124]⟩, Value.string ⟨#[115, 111, 109, 101]⟩, Value.string ⟨#[97, 108, 108]⟩] : Array Value)[i]? := World.var?_cell gFormulaWords h i
end Go.Proofs.YthhhmlohfhioeaaDoor
