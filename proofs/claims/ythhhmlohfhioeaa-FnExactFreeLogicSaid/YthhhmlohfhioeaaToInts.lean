/-
  The law's own copy of a []int: a new row with the same numbers.
-/
import Derived.Test.YthhhmlohfhioeaaNums
import Derived.Test.YthhhmlohfhioeaaChecked
namespace Go.Proofs.Ythhhmlohfhioeaa
open Go Go.RowKit

theorem intInfo : (Try.prog.info? 3).map (fun i => (i.zero, i.size, i.bytes)) = some (some (.int .i64 0), 1, 8) := by kernel_rfl

/-- A new slice at the heap's end that holds the numbers; nothing old has turned. -/
def CopyNumsEnd (ns : List Int) (w : World) (e : Ending) (w' : World) : Prop :=
  e = .returned (.slice (some ⟨w.heap.size, 0, none⟩) ns.length ns.length) ∧ w'.ownsRow w.heap.size 3 1 (.slice (some ⟨w.heap.size, 0, none⟩) ns.length ns.length) ns.length (intVals ns) ∧ Below w.heap.size w w'

theorem set_take_num {α : Type} (ys : List α) (k : Nat) (x : α) (h : k < ys.length) : (ys.set k x).take (k + 1) = ys.take k ++ [x] := by
  rw [List.take_succ_eq_append_getElem (by simpa using h)]
  simp [List.take_set_of_le]

end Go.Proofs.Ythhhmlohfhioeaa
