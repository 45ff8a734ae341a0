/-
  The law's own copy of a []string: a new row with the same strings.
-/
import Derived.Test.YtabedmjaodinbaaGreatDoorWords
import Derived.Test.YtabedmjaodinbaaGreatDoorChecked
namespace Go.Proofs.YtabedmjaodinbaaGreatDoor
open Go Go.RowKit

theorem strInfo : (Tryz.prog.info? 9).map (fun i => (i.zero, i.size, i.bytes)) = some (some (.string ⟨#[]⟩), 1, 16) := by kernel_rfl

/-- A new slice at the heap's end that holds the strings; nothing old has turned. -/
def CopyEnd (ss : List ByteArray) (w : World) (e : Ending) (w' : World) : Prop :=
  e = .returned (.slice (some ⟨w.heap.size, 0, none⟩) ss.length ss.length) ∧ w'.ownsRow w.heap.size 9 1 (.slice (some ⟨w.heap.size, 0, none⟩) ss.length ss.length) ss.length (strVals ss) ∧ Below w.heap.size w w'

theorem set_take {α : Type} (ys : List α) (k : Nat) (x : α) (h : k < ys.length) : (ys.set k x).take (k + 1) = ys.take k ++ [x] := by
  rw [List.take_succ_eq_append_getElem (by simpa using h)]
  simp [List.take_set_of_le]

end Go.Proofs.YtabedmjaodinbaaGreatDoor
