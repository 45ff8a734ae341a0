/-
  The law writes marks into a []int of the program's answer, and looks later whether they are still there.
-/
import Derived.Test.YtplchhahjmoodaaDoorNums
import Derived.Test.YtplchhahjmoodaaDoorApart
import Derived.Test.YtplchhahjmoodaaDoorChecked
namespace Go.Proofs.YtplchhahjmoodaaDoor
open Go Go.RowKit

def numsFrom (k n : Nat) : List Int := (List.range n).map fun i => ((k + i : Nat) : Int)
theorem numsFrom_length (k n : Nat) : (numsFrom k n).length = n := by simp [numsFrom]
theorem numsFrom_next (k n : Nat) : numsFrom k (n + 1) = numsFrom k n ++ [((k + n : Nat) : Int)] := by simp [numsFrom, List.range_succ]
theorem numsFrom_at (k n j : Nat) (h : j < n) : (intVals (numsFrom k n))[j]? = some (.int .i64 ((k + j : Nat) : Int)) := by
  simp [intVals, numsFrom, h]
theorem set_take_mark {α : Type} (ys : List α) (k : Nat) (x : α) (h : k < ys.length) : (ys.set k x).take (k + 1) = ys.take k ++ [x] := by
  rw [List.take_succ_eq_append_getElem (by simpa using h)]
  simp [List.take_set_of_le]

def MarkedNumsEnd (base k n : Nat) (a : Option Addr) (cap : Nat) (w : World) (e : Ending) (w' : World) : Prop :=
  e = .returned (.int .i64 ((k + n : Nat) : Int)) ∧ w'.ownsRow base 3 1 (.slice a n cap) n (intVals (numsFrom k n)) ∧ w.grownBy w' (Value.slice a n cap).ownBlock

/-- All marks are there: the count behind the last. -/
def HeldNumsEnd (k n : Nat) (w : World) (e : Ending) (w' : World) : Prop := e = .returned (.int .i64 ((k + n : Nat) : Int)) ∧ w = w'

end Go.Proofs.YtplchhahjmoodaaDoor
