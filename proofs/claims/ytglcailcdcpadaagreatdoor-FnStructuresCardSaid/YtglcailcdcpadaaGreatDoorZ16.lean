/-
  The program's test whether a heap is one.
-/
import Derived.Test.YtglcailcdcpadaaGreatDoorZ15
import Derived.Test.YtglcailcdcpadaaGreatDoorZ09
namespace Go.Proofs.YtglcailcdcpadaaGreatDoor
open Go Go.RowKit Go.Maps

theorem heapB_no {n : Int} {vs zs : List Int} (h : ¬ (1 ≤ n ∧ n ≤ 4 ∧ (vs.length : Int) = n ∧ zs.length ≤ 6)) : heapB n vs zs = false := by simp [heapB, h]
theorem heapB_bad {n : Int} {vs zs : List Int} (h : goodH vs zs = false) : heapB n vs zs = false := by simp [heapB, h]
theorem heapB_ring {n : Int} {vs zs : List Int} (h : acyc zs = false) : heapB n vs zs = false := by simp [heapB, h]
theorem heapB_yes {n : Int} {vs zs : List Int} (h : 1 ≤ n ∧ n ≤ 4 ∧ (vs.length : Int) = n ∧ zs.length ≤ 6) (hg : goodH vs zs = true) (ha : acyc zs = true) : heapB n vs zs = decide (order vs zs = upTo zs.length) := by simp [heapB, h, hg, ha]

end Go.Proofs.YtglcailcdcpadaaGreatDoor
