/-
  The model's copy of a heap.
-/
import Derived.Deep.RegionHeld3
import Derived.Test.YtglcailcdcpadaaGreatDoorZ05
import Derived.Test.YtglcailcdcpadaaGreatDoorZ04
import Derived.Test.YtglcailcdcpadaaGreatDoorZ15
namespace Go.Proofs.YtglcailcdcpadaaGreatDoor
open Go Go.RowKit

theorem intVals_onec (l : List Int) : ∀ u ∈ intVals l, u.oneCell' = true := by
  intro u hu
  obtain ⟨x, _, rfl⟩ := List.mem_map.1 hu
  rfl
end Go.Proofs.YtglcailcdcpadaaGreatDoor
