/-
  The walk of the program's TruthText.
-/
import Derived.Test.YtplchhahjmoodaaDoorTruth
namespace Go.Proofs.YtplchhahjmoodaaDoor
open Go Go.RowKit

theorem implTruthText (a : Int) (w : World) : Calls Tryd.prog 71 #[.int .i64 a] w (Gave (.string (textT a)) w) := by
  by_cases h0 : a = 0
  · subst h0
    go_enter Tryd.func71, Tryd.ntmps71
    go_wp2
    go_ret
    exact ⟨rfl, rfl⟩
  · by_cases h1 : a = 1
    · subst h1
      go_enter Tryd.func71, Tryd.ntmps71
      go_wp2
      go_ret
      exact ⟨rfl, rfl⟩
    · by_cases h2 : a = 2
      · subst h2
        go_enter Tryd.func71, Tryd.ntmps71
        go_wp2
        go_ret
        exact ⟨rfl, rfl⟩
      · rw [show textT a = ⟨#[]⟩ from by simp [textT, h0, h1, h2]]
        have e0 : (a == 0) = false := by simpa using h0
        have e1 : (a == 1) = false := by simpa using h1
        have e2 : (a == 2) = false := by simpa using h2
        clear h0 h1 h2
        go_enter Tryd.func71, Tryd.ntmps71
        go_wp2
        go_ret
        exact ⟨rfl, rfl⟩
end Go.Proofs.YtplchhahjmoodaaDoor
