/-
  The letters of the logic variables: the program's and the model's.
-/
import Derived.Test.YthhhmlohfhioeaaDoorFormText
import Derived.Test.YthhhmlohfhioeaaDoorChecked
namespace Go.Proofs.YthhhmlohfhioeaaDoor
open Go Go.RowKit

theorem letter_cases {n : Int} (h : 0 ≤ n ∧ n ≤ 3) : n = 0 ∨ n = 1 ∨ n = 2 ∨ n = 3 := by omega
theorem implLetter (n : Int) (h : 0 ≤ n ∧ n ≤ 3) (w : World) : Calls Tryd.prog 66 #[.int .i64 n] w fun e w' => e = .returned (.string (letterT n)) ∧ w' = w := by
  rcases letter_cases h with rfl | rfl | rfl | rfl
  all_goals
    go_enter Tryd.func66, Tryd.ntmps66
    go_wp2_with fail
    go_ret
    exact ⟨rfl, rfl⟩
theorem specLetter (n : Int) (h : 0 ≤ n ∧ n ≤ 3) (w : World) : Calls Tryd.prog 38 #[.int .i64 n] w fun e w' => e = .returned (.string (letterT n)) ∧ w' = w := by
  rcases letter_cases h with rfl | rfl | rfl | rfl
  all_goals
    go_enter Tryd.func38, Tryd.ntmps38
    go_wp2_with fail
    go_ret
    exact ⟨rfl, rfl⟩
end Go.Proofs.YthhhmlohfhioeaaDoor
