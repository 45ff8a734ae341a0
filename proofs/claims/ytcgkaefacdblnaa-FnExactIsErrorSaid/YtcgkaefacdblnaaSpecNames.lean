/-
  The model's IsName, IndexOf, AreVars, Positions: what each returns.
-/
import Derived.Test.YtcgkaefacdblnaaNames
import Derived.Test.YtcgkaefacdblnaaChecked
namespace Go.Proofs.Ytcgkaefacdblnaa
open Go Go.RowKit

theorem specIn (n lo hi : Int) (w : World) : Calls Try.prog 6 #[.int .i64 n, .int .i64 lo, .int .i64 hi] w fun e w' => e = .returned (.bool (decide (lo ≤ n) && decide (n ≤ hi))) ∧ w = w' := by
  by_cases h : lo ≤ n
  · rw [decide_eq_true h, Bool.true_and]
    go_enter Try.func6, Try.ntmps6
    go_wp2
    go_ret
    exact ⟨rfl, rfl⟩
  · rw [decide_eq_false h, Bool.false_and]
    go_enter Try.func6, Try.ntmps6
    go_wp2
    go_ret
    exact ⟨rfl, rfl⟩

theorem nat_in (n hi : Nat) : (decide ((1 : Int) ≤ (n : Int)) && decide ((n : Int) ≤ (hi : Int))) = decide (1 ≤ n ∧ n ≤ hi) := by
  rw [← Bool.decide_and]
  congr 1
  simp only [eq_iff_iff]
  omega

theorem numInfo : (Try.prog.info? 3).map (fun i => (i.zero, i.size, i.bytes)) = some (some (.int .i64 0), 1, 8) := by kernel_rfl

end Go.Proofs.Ytcgkaefacdblnaa
