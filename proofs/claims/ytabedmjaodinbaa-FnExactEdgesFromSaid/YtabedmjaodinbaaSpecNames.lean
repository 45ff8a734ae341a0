/-
  The model's IsName, IndexOf, AreVars, Positions: what each returns.
-/
import Derived.Test.YtabedmjaodinbaaNames
import Derived.Test.YtabedmjaodinbaaChecked
namespace Go.Proofs.Ytabedmjaodinbaa
open Go Go.RowKit

theorem nat_in (n hi : Nat) : (decide ((1 : Int) ≤ (n : Int)) && decide ((n : Int) ≤ (hi : Int))) = decide (1 ≤ n ∧ n ≤ hi) := by
  rw [← Bool.decide_and]
  congr 1
  simp only [eq_iff_iff]
  omega

theorem numInfo : (Try.prog.info? 3).map (fun i => (i.zero, i.size, i.bytes)) = some (some (.int .i64 0), 1, 8) := by kernel_rfl

end Go.Proofs.Ytabedmjaodinbaa
