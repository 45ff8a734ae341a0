/-
  The program's FormatInt, on the library's Itoa: for every int it returns the decimal digits, behind '-' where it is negative.
-/
import Derived.Test.YtplchhahjmoodaaDoorTables
import Derived.Test.YtplchhahjmoodaaDoorShelf
namespace Go.Proofs.YtplchhahjmoodaaDoor
open Go Go.RowKit

def NumEnd (n : Int) (w : World) (e : Ending) (w' : World) : Prop := e = .returned (.string ⟨(Lib.itoa n).toArray⟩) ∧ Below w.heap.size w w'

theorem implFormat (n : Int) (h0 : -9223372036854775808 ≤ n) (h1 : n ≤ 9223372036854775807) (w : World) (hp : Pows w) :
    Calls Tryd.prog 94 #[.int .i64 n] w (NumEnd n w) := by
  go_enter Tryd.func94, Tryd.ntmps94
  go_wp2_with fail
  refine (Tryd.strconv_Itoa n h0 h1 _ hp).mono ?_
  rintro e w1 ⟨rfl, k, os, rfl⟩
  go_wp2
  go_ret
  exact ⟨rfl, below_grow w k os⟩
end Go.Proofs.YtplchhahjmoodaaDoor
