/-
  A drawn flag.
-/
import Derived.Test.YtnakpbagaopelaaDoorDrawOn
namespace Go.Proofs.YtnakpbagaopelaaDoor
open Go Go.RowKit

def FlagEnd (g : Nat) (w : World) (e : Ending) (w' : World) : Prop := ∃ b : Bool, e = .returned (.bool b) ∧ Cur w' g ∧ w.grownBy w' (some g)
end Go.Proofs.YtnakpbagaopelaaDoor
