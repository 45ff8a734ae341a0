/-
  A statement over variables: what chapter 4's IsStmt comes to; the walks of the program's function and of the model's.
-/
import Derived.Test.YtnakpbagaopelaaDoorStmt
import Derived.Test.YtnakpbagaopelaaDoorNamesOf
import Derived.Test.YtnakpbagaopelaaDoorImplNames
namespace Go.Proofs.YtnakpbagaopelaaDoor
open Go Go.RowKit

def operandB (ss : List ByteArray) (s : ByteArray) (used : Bool) : Bool := if used then decide (0 ≤ place ss s) else s.toList.isEmpty
def stmtB (ss : List ByteArray) (k : Int) (a b : ByteArray) : Bool := goodVars ss && decide (0 ≤ namesN k) && operandB ss a (decide (1 ≤ namesN k)) && operandB ss b (decide (2 ≤ namesN k))

end Go.Proofs.YtnakpbagaopelaaDoor
