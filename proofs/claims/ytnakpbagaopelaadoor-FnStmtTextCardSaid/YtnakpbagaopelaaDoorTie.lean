/-
  DERIVED. GIVEN WITH THE SEED: THE PROGRAM's TIES (one call each: nine closed facts by the kernel) AND EACH ROW's TIE, after the 31st guide's Derived/Test/Toyas{Tie, Card}.lean. No idea stands in it: it is a product of the set-up. Laid BY PROGRAM, IN A SANDBOX (cutbox-door.mjs). By AI agents, Wed Nov 11 2026. No macro, syntax, notation, axiom, sorry.
-/
import Derived.Test.YtnakpbagaopelaaDoorRows
import Derived.LaidByTextLater
import Derived.SevenTiedAt
import Derived.LaidSub
import Derived.LaidOnce
namespace Go.Proofs.YtnakpbagaopelaaDoor
open Go
set_option maxRecDepth 100000
theorem seatTie1 : Tryd.prog.laidByTextLater [("loop.example/g00590/impl.namesTable", Rows.laid_loop_example_g00590_impl_namesTable), ("loop.example/g00590/impl.stmtSigns", Rows.laid_loop_example_g00590_impl_stmtSigns)] [.data, .data] true :=
  Program.laidByTextLater_by_one 19 8 14 (by kernel_rfl) (by kernel_rfl) (by kernel_rfl) (by kernel_rfl) (by kernel_rfl) (by kernel_rfl) (fun _ _ => by kernel_rfl)
theorem noOwnUnsafe : Tryd.pinned.checked.prog.headLifts.contains "ownunsafe" = false := by kernel_rfl
theorem tie : Tryd.prog.laidByTextLater [("loop.example/g00590/impl.namesTable", Rows.laid_loop_example_g00590_impl_namesTable), ("loop.example/g00590/impl.stmtSigns", Rows.laid_loop_example_g00590_impl_stmtSigns)] [.data, .data] true :=
  Program.laidByTextLater.sub seatTie1 ["loop.example/g00590/impl.namesTable", "loop.example/g00590/impl.stmtSigns"] (by kernel_rfl) (by kernel_rfl)
theorem fnStmtText_row_tie : Rows.fnStmtTextRow.laidByTextAt .later Tryd.pinned [.data, .data] true :=
  OpenClaim.laidByTextAt_later rfl rfl tie noOwnUnsafe
theorem fnExactParseStmt_row_tie : Rows.fnExactParseStmtRow.laidByTextAt .later Tryd.pinned [.data, .data] true :=
  OpenClaim.laidByTextAt_later rfl rfl tie noOwnUnsafe
theorem tie2 : Tryd.prog.laidByTextLater [("loop.example/g00590/impl.namesTable", Rows.laid_loop_example_g00590_impl_namesTable)] [.data] true :=
  Program.laidByTextLater.sub seatTie1 ["loop.example/g00590/impl.namesTable"] (by kernel_rfl) (by kernel_rfl)
theorem fnExactStmtText_row_tie : Rows.fnExactStmtTextRow.laidByTextAt .later Tryd.pinned [.data] true :=
  OpenClaim.laidByTextAt_later rfl rfl tie2 noOwnUnsafe
theorem fnStmtTextUpto_row_tie : Rows.fnStmtTextUptoRow.laidByTextAt .later Tryd.pinned [.data, .data] true :=
  OpenClaim.laidByTextAt_later rfl rfl tie noOwnUnsafe
theorem fnExactStmtTextUpto_row_tie : Rows.fnExactStmtTextUptoRow.laidByTextAt .later Tryd.pinned [.data] true :=
  OpenClaim.laidByTextAt_later rfl rfl tie2 noOwnUnsafe
theorem fnExactParseStmtUpto_row_tie : Rows.fnExactParseStmtUptoRow.laidByTextAt .later Tryd.pinned [.data, .data] true :=
  OpenClaim.laidByTextAt_later rfl rfl tie noOwnUnsafe
end Go.Proofs.YtnakpbagaopelaaDoor
