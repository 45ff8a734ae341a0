/-
  DERIVED. GIVEN WITH THE SEED: THE PROGRAM's TIES (one call each: nine closed facts by the kernel) AND EACH ROW's TIE, after the 31st guide's Derived/Test/Toyas{Tie, Card}.lean. No idea stands in it: it is a product of the set-up. Laid BY PROGRAM, IN A SANDBOX (cutbox-door.mjs). By AI agents, Wed Nov 11 2026. No macro, syntax, notation, axiom, sorry.
-/
import Derived.Test.YtpmmjaceehlpiaaDoorRows
import Derived.LaidByTextLater
import Derived.SevenTiedAt
import Derived.LaidSub
import Derived.LaidOnce
namespace Go.Proofs.YtpmmjaceehlpiaaDoor
open Go
set_option maxRecDepth 100000
theorem seatTie1 : Tryd.prog.laidByTextLater [("loop.example/g00590/impl.namesTable", Rows.laid_loop_example_g00590_impl_namesTable), ("loop.example/g00590/impl.codeNames", Rows.laid_loop_example_g00590_impl_codeNames)] [.data, .data] true :=
  Program.laidByTextLater_by_one 19 8 14 (by kernel_rfl) (by kernel_rfl) (by kernel_rfl) (by kernel_rfl) (by kernel_rfl) (by kernel_rfl) (fun _ _ => by kernel_rfl)
theorem noOwnUnsafe : Tryd.pinned.checked.prog.headLifts.contains "ownunsafe" = false := by kernel_rfl
theorem tie : Tryd.prog.laidByTextLater [("loop.example/g00590/impl.namesTable", Rows.laid_loop_example_g00590_impl_namesTable), ("loop.example/g00590/impl.codeNames", Rows.laid_loop_example_g00590_impl_codeNames)] [.data, .data] true :=
  Program.laidByTextLater.sub seatTie1 ["loop.example/g00590/impl.namesTable", "loop.example/g00590/impl.codeNames"] (by kernel_rfl) (by kernel_rfl)
theorem fnExec_row_tie : Rows.fnExecRow.laidByTextAt .later Tryd.pinned [.data, .data] true :=
  OpenClaim.laidByTextAt_later rfl rfl tie noOwnUnsafe
theorem tie2 : Tryd.prog.laidByTextLater [("loop.example/g00590/impl.namesTable", Rows.laid_loop_example_g00590_impl_namesTable)] [.data] true :=
  Program.laidByTextLater.sub seatTie1 ["loop.example/g00590/impl.namesTable"] (by kernel_rfl) (by kernel_rfl)
theorem fnExactExec_row_tie : Rows.fnExactExecRow.laidByTextAt .later Tryd.pinned [.data] true :=
  OpenClaim.laidByTextAt_later rfl rfl tie2 noOwnUnsafe
theorem fnExecUpto_row_tie : Rows.fnExecUptoRow.laidByTextAt .later Tryd.pinned [.data, .data] true :=
  OpenClaim.laidByTextAt_later rfl rfl tie noOwnUnsafe
theorem fnExactExecUpto_row_tie : Rows.fnExactExecUptoRow.laidByTextAt .later Tryd.pinned [.data] true :=
  OpenClaim.laidByTextAt_later rfl rfl tie2 noOwnUnsafe
end Go.Proofs.YtpmmjaceehlpiaaDoor
