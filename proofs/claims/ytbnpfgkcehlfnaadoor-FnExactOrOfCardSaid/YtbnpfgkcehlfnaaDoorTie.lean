/-
  DERIVED. GIVEN WITH THE SEED: THE PROGRAM's TIES (one call each: nine closed facts by the kernel) AND EACH ROW's TIE, after the 31st guide's Derived/Test/Toyas{Tie, Card}.lean. No idea stands in it: it is a product of the set-up. Laid BY PROGRAM, IN A SANDBOX (cutbox-door.mjs). By AI agents, Wed Nov 11 2026. No macro, syntax, notation, axiom, sorry.
-/
import Derived.Test.YtbnpfgkcehlfnaaDoorRows
import Derived.LaidByTextLater
import Derived.SevenTiedAt
import Derived.LaidSub
import Derived.LaidOnce
namespace Go.Proofs.YtbnpfgkcehlfnaaDoor
open Go
set_option maxRecDepth 100000
theorem seatTie1 : Tryd.prog.laidByTextLater [("loop.example/g00590/impl.notRow", Rows.laid_loop_example_g00590_impl_notRow), ("loop.example/g00590/impl.andTable", Rows.laid_loop_example_g00590_impl_andTable), ("loop.example/g00590/impl.orTable", Rows.laid_loop_example_g00590_impl_orTable), ("loop.example/g00590/impl.joinTable", Rows.laid_loop_example_g00590_impl_joinTable)] [.data, .data, .data, .data] true :=
  Program.laidByTextLater_by_one 38 8 10 (by kernel_rfl) (by kernel_rfl) (by kernel_rfl) (by kernel_rfl) (by kernel_rfl) (by kernel_rfl) (fun _ _ => by kernel_rfl)
theorem noOwnUnsafe : Tryd.pinned.checked.prog.headLifts.contains "ownunsafe" = false := by kernel_rfl
theorem tie : Tryd.prog.laidByTextLater [("loop.example/g00590/impl.notRow", Rows.laid_loop_example_g00590_impl_notRow), ("loop.example/g00590/impl.andTable", Rows.laid_loop_example_g00590_impl_andTable), ("loop.example/g00590/impl.orTable", Rows.laid_loop_example_g00590_impl_orTable), ("loop.example/g00590/impl.joinTable", Rows.laid_loop_example_g00590_impl_joinTable)] [.data, .data, .data, .data] true :=
  Program.laidByTextLater.sub seatTie1 ["loop.example/g00590/impl.notRow", "loop.example/g00590/impl.andTable", "loop.example/g00590/impl.orTable", "loop.example/g00590/impl.joinTable"] (by kernel_rfl) (by kernel_rfl)
theorem fnKleene_row_tie : Rows.fnKleeneRow.laidByTextAt .later Tryd.pinned [.data, .data, .data, .data] true :=
  OpenClaim.laidByTextAt_later rfl rfl tie noOwnUnsafe
theorem tie2 : Tryd.prog.laidByTextLater [("loop.example/g00590/impl.notRow", Rows.laid_loop_example_g00590_impl_notRow)] [.data] true :=
  Program.laidByTextLater.sub seatTie1 ["loop.example/g00590/impl.notRow"] (by kernel_rfl) (by kernel_rfl)
theorem fnExactNotOf_row_tie : Rows.fnExactNotOfRow.laidByTextAt .later Tryd.pinned [.data] true :=
  OpenClaim.laidByTextAt_later rfl rfl tie2 noOwnUnsafe
theorem tie3 : Tryd.prog.laidByTextLater [("loop.example/g00590/impl.andTable", Rows.laid_loop_example_g00590_impl_andTable)] [.data] true :=
  Program.laidByTextLater.sub seatTie1 ["loop.example/g00590/impl.andTable"] (by kernel_rfl) (by kernel_rfl)
theorem fnExactAndOf_row_tie : Rows.fnExactAndOfRow.laidByTextAt .later Tryd.pinned [.data] true :=
  OpenClaim.laidByTextAt_later rfl rfl tie3 noOwnUnsafe
theorem tie4 : Tryd.prog.laidByTextLater [("loop.example/g00590/impl.orTable", Rows.laid_loop_example_g00590_impl_orTable)] [.data] true :=
  Program.laidByTextLater.sub seatTie1 ["loop.example/g00590/impl.orTable"] (by kernel_rfl) (by kernel_rfl)
theorem fnExactOrOf_row_tie : Rows.fnExactOrOfRow.laidByTextAt .later Tryd.pinned [.data] true :=
  OpenClaim.laidByTextAt_later rfl rfl tie4 noOwnUnsafe
theorem tie5 : Tryd.prog.laidByTextLater [("loop.example/g00590/impl.joinTable", Rows.laid_loop_example_g00590_impl_joinTable)] [.data] true :=
  Program.laidByTextLater.sub seatTie1 ["loop.example/g00590/impl.joinTable"] (by kernel_rfl) (by kernel_rfl)
theorem fnExactJoinOf_row_tie : Rows.fnExactJoinOfRow.laidByTextAt .later Tryd.pinned [.data] true :=
  OpenClaim.laidByTextAt_later rfl rfl tie5 noOwnUnsafe
theorem fnExactIsWithin_row_tie : Rows.fnExactIsWithinRow.laidByTextAt .later Tryd.pinned [.data] true :=
  OpenClaim.laidByTextAt_later rfl rfl tie5 noOwnUnsafe
theorem fnKleeneUpto_row_tie : Rows.fnKleeneUptoRow.laidByTextAt .later Tryd.pinned [.data, .data, .data, .data] true :=
  OpenClaim.laidByTextAt_later rfl rfl tie noOwnUnsafe
theorem fnExactNotOfUpto_row_tie : Rows.fnExactNotOfUptoRow.laidByTextAt .later Tryd.pinned [.data] true :=
  OpenClaim.laidByTextAt_later rfl rfl tie2 noOwnUnsafe
theorem fnExactAndOfUpto_row_tie : Rows.fnExactAndOfUptoRow.laidByTextAt .later Tryd.pinned [.data] true :=
  OpenClaim.laidByTextAt_later rfl rfl tie3 noOwnUnsafe
theorem fnExactOrOfUpto_row_tie : Rows.fnExactOrOfUptoRow.laidByTextAt .later Tryd.pinned [.data] true :=
  OpenClaim.laidByTextAt_later rfl rfl tie4 noOwnUnsafe
theorem fnExactJoinOfUpto_row_tie : Rows.fnExactJoinOfUptoRow.laidByTextAt .later Tryd.pinned [.data] true :=
  OpenClaim.laidByTextAt_later rfl rfl tie5 noOwnUnsafe
theorem fnExactIsWithinUpto_row_tie : Rows.fnExactIsWithinUptoRow.laidByTextAt .later Tryd.pinned [.data] true :=
  OpenClaim.laidByTextAt_later rfl rfl tie5 noOwnUnsafe
end Go.Proofs.YtbnpfgkcehlfnaaDoor
