/-
  DERIVED. GIVEN WITH THE SEED: THE PROGRAM's TIES (one call each: nine closed facts by the kernel) AND EACH ROW's TIE, after the 31st guide's Derived/Test/Toyas{Tie, Card}.lean. No idea stands in it: it is a product of the set-up. Laid BY PROGRAM, IN A SANDBOX (cutbox-door.mjs). By AI agents, Wed Nov 11 2026. No macro, syntax, notation, axiom, sorry.
-/
import Derived.Test.YtnomkcbcjaagmabGreatDoorRows
import Derived.LaidByTextLater
import Derived.SevenTiedAt
import Derived.LaidSub
import Derived.LaidOnce
namespace Go.Proofs.YtnomkcbcjaagmabGreatDoor
open Go
set_option maxRecDepth 100000
theorem seatTie1 : Tryz.prog.laidByTextLater [("errors.errorType", Rows.laid_errors_errorType), ("loop.example/g00633/impl.firstState", Rows.laid_loop_example_g00633_impl_firstState), ("loop.example/g00633/impl.roundNums", Rows.laid_loop_example_g00633_impl_roundNums), ("loop.example/g00633/impl.errDiskForm", Rows.laid_loop_example_g00633_impl_errDiskForm), ("loop.example/g00633/impl.errNoHead", Rows.laid_loop_example_g00633_impl_errNoHead), ("loop.example/g00633/impl.errLacking", Rows.laid_loop_example_g00633_impl_errLacking), ("loop.example/g00633/impl.errNoRoom", Rows.laid_loop_example_g00633_impl_errNoRoom)] [.handle, .data, .data, .sentinel, .sentinel, .sentinel, .sentinel] true :=
  Program.laidByTextLater_by_one 102 8 65 (by kernel_rfl) (by kernel_rfl) (by kernel_rfl) (by kernel_rfl) (by kernel_rfl) (by kernel_rfl) (fun _ _ => by kernel_rfl)
theorem noOwnUnsafe : Tryz.pinned.checked.prog.headLifts.contains "ownunsafe" = false := by kernel_rfl
theorem tie : Tryz.prog.laidByTextLater [("errors.errorType", Rows.laid_errors_errorType), ("loop.example/g00633/impl.errDiskForm", Rows.laid_loop_example_g00633_impl_errDiskForm), ("loop.example/g00633/impl.errNoHead", Rows.laid_loop_example_g00633_impl_errNoHead), ("loop.example/g00633/impl.errLacking", Rows.laid_loop_example_g00633_impl_errLacking), ("loop.example/g00633/impl.errNoRoom", Rows.laid_loop_example_g00633_impl_errNoRoom)] [.handle, .sentinel, .sentinel, .sentinel, .sentinel] true :=
  Program.laidByTextLater.sub seatTie1 ["errors.errorType", "loop.example/g00633/impl.errDiskForm", "loop.example/g00633/impl.errNoHead", "loop.example/g00633/impl.errLacking", "loop.example/g00633/impl.errNoRoom"] (by kernel_rfl) (by kernel_rfl)
theorem fnArea_row_tie : Rows.fnAreaRow.laidByTextAt .later Tryz.pinned [.handle, .sentinel, .sentinel, .sentinel, .sentinel] true :=
  OpenClaim.laidByTextAt_later rfl rfl tie noOwnUnsafe
theorem fnAreaTorn_row_tie : Rows.fnAreaTornRow.laidByTextAt .later Tryz.pinned [.handle, .sentinel, .sentinel, .sentinel, .sentinel] true :=
  OpenClaim.laidByTextAt_later rfl rfl tie noOwnUnsafe
theorem tie2 : Tryz.prog.laidByTextLater [("loop.example/g00633/impl.firstState", Rows.laid_loop_example_g00633_impl_firstState), ("loop.example/g00633/impl.roundNums", Rows.laid_loop_example_g00633_impl_roundNums)] [.data, .data] true :=
  Program.laidByTextLater.sub seatTie1 ["loop.example/g00633/impl.firstState", "loop.example/g00633/impl.roundNums"] (by kernel_rfl) (by kernel_rfl)
theorem fnShow_row_tie : Rows.fnShowRow.laidByTextAt .later Tryz.pinned [.data, .data] true :=
  OpenClaim.laidByTextAt_later rfl rfl tie2 noOwnUnsafe
theorem fnAreaUpto_row_tie : Rows.fnAreaUptoRow.laidByTextAt .later Tryz.pinned [.handle, .sentinel, .sentinel, .sentinel, .sentinel] true :=
  OpenClaim.laidByTextAt_later rfl rfl tie noOwnUnsafe
theorem fnAreaTornUpto_row_tie : Rows.fnAreaTornUptoRow.laidByTextAt .later Tryz.pinned [.handle, .sentinel, .sentinel, .sentinel, .sentinel] true :=
  OpenClaim.laidByTextAt_later rfl rfl tie noOwnUnsafe
theorem fnShowUpto_row_tie : Rows.fnShowUptoRow.laidByTextAt .later Tryz.pinned [.data, .data] true :=
  OpenClaim.laidByTextAt_later rfl rfl tie2 noOwnUnsafe
end Go.Proofs.YtnomkcbcjaagmabGreatDoor
