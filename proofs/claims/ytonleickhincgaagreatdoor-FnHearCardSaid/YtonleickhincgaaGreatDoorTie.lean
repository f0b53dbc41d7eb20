/-
  DERIVED. GIVEN WITH THE SEED: THE PROGRAM's TIES (one call each: nine closed facts by the kernel) AND EACH ROW's TIE, after the 31st guide's Derived/Test/Toyas{Tie, Card}.lean. No idea stands in it: it is a product of the set-up. Laid BY PROGRAM, IN A SANDBOX (cutbox-door.mjs). By AI agents, Wed Nov 11 2026. No macro, syntax, notation, axiom, sorry.
-/
import Derived.Test.YtonleickhincgaaGreatDoorRows
import Derived.LaidByTextLater
import Derived.SevenTiedAt
import Derived.LaidSub
import Derived.LaidOnce
namespace Go.Proofs.YtonleickhincgaaGreatDoor
open Go
set_option maxRecDepth 100000
theorem seatTie1 : Tryz.prog.laidByTextLater [("errors.errorType", Rows.laid_errors_errorType), ("loop.example/g00633/impl.firstState", Rows.laid_loop_example_g00633_impl_firstState), ("loop.example/g00633/impl.roundNums", Rows.laid_loop_example_g00633_impl_roundNums)] [.handle, .data, .data] true :=
  Program.laidByTextLater_by_one 26 8 65 (by kernel_rfl) (by kernel_rfl) (by kernel_rfl) (by kernel_rfl) (by kernel_rfl) (by kernel_rfl) (fun _ _ => by kernel_rfl)
theorem noOwnUnsafe : Tryz.pinned.checked.prog.headLifts.contains "ownunsafe" = false := by kernel_rfl
theorem tie : Tryz.prog.laidByTextLater [("loop.example/g00633/impl.firstState", Rows.laid_loop_example_g00633_impl_firstState), ("loop.example/g00633/impl.roundNums", Rows.laid_loop_example_g00633_impl_roundNums)] [.data, .data] true :=
  Program.laidByTextLater.sub seatTie1 ["loop.example/g00633/impl.firstState", "loop.example/g00633/impl.roundNums"] (by kernel_rfl) (by kernel_rfl)
theorem fnHear_row_tie : Rows.fnHearRow.laidByTextAt .later Tryz.pinned [.data, .data] true :=
  OpenClaim.laidByTextAt_later rfl rfl tie noOwnUnsafe
theorem tie2 : Tryz.prog.laidByTextLater [("errors.errorType", Rows.laid_errors_errorType), ("loop.example/g00633/impl.firstState", Rows.laid_loop_example_g00633_impl_firstState), ("loop.example/g00633/impl.roundNums", Rows.laid_loop_example_g00633_impl_roundNums)] [.handle, .data, .data] true :=
  Program.laidByTextLater.sub seatTie1 ["errors.errorType", "loop.example/g00633/impl.firstState", "loop.example/g00633/impl.roundNums"] (by kernel_rfl) (by kernel_rfl)
theorem fnJudge_row_tie : Rows.fnJudgeRow.laidByTextAt .later Tryz.pinned [.handle, .data, .data] true :=
  OpenClaim.laidByTextAt_later rfl rfl tie2 noOwnUnsafe
theorem fnHearUpto_row_tie : Rows.fnHearUptoRow.laidByTextAt .later Tryz.pinned [.data, .data] true :=
  OpenClaim.laidByTextAt_later rfl rfl tie noOwnUnsafe
theorem fnJudgeUpto_row_tie : Rows.fnJudgeUptoRow.laidByTextAt .later Tryz.pinned [.handle, .data, .data] true :=
  OpenClaim.laidByTextAt_later rfl rfl tie2 noOwnUnsafe
end Go.Proofs.YtonleickhincgaaGreatDoor
