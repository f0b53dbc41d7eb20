/-
  The closed facts of the law FnExactJudge's frame, each a theorem of its own.
-/
import Derived.Test.YthkmeneepkaedaaGreatDoorCards
import Derived.Test.YthkmeneepkaedaaGreatDoorTie
import Derived.WalkKit
import Derived.ProofKit
import Derived.OpenShut
import Derived.OpenVars
import Derived.ShutString
import Derived.LaidHandle
import Derived.LaidLaws
import Derived.LaidMore
namespace Go.Proofs.YthkmeneepkaedaaGreatDoor.fnExactJudge
set_option maxRecDepth 100000
theorem saidA : Tryz.pinned.checked.prog.funcNamed Rows.fnExactJudgeRow.func = some 5 := by kernel_rfl
theorem saidB : joinedFacts Tryz.pinned.checked.prog 5 Tryz.f5 (OpenSpec.ofChange Rows.fnExactJudgeSpec).bare Rows.fnExactJudgeRow = true := by kernel_rfl
theorem saidC : Func.isInstance Tryz.pinned.checked.prog Tryz.f5 Rows.fnExactJudgeRow.origin Rows.fnExactJudgeRow.targs := of_decide_eq_true (by kernel_rfl)
theorem saidD : Func.isWrapper Tryz.pinned.checked.prog Tryz.f5 Rows.fnExactJudgeRow.wrapper Rows.fnExactJudgeRow.mainSum := by unfold Func.isWrapper; first | (rw [if_pos (by decide +kernel)]; kernel_rfl) | (rw [if_neg (by decide +kernel)]; exact ⟨rfl, rfl⟩)
end Go.Proofs.YthkmeneepkaedaaGreatDoor.fnExactJudge
