/-
  The closed facts of the law FnExactAnswerOf's frame, each a theorem of its own.
-/
import Derived.Test.YtamdgdkpcoeknaaGreatDoorCards
import Derived.Test.YtamdgdkpcoeknaaGreatDoorTie
import Derived.WalkKit
import Derived.ProofKit
import Derived.OpenShut
import Derived.OpenVars
import Derived.ShutString
import Derived.LaidHandle
import Derived.LaidLaws
import Derived.LaidMore
namespace Go.Proofs.YtamdgdkpcoeknaaGreatDoor.fnExactAnswerOf
set_option maxRecDepth 100000
theorem saidA : Tryz.pinned.checked.prog.funcNamed Rows.fnExactAnswerOfRow.func = some 3 := by kernel_rfl
theorem saidB : joinedFacts Tryz.pinned.checked.prog 3 Tryz.f3 (OpenSpec.ofChange Rows.fnExactAnswerOfSpec).bare Rows.fnExactAnswerOfRow = true := by kernel_rfl
theorem saidC : Func.isInstance Tryz.pinned.checked.prog Tryz.f3 Rows.fnExactAnswerOfRow.origin Rows.fnExactAnswerOfRow.targs := of_decide_eq_true (by kernel_rfl)
theorem saidD : Func.isWrapper Tryz.pinned.checked.prog Tryz.f3 Rows.fnExactAnswerOfRow.wrapper Rows.fnExactAnswerOfRow.mainSum := by unfold Func.isWrapper; first | (rw [if_pos (by decide +kernel)]; kernel_rfl) | (rw [if_neg (by decide +kernel)]; exact ⟨rfl, rfl⟩)
end Go.Proofs.YtamdgdkpcoeknaaGreatDoor.fnExactAnswerOf
