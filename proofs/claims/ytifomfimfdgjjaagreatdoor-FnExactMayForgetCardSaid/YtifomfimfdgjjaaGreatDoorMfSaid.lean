/-
  The closed facts of the law FnExactMayForget's frame, each a theorem of its own.
-/
import Derived.Test.YtifomfimfdgjjaaGreatDoorCards
import Derived.Test.YtifomfimfdgjjaaGreatDoorTie
import Derived.WalkKit
import Derived.ProofKit
import Derived.OpenShut
import Derived.OpenVars
import Derived.ShutString
import Derived.LaidHandle
import Derived.LaidLaws
import Derived.LaidMore
namespace Go.Proofs.YtifomfimfdgjjaaGreatDoor.fnExactMayForget
set_option maxRecDepth 100000
theorem saidA : Tryz.pinned.checked.prog.funcNamed Rows.fnExactMayForgetRow.func = some 4 := by kernel_rfl
theorem saidB : joinedFacts Tryz.pinned.checked.prog 4 Tryz.f4 (OpenSpec.ofChange Rows.fnExactMayForgetSpec).bare Rows.fnExactMayForgetRow = true := by kernel_rfl
theorem saidC : Func.isInstance Tryz.pinned.checked.prog Tryz.f4 Rows.fnExactMayForgetRow.origin Rows.fnExactMayForgetRow.targs := of_decide_eq_true (by kernel_rfl)
theorem saidD : Func.isWrapper Tryz.pinned.checked.prog Tryz.f4 Rows.fnExactMayForgetRow.wrapper Rows.fnExactMayForgetRow.mainSum := by unfold Func.isWrapper; first | (rw [if_pos (by decide +kernel)]; kernel_rfl) | (rw [if_neg (by decide +kernel)]; exact ⟨rfl, rfl⟩)
end Go.Proofs.YtifomfimfdgjjaaGreatDoor.fnExactMayForget
