/-
  The closed facts of the law FnExactAskForget's frame, each a theorem of its own.
-/
import Derived.Test.YtokkeadbkeehgaaGreatDoorCards
import Derived.Test.YtokkeadbkeehgaaGreatDoorTie
import Derived.WalkKit
import Derived.ProofKit
import Derived.OpenShut
import Derived.OpenVars
import Derived.ShutString
import Derived.LaidHandle
import Derived.LaidLaws
import Derived.LaidMore
namespace Go.Proofs.YtokkeadbkeehgaaGreatDoor.fnExactAskForget
set_option maxRecDepth 100000
theorem saidA : Tryz.pinned.checked.prog.funcNamed Rows.fnExactAskForgetRow.func = some 4 := by kernel_rfl
theorem saidB : joinedFacts Tryz.pinned.checked.prog 4 Tryz.f4 (OpenSpec.ofChange Rows.fnExactAskForgetSpec).bare Rows.fnExactAskForgetRow = true := by kernel_rfl
theorem saidC : Func.isInstance Tryz.pinned.checked.prog Tryz.f4 Rows.fnExactAskForgetRow.origin Rows.fnExactAskForgetRow.targs := of_decide_eq_true (by kernel_rfl)
theorem saidD : Func.isWrapper Tryz.pinned.checked.prog Tryz.f4 Rows.fnExactAskForgetRow.wrapper Rows.fnExactAskForgetRow.mainSum := by unfold Func.isWrapper; first | (rw [if_pos (by decide +kernel)]; kernel_rfl) | (rw [if_neg (by decide +kernel)]; exact ⟨rfl, rfl⟩)
end Go.Proofs.YtokkeadbkeehgaaGreatDoor.fnExactAskForget
