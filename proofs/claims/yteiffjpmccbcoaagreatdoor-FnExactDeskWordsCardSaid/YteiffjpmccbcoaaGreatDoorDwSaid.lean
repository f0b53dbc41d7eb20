/-
  The closed facts of the law FnExactDeskWords's frame, each a theorem of its own.
-/
import Derived.Test.YteiffjpmccbcoaaGreatDoorCards
import Derived.Test.YteiffjpmccbcoaaGreatDoorTie
import Derived.WalkKit
import Derived.ProofKit
import Derived.OpenShut
import Derived.OpenVars
import Derived.ShutString
import Derived.LaidHandle
import Derived.LaidLaws
import Derived.LaidMore
namespace Go.Proofs.YteiffjpmccbcoaaGreatDoor.fnExactDeskWords
set_option maxRecDepth 100000
theorem saidA : Tryz.pinned.checked.prog.funcNamed Rows.fnExactDeskWordsRow.func = some 3 := by kernel_rfl
theorem saidC : Func.isInstance Tryz.pinned.checked.prog Tryz.f3 Rows.fnExactDeskWordsRow.origin Rows.fnExactDeskWordsRow.targs := of_decide_eq_true (by kernel_rfl)
theorem saidD : Func.isWrapper Tryz.pinned.checked.prog Tryz.f3 Rows.fnExactDeskWordsRow.wrapper Rows.fnExactDeskWordsRow.mainSum := by unfold Func.isWrapper; first | (rw [if_pos (by decide +kernel)]; kernel_rfl) | (rw [if_neg (by decide +kernel)]; exact ⟨rfl, rfl⟩)
end Go.Proofs.YteiffjpmccbcoaaGreatDoor.fnExactDeskWords
