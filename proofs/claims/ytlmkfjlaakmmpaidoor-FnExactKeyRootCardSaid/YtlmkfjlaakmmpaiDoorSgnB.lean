/-
  When a signature is right, as a plain function.
-/
import Derived.Test.YtlmkfjlaakmmpaiDoorSlA
namespace Go.Proofs.YtlmkfjlaakmmpaiDoor
open Go.RowKit Go.Lib
set_option linter.unusedVariables false

def sgnB (key : Int) (ends path : List ByteArray) : Bool := decide (0 ≤ key ∧ key ≤ 3) && (decide (ends.length = 6) && (decide (path.length = 2) && (wideB ends && wideB path)))
end Go.Proofs.YtlmkfjlaakmmpaiDoor
