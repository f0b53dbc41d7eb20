/-
  A time, as a plain test.
-/
import Derived.Test.YteiffjpmccbcoaaGreatDoorRows
import Derived.Handy
namespace Go.Proofs.YteiffjpmccbcoaaGreatDoor

def timeB (at_ : Int) : Bool := decide (0 ≤ at_ ∧ at_ ≤ 1000000)
end Go.Proofs.YteiffjpmccbcoaaGreatDoor
