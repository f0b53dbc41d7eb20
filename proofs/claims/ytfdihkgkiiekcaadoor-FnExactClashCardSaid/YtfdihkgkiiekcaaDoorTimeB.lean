/-
  A time, as a plain test.
-/
import Derived.Test.YtfdihkgkiiekcaaDoorRows
import Derived.Handy
namespace Go.Proofs.YtfdihkgkiiekcaaDoor

def timeB (at_ : Int) : Bool := decide (0 ≤ at_ ∧ at_ ≤ 1000000)
end Go.Proofs.YtfdihkgkiiekcaaDoor
