/-
  A time, as a plain test.
-/
import Derived.Test.YtfdihkgkiiekcaaRows
import Derived.Handy
namespace Go.Proofs.Ytfdihkgkiiekcaa

def timeB (at_ : Int) : Bool := decide (0 ≤ at_ ∧ at_ ≤ 1000000)
end Go.Proofs.Ytfdihkgkiiekcaa
