/-
  laws.eqTextOut says true of two TextOuts that are one.
-/
import Derived.Test.YtfjiidicnimeeafRows
import Derived.Test.YtfjiidicnimeeafBytes
import Derived.Handy
namespace Go.Proofs.Ytfjiidicnimeeaf
open Go.RowKit Go.Lib
set_option linter.unusedVariables false

set_option maxHeartbeats 1000000 in
theorem eqTextOut_same (t : ByteArray) (a c : Int) (w : World) :
    Calls Try.prog 18 #[.agg #[.string t, .int .i64 a, .int .i64 c], .agg #[.string t, .int .i64 a, .int .i64 c]] w fun e w' => e = .returned (.bool true) ∧ Below w.heap.size w w' := by
  go_enter Try.func18, Try.ntmps18
  go_wp2
  go_ret
  exact ⟨rfl, ((Below.refl _ _).alloc (Nat.le_refl _) _).alloc (by simp) _⟩
end Go.Proofs.Ytfjiidicnimeeaf
