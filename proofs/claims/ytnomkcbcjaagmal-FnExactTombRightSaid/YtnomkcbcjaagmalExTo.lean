/-
  laws.toTomb makes a Tomb of the same numbers.
-/
import Derived.Test.YtnomkcbcjaagmalRows
import Derived.Test.YtnomkcbcjaagmalBytes
import Derived.Test.YtnomkcbcjaagmalBxK
import Derived.Test.YtnomkcbcjaagmalTmbMath
import Derived.Handy
namespace Go.Proofs.Ytnomkcbcjaagmal
open Go.RowKit Go.Lib
set_option linter.unusedVariables false

set_option maxHeartbeats 2000000 in
theorem toTomb_any (r f y a : Int) (w : World) : Calls Try.prog 5 #[.agg #[.int .i64 r, .int .i64 f, .int .i64 y, .int .i64 a]] w fun e w' => e = .returned (.agg #[.int .i64 r, .int .i64 f, .int .i64 y, .int .i64 a]) ∧ Below w.heap.size w w' := by
  go_enter Try.func5, Try.ntmps5
  go_wp2_with fail
  refine bodyPost_ret (v := .agg #[.int .i64 r, .int .i64 f, .int .i64 y, .int .i64 a]) (by simp [results, Try.results5, go_sem]) rfl ?_
  exact ⟨rfl, alB (alB ((Below.refl _ _).alloc (Nat.le_refl _) _) _) _⟩
end Go.Proofs.Ytnomkcbcjaagmal
