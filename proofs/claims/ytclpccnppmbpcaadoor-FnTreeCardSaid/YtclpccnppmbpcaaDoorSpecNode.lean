/-
  What the specification's NodeHash answers: 'nodeA'.
-/
import Derived.Test.YtclpccnppmbpcaaDoorRows
import Derived.Test.YtclpccnppmbpcaaDoorBytes
import Derived.Test.YtclpccnppmbpcaaDoorTreeMath
import Derived.Test.YtclpccnppmbpcaaDoorSlA
import Derived.Test.YtclpccnppmbpcaaDoorLeafNode
import Derived.Handy
namespace Go.Proofs.YtclpccnppmbpcaaDoor
open Go.RowKit Go.Lib
set_option linter.unusedVariables false
set_option maxRecDepth 20000

set_option maxHeartbeats 400000 in
theorem specNode_any (l r : ByteArray) (w : World) (hl : l.size ≤ maxLen) (hr : r.size ≤ maxLen) :
    Calls Tryd.prog 40 #[.string l, .string r] w fun e w' => e = .returned (.string (nodeA l r)) ∧ Below w.heap.size w w' := by
  unfold maxLen at hl hr
  by_cases h1 : l.size = 32
  · have d1 : ((l.size : Int) != 32) = false := by simp; omega
    by_cases h2 : r.size = 32
    · have d2 : ((r.size : Int) != 32) = false := by simp; omega
      have H : Hid (nodeA l r = nodeB l r) := if_pos ⟨h1, h2⟩
      have hc := fun w => specL03Node_any l r w (by omega) (by omega)
      clear h1 h2
      go_enter Tryd.func40, Tryd.ntmps40
      go_wp2_with fail
      refine (hc _).mono ?_
      rintro e w1 ⟨rfl, b1⟩
      go_wp2_with fail
      go_ret
      exact ⟨ret_str H.out.symm, b1⟩
    · have d2 : ((r.size : Int) != 32) = true := by simp; omega
      have H : Hid (nodeA l r = ByteArray.empty) := if_neg fun h => h2 h.2
      clear h1 h2
      go_enter Tryd.func40, Tryd.ntmps40
      go_wp2
      go_ret
      exact ⟨ret_str H.out.symm, Below.refl _ _⟩
  · have d1 : ((l.size : Int) != 32) = true := by simp; omega
    have H : Hid (nodeA l r = ByteArray.empty) := if_neg fun h => h1 h.1
    clear h1
    go_enter Tryd.func40, Tryd.ntmps40
    go_wp2
    go_ret
    exact ⟨ret_str H.out.symm, Below.refl _ _⟩
end Go.Proofs.YtclpccnppmbpcaaDoor
