/-
  What the specification's LeafHash answers: 'leafA'.
-/
import Derived.Test.YtclpccnppmbpcagDoorRows
import Derived.Test.YtclpccnppmbpcagDoorBytes
import Derived.Test.YtclpccnppmbpcagDoorTreeMath
import Derived.Test.YtclpccnppmbpcagDoorSlA
import Derived.Test.YtclpccnppmbpcagDoorLeafNode
import Derived.Handy
namespace Go.Proofs.YtclpccnppmbpcagDoor
open Go.RowKit Go.Lib
set_option linter.unusedVariables false
set_option maxRecDepth 20000

set_option maxHeartbeats 400000 in
theorem specLeaf_any (t : ByteArray) (w : World) (ht : t.size ≤ maxLen) :
    Calls Tryd.prog 13 #[.string t] w fun e w' => e = .returned (.string (leafA t)) ∧ Below w.heap.size w w' := by
  unfold maxLen at ht
  by_cases h : t.size ≤ 100
  · have H : Hid (leafA t = leafB t) := if_pos h
    go_enter Tryd.func13, Tryd.ntmps13
    go_wp2_with fail
    refine (specL03Leaf_any t _ (by omega)).mono ?_
    rintro e w1 ⟨rfl, b1⟩
    go_wp2_with fail
    go_ret
    exact ⟨ret_str H.out.symm, b1⟩
  · have H : Hid (leafA t = ByteArray.empty) := if_neg h
    go_enter Tryd.func13, Tryd.ntmps13
    go_wp2
    go_ret
    exact ⟨ret_str H.out.symm, Below.refl _ _⟩
end Go.Proofs.YtclpccnppmbpcagDoor
