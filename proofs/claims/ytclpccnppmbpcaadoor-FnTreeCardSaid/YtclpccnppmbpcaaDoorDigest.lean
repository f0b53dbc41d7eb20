/-
  What Digest answers, in the program and in the specification: 'digestB': the digest of a text of at most 8000 bytes, else nothing.
-/
import Derived.Test.YtclpccnppmbpcaaDoorRows
import Derived.Test.YtclpccnppmbpcaaDoorBytes
import Derived.Test.YtclpccnppmbpcaaDoorDigMath
import Derived.Test.YtclpccnppmbpcaaDoorAll2
import Derived.Test.YtclpccnppmbpcaaDoorDigI
import Derived.Handy
namespace Go.Proofs.YtclpccnppmbpcaaDoor
open Go.RowKit Go.Lib
set_option linter.unusedVariables false
set_option maxRecDepth 20000

def digestB (t : ByteArray) : ByteArray := if t.size ≤ 8000 then digB t else ByteArray.empty

set_option maxHeartbeats 400000 in
theorem specDigest_any (t : ByteArray) (w : World) (ht : t.size ≤ maxLen) :
    Calls Tryd.prog 21 #[.string t] w fun e w' => e = .returned (.string (digestB t)) ∧ Below w.heap.size w w' := by
  by_cases h : t.size ≤ 8000
  · have H : Hid (digestB t = digB t) := if_pos h
    go_enter Tryd.func21, Tryd.ntmps21
    go_wp2_with (go_at_call 60; refine (specAll_any t _ (by omega)).mono ?_; rintro e w1 ⟨rfl, hb⟩)
    go_ret
    exact ⟨ret_str H.out.symm, hb⟩
  · have H : Hid (digestB t = ByteArray.empty) := if_neg h
    unfold maxLen at ht
    go_enter Tryd.func21, Tryd.ntmps21
    go_wp2
    go_ret
    exact ⟨ret_str H.out.symm, Below.refl _ _⟩
set_option maxHeartbeats 400000 in
theorem implDigest_any (t : ByteArray) (w : World) (ht : t.size ≤ maxLen) (hT : Tabs w) :
    Calls Tryd.prog 16 #[.string t] w fun e w' => e = .returned (.string (digestB t)) ∧ Below w.heap.size w w' := by
  have HT : Hid (Tabs w) := hT
  clear hT
  by_cases h : t.size ≤ 8000
  · have H : Hid (digestB t = digB t) := if_pos h
    go_enter Tryd.func16, Tryd.ntmps16
    go_wp2_with (go_at_call 57; refine (digI_any t _ (by omega) HT.out).mono ?_; rintro e w1 ⟨rfl, hb⟩)
    go_ret
    exact ⟨ret_str H.out.symm, hb⟩
  · have H : Hid (digestB t = ByteArray.empty) := if_neg h
    unfold maxLen at ht
    go_enter Tryd.func16, Tryd.ntmps16
    go_wp2
    go_ret
    exact ⟨ret_str H.out.symm, Below.refl _ _⟩
end Go.Proofs.YtclpccnppmbpcaaDoor
