/-
  What PutText answers, in the program and in the specification: the length's bytes and the text behind them, or the empty text.
  Conditions: the string fits the form's own reach.
-/
import Derived.Test.YteiffjpmccbcoaaGreatDoorRows
import Derived.Test.YteiffjpmccbcoaaGreatDoorBytes
import Derived.Test.YteiffjpmccbcoaaGreatDoorPutMath
import Derived.Test.YteiffjpmccbcoaaGreatDoorPutNum
import Derived.Test.YteiffjpmccbcoaaGreatDoorJoined
import Derived.Handy
namespace Go.Proofs.YteiffjpmccbcoaaGreatDoor
open Go.RowKit Go.Lib
set_option linter.unusedVariables false

def putTextB (s : ByteArray) : ByteArray := if 8000 < s.size then ByteArray.empty else putB (s.size : Int) ++ s

theorem putI_len : ∀ (f : Nat) (u : Int), (putI f u).length ≤ f + 1
  | 0, u => Nat.le_refl _
  | f + 1, u => by
    unfold putI; split
    · simp
    · have := putI_len f (u / 128); simp; omega
theorem putB_size (n : Int) : (putB n).size ≤ 10 := by unfold putB; rw [strOfNums_size]; exact putI_len 9 _

set_option maxRecDepth 100000 in
set_option maxHeartbeats 1000000 in
theorem implPutText_any (s : ByteArray) (w : World) (hs : s.size ≤ maxLen) :
    Calls Tryz.prog 46 #[.string s] w fun e w' => e = .returned (.string (putTextB s)) ∧ Below w.heap.size w w' := by
  have hs' := hs
  unfold maxLen at hs'
  by_cases h : 8000 < s.size
  · have H : Hid (putTextB s = ByteArray.empty) := if_pos h
    go_enter Tryz.func46, Tryz.ntmps46
    go_wp2_with fail
    go_ret
    exact ⟨ret_str (H.out.trans rfl).symm, Below.refl _ _⟩
  · have H : Hid (putTextB s = putB (s.size : Int) ++ s) := if_neg h
    have hp := putB_size (s.size : Int)
    go_enter Tryz.func46, Tryz.ntmps46
    go_wp2_with (first | (go_at_call 44; refine (implPutNum_any _ _ (by omega) (by omega)).mono ?_; rintro e w1 ⟨rfl, hb1⟩) | (go_at_call 20; refine (joined_two _ _ _ (by omega)).mono ?_; rintro e w2 ⟨rfl, hb2⟩))
    go_ret
    exact ⟨ret_str (by rw [H.out]), hb1.trans (hb2.mono hb1.size)⟩
end Go.Proofs.YteiffjpmccbcoaaGreatDoor
