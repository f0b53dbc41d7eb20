/-
  What PutText answers, in the program and in the specification: the length's bytes and the text behind them, or the empty text.
  Conditions: the string fits the form's own reach.
-/
import Derived.Test.YtcbclmhkejknoaaRows
import Derived.Test.YtcbclmhkejknoaaBytes
import Derived.Test.YtcbclmhkejknoaaPutMath
import Derived.Test.YtcbclmhkejknoaaPutNum
import Derived.Test.YtcbclmhkejknoaaJoined
import Derived.Handy
namespace Go.Proofs.Ytcbclmhkejknoaa
open Go.RowKit Go.Lib
set_option linter.unusedVariables false

def putTextB (s : ByteArray) : ByteArray := if 8000 < s.size then ByteArray.empty else putB (s.size : Int) ++ s

theorem putI_len : ∀ (f : Nat) (u : Int), (putI f u).length ≤ f + 1
  | 0, u => Nat.le_refl _
  | f + 1, u => by
    unfold putI; split
    · simp
    · have := putI_len f (u / 128); simp; omega
theorem putB_size (n : Int) : (putB n).size ≤ 10 := by unfold putB; rw [strOfNums_size]; exact putI_len 9 _

end Go.Proofs.Ytcbclmhkejknoaa
