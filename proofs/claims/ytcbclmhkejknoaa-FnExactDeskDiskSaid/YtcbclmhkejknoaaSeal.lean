/-
  What Seal answers, in the program and in the specification: the text with its four bytes behind it, or the empty text.
  Conditions: the string fits the form's own reach.
-/
import Derived.Test.YtcbclmhkejknoaaRows
import Derived.Test.YtcbclmhkejknoaaBytes
import Derived.Test.YtcbclmhkejknoaaCrc
import Derived.Test.YtcbclmhkejknoaaFour
import Derived.Test.YtcbclmhkejknoaaJoined
import Derived.Handy
namespace Go.Proofs.Ytcbclmhkejknoaa
open Go.RowKit Go.Lib
set_option linter.unusedVariables false

def sealB (s : ByteArray) : ByteArray := if 7996 < s.size then ByteArray.empty else s ++ four (crcV 0 s)

set_option maxHeartbeats 1000000 in
theorem specSeal_any (s : ByteArray) (w : World) (hs : s.size ≤ maxLen) :
    Calls Try.prog 32 #[.string s] w fun e w' => e = .returned (.string (sealB s)) ∧ Below w.heap.size w w' := by
  have hs' := hs
  unfold maxLen at hs'
  by_cases h : 7996 < s.size
  · have H : Hid (sealB s = ByteArray.empty) := if_pos h
    go_enter Try.func32, Try.ntmps32
    go_wp2_with fail
    go_ret
    exact ⟨ret_str (H.out.trans rfl).symm, Below.refl _ _⟩
  · have H : Hid (sealB s = s ++ four (crcV 0 s)) := if_neg h
    have hb := crcV_bd 0 s
    have h4 := four_size (crcV 0 s)
    go_enter Try.func32, Try.ntmps32
    go_wp2_with (first | (go_at_call 39; refine (specL01Crc_any _ _ _ hs (by omega) (by omega)).mono ?_; rintro e w' ⟨rfl, rfl⟩) | (go_at_call 38; refine (specFour_any _ _ (by omega) (by omega)).mono ?_; rintro e w' ⟨rfl, hbel⟩))
    go_ret
    exact ⟨ret_str (by rw [H.out]), hbel⟩

set_option maxHeartbeats 1000000 in
theorem implSeal_any (s : ByteArray) (w : World) (hs : s.size ≤ maxLen) :
    Calls Try.prog 45 #[.string s] w fun e w' => e = .returned (.string (sealB s)) ∧ Below w.heap.size w w' := by
  have hs' := hs
  unfold maxLen at hs'
  by_cases h : 7996 < s.size
  · have H : Hid (sealB s = ByteArray.empty) := if_pos h
    go_enter Try.func45, Try.ntmps45
    go_wp2_with fail
    go_ret
    exact ⟨ret_str (H.out.trans rfl).symm, Below.refl _ _⟩
  · have H : Hid (sealB s = s ++ four (crcV 0 s)) := if_neg h
    have HB : Hid (crcB 0 s = crcV 0 s) := if_neg (by omega)
    go_enter Try.func45, Try.ntmps45
    have h4 := four_size (crcB 0 s)
    go_wp2_with (first | (go_at_call 48; refine (sumOf_any _ _ hs).mono ?_; rintro e w1 ⟨rfl, hbel⟩) | (go_at_call 41; refine (joined_two _ _ _ (by omega)).mono ?_; rintro e w2 ⟨rfl, hbel2⟩))
    go_ret
    exact ⟨ret_str (by rw [H.out, HB.out]), hbel.trans (hbel2.mono hbel.size)⟩
end Go.Proofs.Ytcbclmhkejknoaa
