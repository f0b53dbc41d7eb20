/-
  Reading a number from a place of a text on: what rnN, rnA, rnB are where a number's own bytes stand.
-/
import Derived.Test.YtnomkcbcjaagmamDoorRows
import Derived.Test.YtnomkcbcjaagmamDoorBytes
import Derived.Test.YtnomkcbcjaagmamDoorScanMath
import Derived.Test.YtnomkcbcjaagmamDoorGetVal
import Derived.Test.YtnomkcbcjaagmamDoorGetTxt
import Derived.Test.YtnomkcbcjaagmamDoorPutMath
import Derived.Test.YtnomkcbcjaagmamDoorPutNum
import Derived.Test.YtnomkcbcjaagmamDoorNumMath
import Derived.Test.YtnomkcbcjaagmamDoorFldRd
import Derived.Handy
namespace Go.Proofs.YtnomkcbcjaagmamDoor
open Go.RowKit Go.Lib
set_option linter.unusedVariables false

/-- From the place a on these bytes stand in S. -/
def From (S : ByteArray) (a : Nat) (l : List UInt8) : Prop := S.data.toList.drop a = l
theorem From.skip {S : ByteArray} {a : Nat} {x l : List UInt8} (h : From S a (x ++ l)) : From S (a + x.length) l := by
  unfold From at *
  rw [← List.drop_drop, h]; simp
theorem sz_list (s : ByteArray) : s.data.toList.length = s.size := by simp
theorem From.len {S : ByteArray} {a : Nat} {x l : List UInt8} (h : From S a (x ++ l)) : a + x.length ≤ S.size ∨ x = [] := by
  unfold From at h
  have := congrArg List.length h
  rw [List.length_drop, sz_list, List.length_append] at this
  cases x with
  | nil => exact .inr rfl
  | cons c x => refine .inl ?_; simp at this ⊢; omega
theorem num_from {S : ByteArray} {a : Nat} {n : Int} {l : List UInt8} (hz : S.size ≤ 8000) (h0 : -9223372036854775808 ≤ n) (h1 : n ≤ 9223372036854775807) (h : From S a ((putB n).data.toList ++ l)) :
    rnN S a false = n ∧ rnA S a false = ((a + (putB n).size : Nat) : Int) ∧ rnB S a false = false ∧ From S (a + (putB n).size) l := by
  have hg := getN_put n h0 h1 S a l h hz
  have hb : rnB S a false = false := by unfold rnB; rw [hg]; rfl
  refine ⟨?_, ?_, hb, ?_⟩
  · unfold rnN; rw [if_neg (by rw [hb]; exact Bool.false_ne_true), hg]
  · unfold rnA; rw [if_neg (by rw [hb]; exact Bool.false_ne_true), hg]; simp
  · have := h.skip; rwa [sz_list] at this
end Go.Proofs.YtnomkcbcjaagmamDoor
