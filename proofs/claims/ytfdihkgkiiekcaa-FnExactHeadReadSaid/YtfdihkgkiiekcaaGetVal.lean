/-
  What GetNum's answer is, as a value in memory.
-/
import Derived.Test.YtfdihkgkiiekcaaRows
import Derived.Test.YtfdihkgkiiekcaaBytes
import Derived.Test.YtfdihkgkiiekcaaScanMath
import Derived.Handy
namespace Go.Proofs.Ytfdihkgkiiekcaa
open Go.RowKit
set_option linter.unusedVariables false

theorem ret_valN {a b : Value} (h : a = b) : Ending.returned a = .returned b := by rw [h]
def getV (s : ByteArray) (a : Int) : Value := numOut (getN s a).1 (getN s a).2.1 (getN s a).2.2

theorem getV_size {s : ByteArray} {a : Int} (h : 8000 < s.size) : getV s a = numOut 0 0 2 := by unfold getV getN; rw [if_pos h]
theorem getV_form {s : ByteArray} {a : Int} (h : ¬ 8000 < s.size) (h1 : a < 0) : getV s a = numOut 0 0 1 := by unfold getV getN; rw [if_neg h, if_pos h1]
theorem getV_bad {s : ByteArray} {a : Nat} {c : Int} (h : ¬ 8000 < s.size) (hc : c ≠ 0) (e : scanAt s a = (c, 0, 0)) : getV s (a : Int) = numOut 0 0 c := by
  unfold getV getN; rw [if_neg h, if_neg (by omega), Int.toNat_natCast, e, if_neg hc]
theorem getV_ok {s : ByteArray} {a k : Nat} {u : Int} (h : ¬ 8000 < s.size) (e : scanAt s a = (0, u, k)) : getV s (a : Int) = numOut (unfoldN u) ((a : Int) + (k : Int)) 0 := by
  unfold getV getN; rw [if_neg h, if_neg (by omega), Int.toNat_natCast, e, if_pos rfl]

theorem getN_cases (s : ByteArray) (a : Int) : (∃ n b, getN s a = (n, b, 0)) ∨ (∃ c, c ≠ 0 ∧ getN s a = (0, 0, c)) := by
  unfold getN
  split
  · exact .inr ⟨2, by decide, rfl⟩
  · split
    · exact .inr ⟨1, by decide, rfl⟩
    · split
      · exact .inl ⟨_, _, rfl⟩
      · rename_i h; exact .inr ⟨_, h, rfl⟩

end Go.Proofs.Ytfdihkgkiiekcaa
