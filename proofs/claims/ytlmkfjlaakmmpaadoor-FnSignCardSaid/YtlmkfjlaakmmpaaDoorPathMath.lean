/-
  PathOf and ProofOf as plain functions: 'pathA', 'proofA'; how long they are.
-/
import Derived.Test.YtlmkfjlaakmmpaaDoorBytes
import Derived.Test.YtlmkfjlaakmmpaaDoorTreeMath
import Derived.Test.YtlmkfjlaakmmpaaDoorSlA
namespace Go.Proofs.YtlmkfjlaakmmpaaDoor
open Go.RowKit Go.Lib
set_option linter.unusedVariables false

theorem pathB_len (l : List ByteArray) (i : Nat) (h : i < l.length) : (pathB l i).length < l.length := by
  induction hn : l.length using Nat.strongRecOn generalizing l i with
  | _ n ih =>
    subst hn
    by_cases h2 : 2 ≤ l.length
    · have hlt := halfN_lt h2
      have hp := halfN_pos l.length
      by_cases hi : i < halfN l.length
      · have I := ih (halfN l.length) hlt (l.take (halfN l.length)) i (by simp; omega) (by simp; omega)
        rw [pathB_left h2 hi, List.length_append]; simp; omega
      · have I := ih (l.length - halfN l.length) (by omega) (l.drop (halfN l.length)) (i - halfN l.length) (by simp; omega) (by simp)
        rw [pathB_right h2 hi, List.length_append]; simp; omega
    · rw [pathB_one h2]; simp; omega
theorem proofB_len (l : List ByteArray) (m : Nat) (h1 : 1 ≤ m) (h : m ≤ l.length) (whole : Bool) : (proofB m l whole).length ≤ l.length := by
  induction hn : l.length using Nat.strongRecOn generalizing l m whole with
  | _ n ih =>
    subst hn
    by_cases he : m = l.length
    · rw [proofB_all he]; split <;> simp; omega
    · have h2 : 2 ≤ l.length := by omega
      have hlt := halfN_lt h2
      have hp := halfN_pos l.length
      by_cases hi : m ≤ halfN l.length
      · have I := ih (halfN l.length) hlt (l.take (halfN l.length)) m h1 (by simp; omega) whole (by simp; omega)
        rw [proofB_left h2 he hi, List.length_append]; simp; omega
      · have I := ih (l.length - halfN l.length) (by omega) (l.drop (halfN l.length)) (m - halfN l.length) (by omega) (by simp; omega) false (by simp)
        rw [proofB_right h2 he hi, List.length_append]; simp; omega
def pathA (ss : List ByteArray) (i : Int) : List ByteArray := if entB ss = true ∧ 0 ≤ i ∧ i < ss.length then pathB ss i.toNat else []
def proofA (ss : List ByteArray) (m : Int) : List ByteArray := if entB ss = true ∧ 1 ≤ m ∧ m ≤ ss.length then proofB m.toNat ss true else []
theorem pathA_len (ss : List ByteArray) (i : Int) : (pathA ss i).length ≤ 1024 := by
  unfold pathA; split
  · rename_i h
    have h1 := entB_len h.1
    have h2 := pathB_len ss i.toNat (by omega)
    omega
  · simp
theorem proofA_len (ss : List ByteArray) (m : Int) : (proofA ss m).length ≤ 1024 := by
  unfold proofA; split
  · rename_i h
    have h1 := entB_len h.1
    have h2 := proofB_len ss m.toNat (by omega) (by omega) true
    omega
  · simp
end Go.Proofs.YtlmkfjlaakmmpaaDoor
