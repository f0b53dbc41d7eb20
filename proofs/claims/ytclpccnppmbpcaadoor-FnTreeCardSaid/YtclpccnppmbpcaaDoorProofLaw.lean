/-
  The laws of paths and proofs as the program's functions say them: what pathA and proofA hold is 32 bytes wide; incA and conA are true of them.
-/
import Derived.Test.YtclpccnppmbpcaaDoorTreeMath
import Derived.Test.YtclpccnppmbpcaaDoorPathMath
import Derived.Test.YtclpccnppmbpcaaDoorIncMath
import Derived.Test.YtclpccnppmbpcaaDoorConMath
import Derived.Test.YtclpccnppmbpcaaDoorTreeH
namespace Go.Proofs.YtclpccnppmbpcaaDoor
open Go.RowKit Go.Lib
set_option linter.unusedVariables false

theorem pathB_wide (l : List ByteArray) (i : Nat) : ∀ x ∈ pathB l i, x.size = 32 := by
  induction hn : l.length using Nat.strongRecOn generalizing l i with
  | _ n ih =>
    subst hn
    intro x hx
    by_cases h2 : 2 ≤ l.length
    · have hlt := halfN_lt h2
      have hp := halfN_pos l.length
      by_cases hi : i < halfN l.length
      · rw [pathB_left h2 hi] at hx
        rcases List.mem_append.1 hx with h | h
        · exact ih (halfN l.length) hlt (l.take (halfN l.length)) i (by simp; omega) x h
        · rw [List.mem_singleton.1 h]; exact treeB_size _
      · rw [pathB_right h2 hi] at hx
        rcases List.mem_append.1 hx with h | h
        · exact ih (l.length - halfN l.length) (by omega) (l.drop (halfN l.length)) (i - halfN l.length) (by simp) x h
        · rw [List.mem_singleton.1 h]; exact treeB_size _
    · rw [pathB_one h2] at hx; simp at hx
theorem proofB_wide (l : List ByteArray) (m : Nat) (h1 : 1 ≤ m) (hm : m ≤ l.length) (whole : Bool) : ∀ x ∈ proofB m l whole, x.size = 32 := by
  induction hn : l.length using Nat.strongRecOn generalizing l m whole with
  | _ n ih =>
    subst hn
    intro x hx
    by_cases he : m = l.length
    · rw [proofB_all he] at hx
      split at hx
      · simp at hx
      · rw [List.mem_singleton.1 hx]; exact treeB_size _
    · have h2 : 2 ≤ l.length := by omega
      have hlt := halfN_lt h2
      have hp := halfN_pos l.length
      by_cases hi : m ≤ halfN l.length
      · rw [proofB_left h2 he hi] at hx
        rcases List.mem_append.1 hx with h | h
        · exact ih (halfN l.length) hlt (l.take (halfN l.length)) m h1 (by simp; omega) whole (by simp; omega) x h
        · rw [List.mem_singleton.1 h]; exact treeB_size _
      · rw [proofB_right h2 he hi] at hx
        rcases List.mem_append.1 hx with h | h
        · exact ih (l.length - halfN l.length) (by omega) (l.drop (halfN l.length)) (m - halfN l.length) (by omega) (by simp; omega) false (by simp) x h
        · rw [List.mem_singleton.1 h]; exact treeB_size _
theorem pathA_wide (ss : List ByteArray) (i : Int) : ∀ x ∈ pathA ss i, x.size = 32 := by
  intro x hx; unfold pathA at hx; split at hx
  · exact pathB_wide _ _ x hx
  · simp at hx
theorem proofA_wide (ss : List ByteArray) (m : Int) : ∀ x ∈ proofA ss m, x.size = 32 := by
  intro x hx; unfold proofA at hx; split at hx
  · rename_i h; exact proofB_wide _ _ (by omega) (by omega) _ x hx
  · simp at hx
theorem pathA_few (ss : List ByteArray) (i : Int) : (pathA ss i).length ≤ 63 := by
  unfold pathA; split
  · rename_i h
    have h1 := entB_len h.1
    have h2 := pathB_len ss i.toNat (by omega)
    omega
  · simp
theorem proofA_few (ss : List ByteArray) (m : Int) : (proofA ss m).length ≤ 64 := by
  unfold proofA; split
  · rename_i h
    have h1 := entB_len h.1
    have h2 := proofB_len ss m.toNat (by omega) (by omega) true
    omega
  · simp
theorem wideB_of {ss : List ByteArray} (h : ∀ x ∈ ss, x.size = 32) : wideB ss = true := wideB_true fun j hj => h _ (List.getElem_mem hj)
theorem entB_take {ss : List ByteArray} (h : entB ss = true) (m : Nat) : entB (ss.take m) = true :=
  entB_true (by have := entB_len h; simp; omega) fun j hj => entB_all h _ (List.mem_of_mem_take (List.getElem_mem hj))
theorem treeA_of {ss : List ByteArray} (h : entB ss = true) : treeA ss = treeB ss := by unfold treeA; rw [h]; rfl
theorem treeA_le (ss : List ByteArray) : (treeA ss).size ≤ 32 := by
  unfold treeA; split
  · rw [treeB_size]; omega
  · simp
theorem treeA_ent {ss : List ByteArray} (h : treeA ss ≠ ByteArray.empty) : entB ss = true := by
  by_cases he : entB ss = true
  · exact he
  · exact absurd (by unfold treeA; simp [he]) h

/-- P4: each entry is included by its path. -/
theorem inc_true {ss : List ByteArray} (h : entB ss = true) (i : Nat) (hi : i < ss.length) : incA (leafB ss[i]) i ss.length (pathA ss i) (treeA ss) = true := by
  have e1 : pathA ss (i : Int) = pathB ss i := by unfold pathA; rw [if_pos ⟨h, by omega, by omega⟩]; simp
  have hw := pathA_wide ss i
  have hf := pathA_few ss i
  unfold incA
  rw [if_pos ⟨by omega, by omega, hf, leafB_size _, by rw [treeA_of h]; exact treeB_size _, wideB_of hw⟩, e1, treeA_of h]
  simpa using path_law ss i hi
/-- P5: the first ones are told by their proof to be the beginning of all. -/
theorem con_true {ss : List ByteArray} (h : entB ss = true) (m : Nat) (h1 : 1 ≤ m) (hm : m ≤ ss.length) : conA m ss.length (proofA ss m) (treeA (ss.take m)) (treeA ss) = true := by
  have e1 : proofA ss (m : Int) = proofB m ss true := by unfold proofA; rw [if_pos ⟨h, by omega, by omega⟩]; simp
  have hw := proofA_wide ss m
  have hf := proofA_few ss m
  unfold conA
  rw [if_pos ⟨by omega, by omega, hf, by rw [treeA_of (entB_take h m)]; exact treeB_size _, by rw [treeA_of h]; exact treeB_size _, wideB_of hw⟩, e1, treeA_of h, treeA_of (entB_take h m)]
  obtain ⟨s, ps, h2, h3⟩ := proof_law ss m h1 hm true
  unfold conB
  simp only [Int.toNat_natCast]
  by_cases hl : lft (pd m ss.length) = true
  · simp only [hl, Bool.and_self, if_true] at h2
    rw [if_pos hl, h2.2, decide_eq_true_iff, ← h2.1]
    rw [← h2.1] at h3; exact h3
  · simp only [hl, Bool.and_false, if_false, Bool.false_eq_true] at h2
    rw [if_neg hl, h2]
    simpa using h3
end Go.Proofs.YtclpccnppmbpcaaDoor
