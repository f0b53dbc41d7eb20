/-
  When names rise; a row that is not right; texts that are not too long.
-/
import Derived.Test.YtefakcpclihaealDoorRows
import Derived.Test.YtefakcpclihaealDoorFldMath
namespace Go.Proofs.YtefakcpclihaealDoor
open Go.RowKit Go.Lib
set_option linter.unusedVariables false

theorem rise_iff : ∀ (fs : List Fld), rise fs = true ↔ ∀ j (h0 : 0 < j) (h : j < fs.length), Op.bytesLess (fs[j - 1]'(by omega)).n.toList fs[j].n.toList = true
  | [] => ⟨fun _ j h0 h => by simp at h, fun _ => rfl⟩
  | [a] => ⟨fun _ j h0 h => by simp at h; omega, fun _ => rfl⟩
  | a :: b :: r => by
    have ih := rise_iff (b :: r)
    show (Op.bytesLess a.n.toList b.n.toList && rise (b :: r)) = true ↔ _
    rw [Bool.and_eq_true, ih]
    constructor
    · rintro ⟨h1, h2⟩ j h0 h
      match j, h0 with
      | 1, _ => exact h1
      | j + 2, _ => exact h2 (j + 1) (by omega) (by simpa using h)
    · intro h
      exact ⟨h 1 (by omega) (by simp), fun j h0 hj => by
        obtain ⟨m, rfl⟩ : ∃ m, j = m + 1 := ⟨j - 1, by omega⟩
        exact h (m + 1 + 1) (by omega) (by simpa using hj)⟩
theorem rwB_not_all {k : ByteArray} {at_ : Int} {fs : List Fld} {i : Nat} (hi : i < fs.length) (h : fdB fs[i] = false) : rwB k at_ fs = false := by
  cases hr : rwB k at_ fs with
  | false => rfl
  | true =>
    have := (rwB_parts hr).2.2.2.1 _ (List.getElem_mem hi)
    rw [h] at this; cases this
theorem rwB_not_rise {k : ByteArray} {at_ : Int} {fs : List Fld} {i : Nat} (h0 : 0 < i) (hi : i < fs.length) (h : Op.bytesLess (fs[i - 1]'(by omega)).n.toList fs[i].n.toList = false) : rwB k at_ fs = false := by
  cases hr : rwB k at_ fs with
  | false => rfl
  | true =>
    have := (rise_iff fs).1 (rwB_parts hr).2.2.2.2 i h0 hi
    rw [h] at this; cases this
/-- No text of a field is too long to be read. -/
def FldsLe (fs : List Fld) : Prop := ∀ f ∈ fs, f.n.size ≤ maxLen ∧ f.c.size ≤ maxLen ∧ f.s.size ≤ maxLen ∧ f.v.size ≤ maxLen
end Go.Proofs.YtefakcpclihaealDoor
