/-
  When an Auditor is right (plain); nothing here speaks of a function.
-/
import Derived.Test.YtfdihkgkiiekcaaDoorRows
import Derived.Test.YtfdihkgkiiekcaaDoorBytes
import Derived.Test.YtfdihkgkiiekcaaDoorBxK
import Derived.Handy
import Derived.OwnWalk
namespace Go.Proofs.YtfdihkgkiiekcaaDoor
open Go.RowKit Go.Lib
set_option linter.unusedVariables false

/-- Is a text empty? As the model's programs ask it. -/
def noT (r : ByteArray) : Bool := r.toList.isEmpty
theorem noT_iff (r : ByteArray) : noT r = true ↔ r.size = 0 := by
  unfold noT
  rw [List.isEmpty_iff, ← List.length_eq_zero_iff]
  have : r.toList.length = r.size := by rw [toList_data]; simp
  rw [this]
/-- With a Size. -/
def sizB (s : Int) (r : ByteArray) : Bool := decide (1 ≤ s ∧ s ≤ 64) && decide (r.size = 32)
def audB (k : ByteArray) (s : Int) (r : ByteArray) : Bool := decide (k.size = 32) && (((s == 0) && noT r) || sizB s r)
theorem siz_zero (r : ByteArray) : sizB 0 r = false := by unfold sizB; simp
theorem aud_key {k : ByteArray} {s : Int} {r : ByteArray} (h : ¬ k.size = 32) : audB k s r = false := by unfold audB; rw [decide_eq_false h]; rfl
theorem aud_zero {k : ByteArray} {r : ByteArray} (h : k.size = 32) : audB k 0 r = noT r := by unfold audB; rw [decide_eq_true h, siz_zero]; simp
theorem aud_size {k : ByteArray} {s : Int} {r : ByteArray} (h : k.size = 32) (hs : ¬ s = 0) : audB k s r = sizB s r := by
  unfold audB
  rw [decide_eq_true h, beq_eq_false_iff_ne.2 hs]
  simp
theorem aud_parts {k : ByteArray} {s : Int} {r : ByteArray} (h : audB k s r = true) : k.size = 32 ∧ 0 ≤ s ∧ s ≤ 64 ∧ r.size ≤ 32 ∧ (s ≠ 0 → r.size = 32 ∧ 1 ≤ s) := by
  unfold audB at h
  rw [Bool.and_eq_true, decide_eq_true_iff, Bool.or_eq_true, Bool.and_eq_true, beq_iff_eq] at h
  obtain ⟨h1, h2⟩ := h
  refine ⟨h1, ?_⟩
  rcases h2 with ⟨rfl, h3⟩ | h2
  · have := (noT_iff r).1 h3
    exact ⟨by omega, by omega, by omega, fun h => absurd rfl h⟩
  · unfold sizB at h2
    rw [Bool.and_eq_true, decide_eq_true_iff, decide_eq_true_iff] at h2
    exact ⟨by omega, by omega, by omega, fun _ => ⟨h2.2, h2.1.1⟩⟩
/-- An Auditor as a value. -/
def audV (k : ByteArray) (s : Int) (r : ByteArray) : Value := .agg #[.string k, .int .i64 s, .string r]
end Go.Proofs.YtfdihkgkiiekcaaDoor
