/-
  Cells that hold numbers.
-/
import Derived.Test.YtcbclmhkejknoaaRows
import Derived.Test.YtcbclmhkejknoaaBytes
import Derived.Handy
import Derived.OwnWalk
namespace Go.Proofs.Ytcbclmhkejknoaa
open Go.RowKit Go.Lib
set_option linter.unusedVariables false

/-- The cells that a slice of numbers leads to hold these numbers (of none nothing is asked: also nil). -/
def IntAt (w : World) (p : Option Addr) (ks : List Int) : Prop :=
  ∀ i (h : i < ks.length), ∃ b off, p = some ⟨b, off, none⟩ ∧ b < w.heap.size ∧ w.cell? ⟨b, off + i, none⟩ = some (.int .i64 ks[i])
theorem IntAt.below {w w' : World} {p : Option Addr} {ks : List Int} (h : IntAt w p ks) (hb : Below w.heap.size w w') : IntAt w' p ks := by
  intro i hi
  obtain ⟨b, off, rfl, h1, h2⟩ := h i hi
  exact ⟨b, off, rfl, Nat.lt_of_lt_of_le h1 hb.size, (hb.cell (p := ⟨b, off + i, none⟩) h1).trans h2⟩
theorem IntAt.nil (w : World) (p : Option Addr) : IntAt w p [] := fun i h => by simp at h
end Go.Proofs.Ytcbclmhkejknoaa
