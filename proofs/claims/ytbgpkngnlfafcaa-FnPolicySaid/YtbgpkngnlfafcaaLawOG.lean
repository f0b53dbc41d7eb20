/-
  A row of its own that is written cell by cell, while nothing else that was there changes.
-/
import Derived.Test.YtbgpkngnlfafcaaRows
import Derived.Test.YtbgpkngnlfafcaaBytes
import Derived.Test.YtbgpkngnlfafcaaSlA
import Derived.Test.YtbgpkngnlfafcaaOwnS
import Derived.Handy
import Derived.OwnWalk
namespace Go.Proofs.Ytbgpkngnlfafcaa
open Go.RowKit Go.Lib
set_option linter.unusedVariables false

/-- The row of block g, n elements of z cells, holds xs, and is the call's own; but for it all that lay in w is as it was. -/
def OG (w : World) (base : Nat) (T : TypeId) (z g n cap : Nat) (wr : World) (xs : List Value) : Prop :=
  wr.ownsRow base T z (.slice (some ⟨g, 0, none⟩) n cap) n xs ∧ w.grownBy wr (some g)
theorem OG.below {w : World} {base : Nat} {T : TypeId} {z g n cap : Nat} {wr : World} {xs : List Value} (h : OG w base T z g n cap wr xs) {y : World} (hb : Below wr.heap.size wr y) : OG w base T z g n cap y xs := by
  obtain ⟨h1, a⟩ := h
  exact ⟨ownS_below h1 hb, hb.os.trans a.os, hb.tape.trans a.tape, hb.output.trans a.output, Nat.le_trans a.size hb.size, fun q hq hne => (hb.block q (Nat.lt_of_lt_of_le hq a.size)).trans (a.block q hq hne)⟩
theorem OG.set {w : World} {base : Nat} {T : TypeId} {z g n cap : Nat} {wr : World} {xs : List Value} (h : OG w base T z g n cap wr xs) (j : Nat) (v : Value) : OG w base T z g n cap (wr.setCell ⟨g, j, none⟩ v) (xs.set j v) := by
  obtain ⟨h1, a⟩ := h
  refine ⟨(h1.stored j v).1, a.os, a.tape, a.output, ?_, ?_⟩
  · simpa [World.setCell] using a.size
  · intro q hq hne
    have hqg : g ≠ q := fun e => hne (by rw [e])
    rw [show (wr.setCell ⟨g, j, none⟩ v).heap[q]? = wr.heap[q]? by simp [World.setCell, Array.getElem?_modify, hqg]]
    exact a.block q hq hne
theorem OG.cell {w : World} {base : Nat} {T : TypeId} {z g n cap : Nat} {wr : World} {xs : List Value} (h : OG w base T z g n cap wr xs) (j : Nat) (hj : j < n * z) : ∃ x, wr.cell? ⟨g, j, none⟩ = some x ∧ wr.frozen? ⟨g, j, none⟩ = false := by
  have hl : xs.length = n * z := h.1.1
  exact ⟨xs[j]'(by omega), by rw [h.1.cellAt j hj, List.getElem?_eq_getElem (by omega)], h.1.frozenAt j⟩
theorem OG.start {w : World} {base : Nat} {T : TypeId} {z g n cap : Nat} {xs : List Value} (h : w.ownsRow base T z (.slice (some ⟨g, 0, none⟩) n cap) n xs) : OG w base T z g n cap w xs := ⟨h, World.grownBy.refl _ _⟩
end Go.Proofs.Ytbgpkngnlfafcaa
