/-
  What the specification's DiskFlush answers.
-/
import Derived.Test.YthiokdiodgdamaiRows
import Derived.Test.YthiokdiodgdamaiBytes
import Derived.Test.YthiokdiodgdamaiSlA
import Derived.Test.YthiokdiodgdamaiSlB
import Derived.Test.YthiokdiodgdamaiOwnS
import Derived.Test.YthiokdiodgdamaiOwnB
import Derived.Test.YthiokdiodgdamaiDskMath
import Derived.Test.YthiokdiodgdamaiDskR
import Derived.Test.YthiokdiodgdamaiDskS
import Derived.Test.YthiokdiodgdamaiDskA
import Derived.Test.YthiokdiodgdamaiDskC
import Derived.Test.YthiokdiodgdamaiDskT
import Derived.Handy
import Derived.WalkSpells
import Derived.OwnWalk
import Derived.Laws.OwnMore
namespace Go.Proofs.Ythiokdiodgdamai
open Go.RowKit Go.Lib
set_option linter.unusedVariables false
set_option maxRecDepth 20000

/-- A disk that is put together in a box at X: its sectors lie in the row at b. -/
structure FlS (W2 : World) (X b d n : Nat) (L : List ByteArray) (w : World) : Prop where
  own : w.ownsRow W2.heap.size 9 1 (.slice (some ⟨b, 0, none⟩) n d) n (strRow L)
  bel : Below W2.heap.size W2 w
  box : w.heap[X]? = some (.cells #[.slice (some ⟨b, 0, none⟩) n d, .slice none 0 0] 30 (0, 0))
  len : L.length = n
  hX : W2.heap.size ≤ X
  ne : b ≠ X
theorem FlS.drew {W2 : World} {X b d n : Nat} {L : List ByteArray} {w : World} (h : FlS W2 X b d n L w) : FlS W2 X b d n L w.drew := ⟨ownS_below h.own (Below.refl _ _).drew, h.bel.drew, h.box, h.len, h.hX, h.ne⟩
theorem FlS.cells {W2 : World} {X b d n : Nat} {L : List ByteArray} {w : World} (h : FlS W2 X b d n L w) : w.cell? ⟨X, 0, none⟩ = some (.slice (some ⟨b, 0, none⟩) n d) ∧ w.cell? ⟨X, 1, none⟩ = some (.slice none 0 0) := by simp [World.cell?, h.box]
theorem FlS.at_ {W2 : World} {X b d n : Nat} {L : List ByteArray} {w : World} (h : FlS W2 X b d n L w) (A : Nat) (hA : A < n) : (∃ x, w.cell? ⟨b, A, none⟩ = some (.string x)) ∧ w.frozen? ⟨b, A, none⟩ = false := by
  have hl := h.len
  refine ⟨⟨L[A]'(by omega), ?_⟩, h.own.frozenAt A⟩
  rw [h.own.cellAt A (by omega)]
  simp [strRow, show A < L.length by omega]
theorem FlS.put {W2 : World} {X b d n : Nat} {L : List ByteArray} {w : World} (h : FlS W2 X b d n L w) (A : Nat) (D : ByteArray) : FlS W2 X b d n (L.set A D) (w.setCell ⟨b, A, none⟩ (.string D)) := by
  refine ⟨?_, h.bel.setCell (by show W2.heap.size ≤ b; exact (h.own.lt b rfl).1) _, ?_, by rw [List.length_set]; exact h.len, h.hX, h.ne⟩
  · have := (h.own.stored A (.string D)).1
    have e : (strRow L).set A (.string D) = strRow (L.set A D) := by simp [strRow, List.map_set]
    rw [e] at this; exact this
  · rw [show (w.setCell ⟨b, A, none⟩ (.string D)).heap[X]? = w.heap[X]? by simp [World.setCell, Array.getElem?_modify, h.ne]]
    exact h.box
def flC (ss : List ByteArray) (ps : List Pnd) : Int := if dskB ss ps = true then 0 else 1
def flS (ss : List ByteArray) (ps : List Pnd) : List ByteArray := if dskB ss ps = true then flushB ss ps else []

end Go.Proofs.Ythiokdiodgdamai
