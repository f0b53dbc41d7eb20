/-
  A box of three cells: what is read off it, and what each step leaves of it.
-/
import Derived.Test.YtlmkfjlaakmmpahRows
import Derived.Test.YtlmkfjlaakmmpahBytes
import Derived.Test.YtlmkfjlaakmmpahDigMath
import Derived.Test.YtlmkfjlaakmmpahOwnS
import Derived.Handy
import Derived.OwnWalk
namespace Go.Proofs.Ytlmkfjlaakmmpah
open Go.RowKit Go.Lib
set_option linter.unusedVariables false

def B3 (w : World) (b : Nat) (T : TypeId) (x y z : Value) : Prop := w.heap[b]? = some (.cells #[x, y, z] T (0, 0))
section
variable {w w' : World} {b : Nat} {T : TypeId} {x y z : Value}
theorem B3.lt (h : B3 w b T x y z) : b < w.heap.size := lt_of_block h
theorem B3.new (w : World) (T : TypeId) (x y z : Value) : B3 (w.alloc (.cells #[x, y, z] T)) w.heap.size T x y z := (MapKept.heap_alloc w _).1
theorem B3.below (h : B3 w b T x y z) (hb : Below w.heap.size w w') : B3 w' b T x y z := (hb.block _ h.lt).trans h
theorem B3.alloc (h : B3 w b T x y z) (o : Obj) : B3 (w.alloc o) b T x y z := h.below ((Below.refl _ _).alloc (Nat.le_refl _) _)
theorem B3.grown {row : Option Nat} (h : B3 w b T x y z) (hg : w.grownBy w' row) (hne : row ≠ some b) : B3 w' b T x y z := (hg.block b h.lt (fun e => hne e.symm)).trans h
theorem B3.c0 (h : B3 w b T x y z) : w.cell? ⟨b, 0, none⟩ = some x := by unfold B3 at h; simp [World.cell?, h]
theorem B3.c1 (h : B3 w b T x y z) : w.cell? ⟨b, 1, none⟩ = some y := by unfold B3 at h; simp [World.cell?, h]
theorem B3.c2 (h : B3 w b T x y z) : w.cell? ⟨b, 2, none⟩ = some z := by unfold B3 at h; simp [World.cell?, h]
theorem B3.fr (h : B3 w b T x y z) (i : Nat) : w.frozen? ⟨b, i, none⟩ = false := by unfold B3 at h; simp [World.frozen?, h]
theorem B3.set0 (h : B3 w b T x y z) (v : Value) : B3 (w.setCell ⟨b, 0, none⟩ v) b T v y z := by unfold B3 at *; rw [blk_set h]; rfl
theorem B3.set1 (h : B3 w b T x y z) (v : Value) : B3 (w.setCell ⟨b, 1, none⟩ v) b T x v z := by unfold B3 at *; rw [blk_set h]; rfl
theorem B3.set2 (h : B3 w b T x y z) (v : Value) : B3 (w.setCell ⟨b, 2, none⟩ v) b T x y v := by unfold B3 at *; rw [blk_set h]; rfl
theorem B3.other (h : B3 w b T x y z) (g i : Nat) (hne : g ≠ b) (v : Value) : B3 (w.setCell ⟨g, i, none⟩ v) b T x y z := by
  unfold B3 at *
  rw [show (w.setCell ⟨g, i, none⟩ v).heap[b]? = w.heap[b]? by simp [World.setCell, Array.getElem?_modify, hne]]; exact h
/-- It is no row of texts. -/
theorem B3.ne (h : B3 w b T x y z) (hT : T ≠ 9) {base : Nat} {v : Value} {m : Nat} {xs : List Value} (ho : w.ownsRow base 9 1 v m xs) : v.ownBlock ≠ some b := by
  intro he
  rcases ho.2 with ⟨rfl, _⟩ | ⟨g, cap, cur, rfl, _, hg, _⟩
  · cases he
  · have : g = b := by simpa [Value.ownBlock] using he
    subst this
    unfold B3 at h
    rw [h] at hg
    simp only [Option.some.injEq, Obj.cells.injEq] at hg
    exact hT hg.2.1
end
end Go.Proofs.Ytlmkfjlaakmmpah
