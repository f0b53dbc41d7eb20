/-
  Boxes: what a block of a struct's cells holds, behind stores and new memory; what stays below.
-/
import Derived.Test.YtnppgldafhpchaaDoorRows
import Derived.Test.YtnppgldafhpchaaDoorBytes
import Derived.Test.YtnppgldafhpchaaDoorSlASlBOwnS
import Derived.Handy
import Derived.OwnWalk
namespace Go.Proofs.YtnppgldafhpchaaDoor
open Go.RowKit Go.Lib
set_option linter.unusedVariables false

theorem below_none {w w' : World} (h : w.grownBy w' none) : Below w.heap.size w w' := ⟨h.os, h.tape, h.output, h.size, fun g hg => h.block g hg (by simp)⟩
theorem szA (w : World) (o : Obj) : (w.alloc o).heap.size = w.heap.size + 1 := by simp
theorem szD (w : World) : w.drew.heap.size = w.heap.size := rfl
theorem alB {W X : World} (h : Below W.heap.size W X) (o : Obj) : Below W.heap.size W (X.alloc o) := h.alloc h.size o
/-- What a box holds. -/
def Bxs (w : World) (g : Nat) (T : TypeId) (cs : Array Value) : Prop := w.heap[g]? = some (.cells cs T (0, 0))
theorem Bxs.lt {w : World} {g : Nat} {T : TypeId} {cs : Array Value} (h : Bxs w g T cs) : g < w.heap.size := lt_of_block h
theorem Bxs.new (w : World) (T : TypeId) (cs : Array Value) : Bxs (w.alloc (.cells cs T)) w.heap.size T cs := (MapKept.heap_alloc w _).1
theorem Bxs.below {w w' : World} {g : Nat} {T : TypeId} {cs : Array Value} (h : Bxs w g T cs) (hb : Below w.heap.size w w') : Bxs w' g T cs := (hb.block g h.lt).trans h
theorem Bxs.alloc {w : World} {g : Nat} {T : TypeId} {cs : Array Value} (h : Bxs w g T cs) (o : Obj) : Bxs (w.alloc o) g T cs := h.below ((Below.refl _ _).alloc (Nat.le_refl _) o)
theorem Bxs.cell {w : World} {g : Nat} {T : TypeId} {cs : Array Value} (h : Bxs w g T cs) (i : Nat) : w.cell? ⟨g, i, none⟩ = cs[i]? := by
  unfold Bxs at h
  cases hc : cs[i]? <;> simp [World.cell?, h, hc]
theorem Bxs.fr {w : World} {g : Nat} {T : TypeId} {cs : Array Value} (h : Bxs w g T cs) (i : Nat) : w.frozen? ⟨g, i, none⟩ = false := by
  unfold Bxs at h
  simp [World.frozen?, h]
theorem Bxs.set {w : World} {g : Nat} {T : TypeId} {cs : Array Value} (h : Bxs w g T cs) (i : Nat) (v : Value) : Bxs (w.setCell ⟨g, i, none⟩ v) g T (cs.setIfInBounds i v) := by
  unfold Bxs at h ⊢
  simp [World.setCell, Array.getElem?_modify, h]
theorem Bxs.other {w : World} {g : Nat} {T : TypeId} {cs : Array Value} (h : Bxs w g T cs) (g' i : Nat) (hne : g' ≠ g) (v : Value) : Bxs (w.setCell ⟨g', i, none⟩ v) g T cs := by
  unfold Bxs at h ⊢
  rw [show (w.setCell ⟨g', i, none⟩ v).heap[g]? = w.heap[g]? by simp [World.setCell, Array.getElem?_modify, hne]]
  exact h

theorem Bxs.grown {w w' : World} {g : Nat} {T : TypeId} {cs : Array Value} (h : Bxs w g T cs) {row : Option Nat} (hg : w.grownBy w' row) (hne : some g ≠ row) : Bxs w' g T cs := (hg.block g h.lt hne).trans h
theorem Bxs.two {w : World} {g : Nat} {T : TypeId} {a b : Value} (h : Bxs w g T #[a, b]) : w.cell? ⟨g, 0, none⟩ = some a ∧ w.cell? ⟨g, 1, none⟩ = some b := ⟨h.cell 0, h.cell 1⟩
theorem Bxs.four {w : World} {g : Nat} {T : TypeId} {a b c d : Value} (h : Bxs w g T #[a, b, c, d]) : w.cell? ⟨g, 0, none⟩ = some a ∧ w.cell? ⟨g, 1, none⟩ = some b ∧ w.cell? ⟨g, 2, none⟩ = some c ∧ w.cell? ⟨g, 3, none⟩ = some d := ⟨h.cell 0, h.cell 1, h.cell 2, h.cell 3⟩
theorem Bxs.five {w : World} {g : Nat} {T : TypeId} {a b c d e : Value} (h : Bxs w g T #[a, b, c, d, e]) : w.cell? ⟨g, 0, none⟩ = some a ∧ w.cell? ⟨g, 1, none⟩ = some b ∧ w.cell? ⟨g, 2, none⟩ = some c ∧ w.cell? ⟨g, 3, none⟩ = some d ∧ w.cell? ⟨g, 4, none⟩ = some e := ⟨h.cell 0, h.cell 1, h.cell 2, h.cell 3, h.cell 4⟩
theorem below_set2 {B : Nat} {a w : World} (h : Below B a w) {g : Nat} (hg : B ≤ g) (x0 x1 : Value) : Below B a ((w.setCell ⟨g, 0, none⟩ x0).setCell ⟨g, 1, none⟩ x1) := (h.setCell hg _).setCell hg _
theorem below_set3 {B : Nat} {a w : World} (h : Below B a w) {g : Nat} (hg : B ≤ g) (x0 x1 x2 : Value) : Below B a (((w.setCell ⟨g, 0, none⟩ x0).setCell ⟨g, 1, none⟩ x1).setCell ⟨g, 2, none⟩ x2) := ((h.setCell hg _).setCell hg _).setCell hg _
theorem below_set4 {B : Nat} {a w : World} (h : Below B a w) {g : Nat} (hg : B ≤ g) (x0 x1 x2 x3 : Value) : Below B a ((((w.setCell ⟨g, 0, none⟩ x0).setCell ⟨g, 1, none⟩ x1).setCell ⟨g, 2, none⟩ x2).setCell ⟨g, 3, none⟩ x3) := (((h.setCell hg _).setCell hg _).setCell hg _).setCell hg _
theorem below_set5 {B : Nat} {a w : World} (h : Below B a w) {g : Nat} (hg : B ≤ g) (x0 x1 x2 x3 x4 : Value) : Below B a (((((w.setCell ⟨g, 0, none⟩ x0).setCell ⟨g, 1, none⟩ x1).setCell ⟨g, 2, none⟩ x2).setCell ⟨g, 3, none⟩ x3).setCell ⟨g, 4, none⟩ x4) := (below_set4 h hg x0 x1 x2 x3).setCell hg _
end Go.Proofs.YtnppgldafhpchaaDoor
