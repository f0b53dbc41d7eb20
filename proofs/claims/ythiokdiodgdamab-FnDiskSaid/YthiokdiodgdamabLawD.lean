/-
  What the laws' own helpers answer for disks: szDisk, toDisk, eqDisk, eqDiskOut (of two that are alike).
  Conditions: the slices' cells hold the texts and the pendings.
-/
import Derived.Test.YthiokdiodgdamabRows
import Derived.Test.YthiokdiodgdamabBytes
import Derived.Test.YthiokdiodgdamabSlA
import Derived.Test.YthiokdiodgdamabSlB
import Derived.Test.YthiokdiodgdamabOwnS
import Derived.Test.YthiokdiodgdamabLawS
import Derived.Test.YthiokdiodgdamabLawSG
import Derived.Test.YthiokdiodgdamabDskMath
import Derived.Test.YthiokdiodgdamabDskA
import Derived.Test.YthiokdiodgdamabLawP
import Derived.Handy
import Derived.WalkSpells
import Derived.OwnWalk
namespace Go.Proofs.Ythiokdiodgdamab
open Go.RowKit Go.Lib
set_option linter.unusedVariables false
set_option maxRecDepth 20000

/-- What a box holds. -/
def Bxs (w : World) (g : Nat) (T : TypeId) (cs : Array Value) : Prop := w.heap[g]? = some (.cells cs T (0, 0))
theorem Bxs.lt {w : World} {g : Nat} {T : TypeId} {cs : Array Value} (h : Bxs w g T cs) : g < w.heap.size := lt_of_block h
theorem Bxs.new (w : World) (T : TypeId) (cs : Array Value) : Bxs (w.alloc (.cells cs T)) w.heap.size T cs := (MapKept.heap_alloc w _).1
theorem Bxs.below {w w' : World} {g : Nat} {T : TypeId} {cs : Array Value} (h : Bxs w g T cs) (hb : Below w.heap.size w w') : Bxs w' g T cs := (hb.block g h.lt).trans h
theorem Bxs.alloc {w : World} {g : Nat} {T : TypeId} {cs : Array Value} (h : Bxs w g T cs) (o : Obj) : Bxs (w.alloc o) g T cs := h.below ((Below.refl _ _).alloc (Nat.le_refl _) o)
theorem Bxs.cell {w : World} {g : Nat} {T : TypeId} {cs : Array Value} (h : Bxs w g T cs) (i : Nat) : w.cell? ⟨g, i, none⟩ = cs[i]? := by
  unfold Bxs at h
  cases hc : cs[i]? <;> simp [World.cell?, h, hc]
theorem Bxs.fr {w : World} {g : Nat} {T : TypeId} {cs : Array Value} (h : Bxs w g T cs) (i : Nat) : w.frozen? ⟨g, i, none⟩ = false := by
  unfold Bxs at h
  simp [World.frozen?, h]
theorem Bxs.set {w : World} {g : Nat} {T : TypeId} {cs : Array Value} (h : Bxs w g T cs) (i : Nat) (v : Value) : Bxs (w.setCell ⟨g, i, none⟩ v) g T (cs.setIfInBounds i v) := by
  unfold Bxs at h ⊢
  simp [World.setCell, Array.getElem?_modify, h]
theorem Bxs.other {w : World} {g : Nat} {T : TypeId} {cs : Array Value} (h : Bxs w g T cs) (g' i : Nat) (hne : g' ≠ g) (v : Value) : Bxs (w.setCell ⟨g', i, none⟩ v) g T cs := by
  unfold Bxs at h ⊢
  rw [show (w.setCell ⟨g', i, none⟩ v).heap[g]? = w.heap[g]? by simp [World.setCell, Array.getElem?_modify, hne]]
  exact h

def SmallT (ss : List ByteArray) : Prop := ss.length ≤ 1048576 ∧ ∀ x ∈ ss, x.size ≤ 1048576
def SmallP (ps : List Pnd) : Prop := ps.length ≤ 1048576 ∧ ∀ p ∈ ps, p.2.size ≤ 1048576
end Go.Proofs.Ythiokdiodgdamab
