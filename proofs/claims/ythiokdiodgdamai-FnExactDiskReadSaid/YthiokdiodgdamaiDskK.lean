/-
  What the specification's DiskCrash answers.
  Conditions: the cells of keep hold the numbers.
-/
import Derived.Test.YthiokdiodgdamaiRows
import Derived.Test.YthiokdiodgdamaiBytes
import Derived.Test.YthiokdiodgdamaiSlA
import Derived.Test.YthiokdiodgdamaiSlB
import Derived.Test.YthiokdiodgdamaiOwnS
import Derived.Test.YthiokdiodgdamaiOwnB
import Derived.Test.YthiokdiodgdamaiDskMath
import Derived.Test.YthiokdiodgdamaiDskR
import Derived.Test.YthiokdiodgdamaiDskS
import Derived.Test.YthiokdiodgdamaiDskA
import Derived.Test.YthiokdiodgdamaiDskC
import Derived.Test.YthiokdiodgdamaiDskT
import Derived.Test.YthiokdiodgdamaiDskF
import Derived.Handy
import Derived.WalkSpells
import Derived.OwnWalk
import Derived.Laws.OwnMore
namespace Go.Proofs.Ythiokdiodgdamai
open Go.RowKit Go.Lib
set_option linter.unusedVariables false
set_option maxRecDepth 20000

/-- The cells that a slice of numbers leads to hold these numbers (of none nothing is asked: also nil). -/
def IntAt (w : World) (p : Option Addr) (ks : List Int) : Prop :=
  ∀ i (h : i < ks.length), ∃ b off, p = some ⟨b, off, none⟩ ∧ b < w.heap.size ∧ w.cell? ⟨b, off + i, none⟩ = some (.int .i64 ks[i])
theorem IntAt.below {w w' : World} {p : Option Addr} {ks : List Int} (h : IntAt w p ks) (hb : Below w.heap.size w w') : IntAt w' p ks := by
  intro i hi
  obtain ⟨b, off, rfl, h1, h2⟩ := h i hi
  exact ⟨b, off, rfl, Nat.lt_of_lt_of_le h1 hb.size, (hb.cell (p := ⟨b, off + i, none⟩) h1).trans h2⟩
theorem IntAt.nil (w : World) (p : Option Addr) : IntAt w p [] := fun i h => by simp at h
theorem DskO.set2 {base : Nat} {ss : List ByteArray} {ps : List Pnd} {v1 v2 : Value} {w : World} (h : DskO base ss ps v1 v2 w) {g : Nat} (hg : g < base) (x0 x1 : Value) : DskO base ss ps v1 v2 ((w.setCell ⟨g, 0, none⟩ x0).setCell ⟨g, 1, none⟩ x1) := (h.set hg 0 x0).set hg 1 x1
theorem below_set2 {B : Nat} {a w : World} (h : Below B a w) {g : Nat} (hg : B ≤ g) (x0 x1 : Value) : Below B a ((w.setCell ⟨g, 0, none⟩ x0).setCell ⟨g, 1, none⟩ x1) := (h.setCell hg _).setCell hg _

def crS (ss : List ByteArray) (ps : List Pnd) (keep : List Int) : List ByteArray := if 400 < keep.length then [] else if dskB ss ps = true then crashB ss ps keep else ss
def crP (ss : List ByteArray) (ps : List Pnd) (keep : List Int) : List Pnd := if 400 < keep.length then [] else if dskB ss ps = true then [] else ps

end Go.Proofs.Ythiokdiodgdamai
