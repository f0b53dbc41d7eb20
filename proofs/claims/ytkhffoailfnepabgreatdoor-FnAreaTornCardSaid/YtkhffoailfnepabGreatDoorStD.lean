/-
  A disk in a variable's box: laid anew at each step.
-/
import Derived.Test.YtkhffoailfnepabGreatDoorRows
import Derived.Test.YtkhffoailfnepabGreatDoorBytesDigMath
import Derived.Test.YtkhffoailfnepabGreatDoorSlASlBOwnSOwnBSrc
import Derived.Test.YtkhffoailfnepabGreatDoorDrawsDrawKitDskMath
import Derived.Test.YtkhffoailfnepabGreatDoorDskRAppSStepAppDskA
import Derived.Test.YtkhffoailfnepabGreatDoorDskSDskCDskT
import Derived.Test.YtkhffoailfnepabGreatDoorLawDLwDskLwArLawIPutMathPutNum
import Derived.Test.YtkhffoailfnepabGreatDoorStpMathAreaPutMUnsealSSpecGN
namespace Go.Proofs.YtkhffoailfnepabGreatDoor
open Go.RowKit Go.Lib
set_option linter.unusedVariables false

/-- A disk in a variable's box at X. -/
structure StD (W : World) (X : Nat) (ss : List ByteArray) (ps : List Pnd) (v1 v2 : Value) (x : World) : Prop where
  bel : Below W.heap.size W x
  box : Bxs x X 26 #[v1, v2]
  own : DskO W.heap.size ss ps v1 v2 x
  lo : W.heap.size ≤ X
theorem StD.below {W : World} {X : Nat} {ss : List ByteArray} {ps : List Pnd} {v1 v2 : Value} {x x' : World} (h : StD W X ss ps v1 v2 x) (hb : Below x.heap.size x x') : StD W X ss ps v1 v2 x' := ⟨chainB h.bel hb, h.box.below hb, h.own.below hb, h.lo⟩
/-- Another disk is laid into the box. -/
theorem StD.put {W : World} {X : Nat} {ss : List ByteArray} {ps : List Pnd} {v1 v2 : Value} {x : World} (h : StD W X ss ps v1 v2 x) {ss' : List ByteArray} {ps' : List Pnd} {u1 u2 : Value} {base : Nat} (ho : DskO base ss' ps' u1 u2 x) (hb : X < base) : StD W X ss' ps' u1 u2 ((x.setCell ⟨X, 0, none⟩ u1).setCell ⟨X, 1, none⟩ u2) :=
  ⟨(h.bel.setCell h.lo _).setCell h.lo _, (h.box.set 0 u1).set 1 u2, ((ho.set hb 0 u1).set hb 1 u2).mono (by have := h.lo; omega), h.lo⟩
theorem StD.cells {W : World} {X : Nat} {ss : List ByteArray} {ps : List Pnd} {v1 v2 : Value} {x : World} (h : StD W X ss ps v1 v2 x) : x.cell? ⟨X, 0, none⟩ = some v1 ∧ x.cell? ⟨X, 1, none⟩ = some v2 ∧ x.frozen? ⟨X, 0, none⟩ = false ∧ x.frozen? ⟨X, 1, none⟩ = false := ⟨h.box.cell 0, h.box.cell 1, h.box.fr 0, h.box.fr 1⟩
/-- The box alone. -/
structure StB (W : World) (X : Nat) (v1 v2 : Value) (x : World) : Prop where
  bel : Below W.heap.size W x
  box : Bxs x X 26 #[v1, v2]
  lo : W.heap.size ≤ X
theorem StD.b {W : World} {X : Nat} {ss : List ByteArray} {ps : List Pnd} {v1 v2 : Value} {x : World} (h : StD W X ss ps v1 v2 x) : StB W X v1 v2 x := ⟨h.bel, h.box, h.lo⟩
theorem StB.put {W : World} {X : Nat} {v1 v2 : Value} {x : World} (h : StB W X v1 v2 x) {ss' : List ByteArray} {ps' : List Pnd} {u1 u2 : Value} {base : Nat} (ho : DskO base ss' ps' u1 u2 x) (hb : X < base) : StD W X ss' ps' u1 u2 ((x.setCell ⟨X, 0, none⟩ u1).setCell ⟨X, 1, none⟩ u2) :=
  ⟨(h.bel.setCell h.lo _).setCell h.lo _, (h.box.set 0 u1).set 1 u2, ((ho.set hb 0 u1).set hb 1 u2).mono (by have := h.lo; omega), h.lo⟩
theorem StB.set4 {W : World} {X : Nat} {v1 v2 : Value} {x : World} (h : StB W X v1 v2 x) {Y : Nat} (hY : X < Y) (x0 x1 x2 x3 : Value) : StB W X v1 v2 ((((x.setCell ⟨Y, 0, none⟩ x0).setCell ⟨Y, 1, none⟩ x1).setCell ⟨Y, 2, none⟩ x2).setCell ⟨Y, 3, none⟩ x3) :=
  ⟨below_set4 h.bel (by have := h.lo; omega) x0 x1 x2 x3, ((((h.box.other Y 0 (by omega) x0).other Y 1 (by omega) x1).other Y 2 (by omega) x2).other Y 3 (by omega) x3), h.lo⟩
theorem do_all {l : List Stp} {ss : List ByteArray} {ps : List Pnd} {k : Nat} {c : Int} (hk : k < l.length) (h : doC ss ps (l.take (k + 1)) = c) (hc : c ≠ 0) : doC ss ps l = c ∧ doS ss ps l = [] ∧ doP ss ps l = [] := by
  have e := do_early (l := l) (ss := ss) (ps := ps) (k := k + 1) (m := l.length) (by omega) (by rw [h]; exact hc)
  rw [List.take_of_length_le (Nat.le_refl _), h] at e
  have := do_ill l ss ps (by rw [e]; exact hc)
  exact ⟨e, this.1, this.2⟩

end Go.Proofs.YtkhffoailfnepabGreatDoor
