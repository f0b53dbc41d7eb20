/-
  What l05Disk draws, its parts: the disk that is drawn lies in a box of the call's own, beside the source.
-/
import Derived.Test.YthiokdiodgdamabRows
import Derived.Test.YthiokdiodgdamabBytes
import Derived.Test.YthiokdiodgdamabSlA
import Derived.Test.YthiokdiodgdamabSlB
import Derived.Test.YthiokdiodgdamabOwnS
import Derived.Test.YthiokdiodgdamabSrc
import Derived.Test.YthiokdiodgdamabDraws
import Derived.Test.YthiokdiodgdamabDrawKit
import Derived.Test.YthiokdiodgdamabSome
import Derived.Test.YthiokdiodgdamabDskMath
import Derived.Test.YthiokdiodgdamabDskS
import Derived.Test.YthiokdiodgdamabDskA
import Derived.Test.YthiokdiodgdamabDskC
import Derived.Test.YthiokdiodgdamabDskT
import Derived.Test.YthiokdiodgdamabDskW
import Derived.Test.YthiokdiodgdamabDskF
import Derived.Test.YthiokdiodgdamabDskLaw
import Derived.Test.YthiokdiodgdamabLawD
import Derived.Test.YthiokdiodgdamabLawDG
import Derived.Handy
namespace Go.Proofs.Ythiokdiodgdamab
open Go.RowKit Go.Lib
set_option linter.unusedVariables false

/-- A disk in a box at X (of block W on, W being the call's first), beside the source at p. -/
structure DrS (w0 : World) (B p : Nat) (a : Option Addr) (len cap X : Nat) (v1 v2 : Value) (ss : List ByteArray) (ps : List Pnd) (x : World) : Prop where
  src : Src 70 B p a len cap x
  gr : w0.grownBy x (some p)
  hp : p < w0.heap.size
  hX : w0.heap.size ≤ X
  box : Bxs x X 26 #[v1, v2]
  dsk : DskO w0.heap.size ss ps v1 v2 x
  n1 : some X ≠ v1.ownBlock
  n2 : some X ≠ v2.ownBlock
variable {w0 x x' : World} {B p : Nat} {a : Option Addr} {len cap X : Nat} {v1 v2 : Value} {ss : List ByteArray} {ps : List Pnd}
theorem grownBy_none_of_below {w w' : World} (h : Below w.heap.size w w') (row : Option Nat) : w.grownBy w' row := ⟨h.os, h.tape, h.output, h.size, fun k hk _ => h.block k hk⟩
theorem DrS.below (h : DrS w0 B p a len cap X v1 v2 ss ps x) (hb : Below x.heap.size x x') : DrS w0 B p a len cap X v1 v2 ss ps x' :=
  ⟨h.src.below hb, touch_trans h.gr (grownBy_none_of_below hb _), h.hp, h.hX, h.box.below hb, h.dsk.below hb, h.n1, h.n2⟩
theorem DskO.touch {base : Nat} {w w' : World} {g : Nat} (h : DskO base ss ps v1 v2 w) (hg : w.grownBy w' (some g)) (hlt : g < base) : DskO base ss ps v1 v2 w' :=
  ⟨h.own1.kept hg (.inr (fun e => by have := (h.own1.lt g e).1; omega)), h.own2.kept hg (.inr (fun e => by have := (h.own2.lt g e).1; omega)), h.ne⟩
theorem DrS.step (h : DrS w0 B p a len cap X v1 v2 ss ps x) (hs : Src 70 B p a len cap x') (hg : x.grownBy x' (some p)) : DrS w0 B p a len cap X v1 v2 ss ps x' :=
  ⟨hs, touch_trans h.gr hg, h.hp, h.hX, (hg.block X h.box.lt (fun e => by cases e; have := h.hp; have := h.hX; omega)).trans h.box, h.dsk.touch hg h.hp, h.n1, h.n2⟩
theorem DrS.drew (h : DrS w0 B p a len cap X v1 v2 ss ps x) : DrS w0 B p a len cap X v1 v2 ss ps x.drew := h.below (Below.refl _ _).drew
theorem DrS.al (h : DrS w0 B p a len cap X v1 v2 ss ps x) (o : Obj) : DrS w0 B p a len cap X v1 v2 ss ps (x.alloc o) := h.below ((Below.refl _ _).alloc (Nat.le_refl _) o)
theorem DrS.cells (h : DrS w0 B p a len cap X v1 v2 ss ps x) : x.cell? ⟨X, 0, none⟩ = some v1 ∧ x.cell? ⟨X, 1, none⟩ = some v2 ∧ x.frozen? ⟨X, 0, none⟩ = false ∧ x.frozen? ⟨X, 1, none⟩ = false := ⟨h.box.cell 0, h.box.cell 1, h.box.fr 0, h.box.fr 1⟩
/-- Another disk is put into the box. -/
theorem DrS.put (h : DrS w0 B p a len cap X v1 v2 ss ps x) {u1 u2 : Value} {ss' : List ByteArray} {ps' : List Pnd} (ho : DskO w0.heap.size ss' ps' u1 u2 x) (m1 : some X ≠ u1.ownBlock) (m2 : some X ≠ u2.ownBlock) :
    DrS w0 B p a len cap X u1 u2 ss' ps' ((x.setCell ⟨X, 0, none⟩ u1).setCell ⟨X, 1, none⟩ u2) := by
  have hX := h.hX
  have hp := h.hp
  have hl := h.box.lt
  have g1 : x.grownBy ((x.setCell ⟨X, 0, none⟩ u1).setCell ⟨X, 1, none⟩ u2) (some X) := by
    refine ⟨rfl, rfl, rfl, by simp [World.setCell], fun q hq hne => ?_⟩
    have hq' : X ≠ q := fun e => hne (by rw [e])
    simp [World.setCell, Array.getElem?_modify, hq']
  refine ⟨h.src.other g1 (fun j hj => by cases hj; omega), touch_own h.gr g1 (fun j hj => by cases hj; exact hX), hp, hX, (h.box.set 0 u1).set 1 u2, ⟨ho.own1.kept g1 (.inr (fun e => m1 e.symm)), ho.own2.kept g1 (.inr (fun e => m2 e.symm)), ho.ne⟩, m1, m2⟩
end Go.Proofs.Ythiokdiodgdamab
