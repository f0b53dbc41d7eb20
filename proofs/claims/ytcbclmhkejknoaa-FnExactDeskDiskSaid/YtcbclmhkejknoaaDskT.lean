/-
  What the specification's DiskRead answers.
-/
import Derived.Test.YtcbclmhkejknoaaRows
import Derived.Test.YtcbclmhkejknoaaBytes
import Derived.Test.YtcbclmhkejknoaaSlA
import Derived.Test.YtcbclmhkejknoaaSlB
import Derived.Test.YtcbclmhkejknoaaOwnS
import Derived.Test.YtcbclmhkejknoaaDskMath
import Derived.Test.YtcbclmhkejknoaaDskR
import Derived.Test.YtcbclmhkejknoaaDskS
import Derived.Test.YtcbclmhkejknoaaDskA
import Derived.Test.YtcbclmhkejknoaaDskC
import Derived.Handy
import Derived.WalkSpells
import Derived.OwnWalk
namespace Go.Proofs.Ytcbclmhkejknoaa
open Go.RowKit Go.Lib
set_option linter.unusedVariables false
set_option maxRecDepth 20000

theorem DskO.nil (base : Nat) (w : World) : DskO base [] [] (.slice none 0 0) (.slice none 0 0) w := ⟨World.ownsRow_nil _ _ _ _, World.ownsRow_nil _ _ _ _, .inl rfl⟩
theorem DskO.mono {base base' : Nat} {ss : List ByteArray} {ps : List Pnd} {v1 v2 : Value} {w : World} (h : DskO base ss ps v1 v2 w) (hb : base' ≤ base) : DskO base' ss ps v1 v2 w := ⟨ownS_mono h.own1 hb, ownS_mono h.own2 hb, h.ne⟩
theorem DskO.below {base : Nat} {ss : List ByteArray} {ps : List Pnd} {v1 v2 : Value} {w w' : World} (h : DskO base ss ps v1 v2 w) (hb : Below w.heap.size w w') : DskO base ss ps v1 v2 w' := ⟨ownS_below h.own1 hb, ownS_below h.own2 hb, h.ne⟩
theorem DskO.set {base : Nat} {ss : List ByteArray} {ps : List Pnd} {v1 v2 : Value} {w : World} (h : DskO base ss ps v1 v2 w) {g : Nat} (hg : g < base) (o : Nat) (x : Value) : DskO base ss ps v1 v2 (w.setCell ⟨g, o, none⟩ x) := ⟨ownsRow_setCell_below h.own1 hg _, ownsRow_setCell_below h.own2 hg _, h.ne⟩
theorem DskO.set4 {base : Nat} {ss : List ByteArray} {ps : List Pnd} {v1 v2 : Value} {w : World} (h : DskO base ss ps v1 v2 w) {g : Nat} (hg : g < base) (x0 x1 x2 x3 : Value) : DskO base ss ps v1 v2 ((((w.setCell ⟨g, 0, none⟩ x0).setCell ⟨g, 1, none⟩ x1).setCell ⟨g, 2, none⟩ x2).setCell ⟨g, 3, none⟩ x3) := (((h.set hg 0 x0).set hg 1 x1).set hg 2 x2).set hg 3 x3

def inB (ss : List ByteArray) (at_ : Int) : Bool := decide (0 ≤ at_ ∧ at_ ≤ (ss.length : Int) - 1)
def rdC (ss : List ByteArray) (ps : List Pnd) (at_ : Int) : Int := if dskB ss ps = true then (if inB ss at_ = true then 0 else 8) else 1
def rdS (ss : List ByteArray) (ps : List Pnd) (at_ : Int) : List ByteArray := if rdC ss ps at_ = 0 then ss else []
def rdP (ss : List ByteArray) (ps : List Pnd) (at_ : Int) : List Pnd := if rdC ss ps at_ = 0 then ps else []
def rdT (ss : List ByteArray) (ps : List Pnd) (at_ : Int) : ByteArray := if rdC ss ps at_ = 0 then readB ss ps at_ else ByteArray.empty

end Go.Proofs.Ytcbclmhkejknoaa
