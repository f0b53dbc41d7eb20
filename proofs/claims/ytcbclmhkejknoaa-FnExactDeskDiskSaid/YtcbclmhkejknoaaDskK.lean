/-
  What the specification's DiskCrash answers.
  Conditions: the cells of keep hold the numbers.
-/
import Derived.Test.YtcbclmhkejknoaaRows
import Derived.Test.YtcbclmhkejknoaaIntK
import Derived.Test.YtcbclmhkejknoaaBytes
import Derived.Test.YtcbclmhkejknoaaSlA
import Derived.Test.YtcbclmhkejknoaaSlB
import Derived.Test.YtcbclmhkejknoaaOwnS
import Derived.Test.YtcbclmhkejknoaaOwnB
import Derived.Test.YtcbclmhkejknoaaDskMath
import Derived.Test.YtcbclmhkejknoaaDskR
import Derived.Test.YtcbclmhkejknoaaDskS
import Derived.Test.YtcbclmhkejknoaaDskA
import Derived.Test.YtcbclmhkejknoaaDskC
import Derived.Test.YtcbclmhkejknoaaDskT
import Derived.Test.YtcbclmhkejknoaaDskF
import Derived.Handy
import Derived.WalkSpells
import Derived.OwnWalk
import Derived.Laws.OwnMore
namespace Go.Proofs.Ytcbclmhkejknoaa
open Go.RowKit Go.Lib
set_option linter.unusedVariables false
set_option maxRecDepth 20000

theorem DskO.set2 {base : Nat} {ss : List ByteArray} {ps : List Pnd} {v1 v2 : Value} {w : World} (h : DskO base ss ps v1 v2 w) {g : Nat} (hg : g < base) (x0 x1 : Value) : DskO base ss ps v1 v2 ((w.setCell ⟨g, 0, none⟩ x0).setCell ⟨g, 1, none⟩ x1) := (h.set hg 0 x0).set hg 1 x1

def crS (ss : List ByteArray) (ps : List Pnd) (keep : List Int) : List ByteArray := if 400 < keep.length then [] else if dskB ss ps = true then crashB ss ps keep else ss
def crP (ss : List ByteArray) (ps : List Pnd) (keep : List Int) : List Pnd := if 400 < keep.length then [] else if dskB ss ps = true then [] else ps

end Go.Proofs.Ytcbclmhkejknoaa
