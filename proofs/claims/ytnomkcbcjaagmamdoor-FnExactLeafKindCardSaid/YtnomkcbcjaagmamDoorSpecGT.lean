/-
  What the specification's GetText answers: 'getTV' of the text and the place, in new memory.
  Conditions: the string fits the form's own reach; the place is an int64.
-/
import Derived.Test.YtnomkcbcjaagmamDoorRows
import Derived.Test.YtnomkcbcjaagmamDoorBytes
import Derived.Test.YtnomkcbcjaagmamDoorScanMath
import Derived.Test.YtnomkcbcjaagmamDoorGetVal
import Derived.Test.YtnomkcbcjaagmamDoorSpecGN
import Derived.Test.YtnomkcbcjaagmamDoorGetTxt
import Derived.Handy
import Derived.WalkSpells
import Derived.Deep.RegionHeld3
namespace Go.Proofs.YtnomkcbcjaagmamDoor
open Go.RowKit Go.Extern.Stop Go.Stop Go.Extern
set_option linter.unusedVariables false

end Go.Proofs.YtnomkcbcjaagmamDoor
