/-
  What the specification's l07Is, l07Time, l07Commit, CommitOf and FieldRight answer.
-/
import Derived.Test.YtnomkcbcjaagmamDoorRows
import Derived.Test.YtnomkcbcjaagmamDoorBytes
import Derived.Test.YtnomkcbcjaagmamDoorSlA
import Derived.Test.YtnomkcbcjaagmamDoorBxK
import Derived.Test.YtnomkcbcjaagmamDoorDigMath
import Derived.Test.YtnomkcbcjaagmamDoorAll2
import Derived.Test.YtnomkcbcjaagmamDoorNameRight
import Derived.Test.YtnomkcbcjaagmamDoorPutMath
import Derived.Test.YtnomkcbcjaagmamDoorPutNum
import Derived.Test.YtnomkcbcjaagmamDoorPutText
import Derived.Test.YtnomkcbcjaagmamDoorFldMath
import Derived.Test.YtnomkcbcjaagmamDoorFldIs
import Derived.Handy
import Derived.WalkSpells
import Derived.OwnWalk
import Derived.Deep.RegionHeld3
import Derived.Deep.RegionWith
namespace Go.Proofs.YtnomkcbcjaagmamDoor
open Go.RowKit Go.Lib
set_option linter.unusedVariables false
set_option maxRecDepth 20000

end Go.Proofs.YtnomkcbcjaagmamDoor
