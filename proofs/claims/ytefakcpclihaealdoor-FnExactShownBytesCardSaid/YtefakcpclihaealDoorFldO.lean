/-
  What the specification's l07Ill and RowOf answer.
  Conditions: the cells hold the names, the salts and the values.
-/
import Derived.Test.YtefakcpclihaealDoorRows
import Derived.Test.YtefakcpclihaealDoorBytes
import Derived.Test.YtefakcpclihaealDoorSlA
import Derived.Test.YtefakcpclihaealDoorSlB
import Derived.Test.YtefakcpclihaealDoorOwnS
import Derived.Test.YtefakcpclihaealDoorBxK
import Derived.Test.YtefakcpclihaealDoorStepApp
import Derived.Test.YtefakcpclihaealDoorTakesL
import Derived.Test.YtefakcpclihaealDoorNameRight
import Derived.Test.YtefakcpclihaealDoorFldMath
import Derived.Test.YtefakcpclihaealDoorFldC
import Derived.Test.YtefakcpclihaealDoorFldR
import Derived.Test.YtefakcpclihaealDoorOneK
import Derived.Test.YtefakcpclihaealDoorFldOM
import Derived.Handy
import Derived.WalkSpells
import Derived.OwnWalk
import Derived.Deep.AppendLies
import Derived.Deep.RegionHeld3
import Derived.Deep.Cut
namespace Go.Proofs.YtefakcpclihaealDoor
open Go.RowKit Go.Lib
set_option linter.unusedVariables false
set_option maxRecDepth 20000

theorem l07Ill_any (c : Int) (w : World) : Calls Tryd.prog 33 #[.int .i64 c] w fun e w' => e = .returned (.agg #[.string ByteArray.empty, .int .i64 0, .slice none 0 0, .int .i64 c]) ∧ Below w.heap.size w w' := by
  have B1 : Below w.heap.size w (w.alloc (.cells #[.string ByteArray.empty, .int .i64 0, .slice none 0 0, .int .i64 c] 30)) := (Below.refl _ _).alloc (Nat.le_refl _) _
  go_enter Tryd.func33, Tryd.ntmps33
  go_wp2_with fail
  refine bodyPost_ret (v := .agg #[.string ByteArray.empty, .int .i64 0, .slice none 0 0, .int .i64 c]) (by simp [results, Tryd.results33, go_sem]; rfl) rfl ?_
  exact ⟨rfl, B1⟩
end Go.Proofs.YtefakcpclihaealDoor
