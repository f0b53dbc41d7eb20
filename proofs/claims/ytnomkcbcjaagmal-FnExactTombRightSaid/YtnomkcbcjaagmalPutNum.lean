/-
  What PutNum answers, in the program and in the specification: the bytes 'putB n', in new memory.
  Conditions: n is an int64.
-/
import Derived.Test.YtnomkcbcjaagmalRows
import Derived.Test.YtnomkcbcjaagmalBytes
import Derived.Test.YtnomkcbcjaagmalPutMath
import Derived.Handy
import Derived.WalkSpells
import Derived.Deep.AppendLies
namespace Go.Proofs.Ytnomkcbcjaagmal
open Go.RowKit Go.Lib
set_option linter.unusedVariables false

theorem ret_intP {k : IntKind} {a b : Int} (h : a = b) : Ending.returned (.int k a) = .returned (.int k b) := by rw [h]
theorem infoU8p : (Try.prog.info? 5).map (fun i => (i.zero, i.size, i.bytes)) = some (some (.int .u8 0), 1, 1) := by kernel_rfl

theorem heap_set {w : World} {g i : Nat} {cs : Array Value} {T : TypeId} (hg : w.heap[g]? = some (.cells cs T (0, 0))) (v : Value) : (w.setCell ⟨g, i, none⟩ v).heap[g]? = some (.cells (cs.setIfInBounds i v) T (0, 0)) := by
  simp [World.setCell, Array.getElem?_modify, hg]

end Go.Proofs.Ytnomkcbcjaagmal
