/-
  The tree of a Range's nodes, as a plain function: 'rootL', 'rngRootA'.
-/
import Derived.Test.YtclpccnppmbpcaaDoorBytes
import Derived.Test.YtclpccnppmbpcaaDoorDigMath
import Derived.Test.YtclpccnppmbpcaaDoorTreeMath
import Derived.Test.YtclpccnppmbpcaaDoorSlA
import Derived.Test.YtclpccnppmbpcaaDoorOnesMath
import Derived.Test.YtclpccnppmbpcaaDoorRange
namespace Go.Proofs.YtclpccnppmbpcaaDoor
open Go.RowKit Go.Lib
set_option linter.unusedVariables false

def rootL : List ByteArray → ByteArray
  | [] => ByteArray.empty
  | [x] => x
  | x :: y :: t => nodeB x (rootL (y :: t))
theorem rootL_drop (ss : List ByteArray) (i : Nat) (h : i + 1 < ss.length) : rootL (ss.drop i) = nodeB ss[i] (rootL (ss.drop (i + 1))) := by
  rw [List.drop_eq_getElem_cons (by omega : i < ss.length), List.drop_eq_getElem_cons h]; rfl
theorem rootL_last (ss : List ByteArray) (h : 0 < ss.length) : rootL (ss.drop (ss.length - 1)) = ss[ss.length - 1] := by
  rw [List.drop_eq_getElem_cons (by omega), List.drop_of_length_le (by omega)]; rfl
theorem rootL_size (ss : List ByteArray) (hs : ∀ x ∈ ss, x.size = 32) (h : 0 < ss.length) : (rootL ss).size = 32 := by
  match ss, hs, h with
  | [x], hs, _ => exact hs x (by simp)
  | x :: y :: t, _, _ => exact nodeB_size _ _
def rngRootA (n : Int) (ss : List ByteArray) : ByteArray := if rngB n ss = true then (if n = 0 then digB ByteArray.empty else rootL ss) else ByteArray.empty
theorem onesN_pos {n : Nat} (h : 0 < n) : 0 < onesN n := by
  induction n using Nat.strongRecOn with
  | _ n ih =>
    rw [onesN_step]
    by_cases ho : n % 2 = 1
    · omega
    · have := ih (n / 2) (by omega) (by omega); omega
/-- A box's cells, behind what turns nothing that was there. -/
theorem box_at {w w2 : World} {cs : Array Value} {T : TypeId} (hb : Below (w.alloc (.cells cs T)).heap.size (w.alloc (.cells cs T)) w2) (i : Nat) : w2.cell? ⟨w.heap.size, i, none⟩ = cs[i]? := by
  rw [hb.cell (p := ⟨w.heap.size, i, none⟩) (by simp), World.cell?_alloc_mark]
end Go.Proofs.YtclpccnppmbpcaaDoor
