/-
  What 'joined' answers: the texts of its slice behind one another, in new memory; nothing that was there turns.
  Conditions: the slice's cells hold those texts; together they are at most 2^46 bytes long.
-/
import Derived.Test.YtnomkcbcjaagmalRows
import Derived.Test.YtnomkcbcjaagmalBytes
import Derived.Handy
namespace Go.Proofs.Ytnomkcbcjaagmal
open Go.RowKit Go.Lib
set_option linter.unusedVariables false

theorem infoU8 : (Try.prog.info? 5).map (fun i => (i.zero, i.size, i.bytes)) = some (some (.int .u8 0), 1, 1) := by kernel_rfl
theorem sizeU8 : (Try.prog.info? 5).map (·.size) = some 1 := by kernel_rfl
theorem cat_two (a b : ByteArray) : cat [a, b] = a ++ b := by
  apply ByteArray.ext; simp [cat]
theorem cat_one (a : ByteArray) : cat [a] = a := by
  apply ByteArray.ext; simp [cat]
theorem new_texts (w : World) (ss : List ByteArray) (t : TypeId) (i : Nat) (h : i < ss.length) :
    (w.alloc (.cells (ss.map Value.string).toArray t)).cell? ⟨w.heap.size, 0 + i, none⟩ = some (.string ss[i]) := by
  rw [World.cell?_alloc_mark]; simp [h]

end Go.Proofs.Ytnomkcbcjaagmal
