/-
  What Show answers, as plain functions.
-/
import Derived.Test.YtefakcpclihaealDoorRows
import Derived.Test.YtefakcpclihaealDoorJoinedPutTextFldMath
import Derived.Test.YtefakcpclihaealDoorShwKOneK
namespace Go.Proofs.YtefakcpclihaealDoor
open Go.RowKit Go.Lib
set_option linter.unusedVariables false

def fld0 : Fld := ⟨ByteArray.empty, ByteArray.empty, ByteArray.empty, ByteArray.empty, false⟩
def shC (k : ByteArray) (at_ : Int) (fs : List Fld) (i : Int) : Int := if rwB k at_ fs = true then (if 0 ≤ i ∧ i ≤ (fs.length : Int) - 1 then (if (fs.getD i.toNat fld0).g = true then 10 else 0) else 6) else 1
def shO (k : ByteArray) (at_ : Int) (fs : List Fld) (i : Int) : Shw := if shC k at_ fs i = 0 then ⟨k, at_, fs.map (fun f => f.n), fs.map (fun f => f.c), i, (fs.getD i.toNat fld0).s, (fs.getD i.toNat fld0).v⟩ else shwZ
theorem map_take_succ {α : Type} (g : Fld → α) (fs : List Fld) (j : Nat) (h : j < fs.length) : (fs.take (j + 1)).map g = (fs.take j).map g ++ [g fs[j]] := by rw [← List.take_append_getElem h, List.map_append]; rfl
end Go.Proofs.YtefakcpclihaealDoor
