/-
  RangeAdd as a plain function: 'addR'.
-/
import Derived.Test.YtclpccnppmbpcaaDoorBytes
import Derived.Test.YtclpccnppmbpcaaDoorDigMath
import Derived.Test.YtclpccnppmbpcaaDoorTreeMath
import Derived.Test.YtclpccnppmbpcaaDoorSlA
import Derived.Test.YtclpccnppmbpcaaDoorOnesMath
import Derived.Test.YtclpccnppmbpcaaDoorRange
namespace Go.Proofs.YtclpccnppmbpcaaDoor
open Go.RowKit Go.Lib
set_option linter.unusedVariables false

def carry (n : Nat) (l : List ByteArray) (h : ByteArray) : List ByteArray :=
  if n % 2 = 1 then carry (n / 2) (l.take (l.length - 1)) (nodeB (l.getD (l.length - 1) ByteArray.empty) h) else l ++ [h]
termination_by n
decreasing_by omega
theorem carry_odd {n : Nat} (h : n % 2 = 1) (l : List ByteArray) (x : ByteArray) : carry n l x = carry (n / 2) (l.take (l.length - 1)) (nodeB (l.getD (l.length - 1) ByteArray.empty) x) := by rw [carry]; simp [h]
theorem carry_even {n : Nat} (h : ¬ n % 2 = 1) (l : List ByteArray) (x : ByteArray) : carry n l x = l ++ [x] := by rw [carry]; simp [h]
theorem carry_take {n : Nat} (h : n % 2 = 1) (l : List ByteArray) (k : Nat) (hk : k + 1 ≤ l.length) (x : ByteArray) : carry n (l.take (k + 1)) x = carry (n / 2) (l.take k) (nodeB (l[k]'(by omega)) x) := by
  have e1 : (l.take (k + 1)).length = k + 1 := by simp; omega
  rw [carry_odd h, e1, Nat.add_sub_cancel, List.take_take, Nat.min_eq_left (by omega)]
  congr 2
  simp [List.getD_eq_getElem?_getD]
  rw [List.getElem?_eq_getElem (by omega)]; rfl
theorem onesN_odd {n : Nat} (h : n % 2 = 1) : onesN n = onesN (n / 2) + 1 := by rw [onesN_step]; omega
def addOk (n : Int) (ss : List ByteArray) (t : ByteArray) : Prop := rngB n ss = true ∧ n < 1000000 ∧ t.size ≤ 100
instance (n : Int) (ss : List ByteArray) (t : ByteArray) : Decidable (addOk n ss t) := inferInstanceAs (Decidable (_ ∧ _ ∧ _))
def addN (n : Int) (ss : List ByteArray) (t : ByteArray) : Int := if 8000 < t.size then 0 else if addOk n ss t then n + 1 else n
def addL (n : Int) (ss : List ByteArray) (t : ByteArray) : List ByteArray := if 8000 < t.size then [] else if addOk n ss t then carry n.toNat ss (leafB t) else ss
theorem carry_len (n : Nat) : ∀ (l : List ByteArray) (x : ByteArray), (carry n l x).length ≤ l.length + 1 := by
  induction n using Nat.strongRecOn with
  | _ n ih =>
    intro l x
    by_cases h : n % 2 = 1
    · rw [carry_odd h]
      have := ih (n / 2) (by omega) (l.take (l.length - 1)) (nodeB (l.getD (l.length - 1) ByteArray.empty) x)
      have e : (l.take (l.length - 1)).length ≤ l.length := by simp
      omega
    · rw [carry_even h]; simp
theorem addL_len (n : Int) (ss : List ByteArray) (t : ByteArray) : (addL n ss t).length ≤ ss.length + 1 := by
  unfold addL; split
  · simp
  · split
    · exact carry_len _ _ _
    · omega
end Go.Proofs.YtclpccnppmbpcaaDoor
