/-
  What TreeHash answers, in the program and in the specification: 'treeA': of right entries their tree, else nothing.
-/
import Derived.Test.YtclpccnppmbpcaaDoorRows
import Derived.Test.YtclpccnppmbpcaaDoorBytes
import Derived.Test.YtclpccnppmbpcaaDoorTreeMath
import Derived.Test.YtclpccnppmbpcaaDoorSlA
import Derived.Test.YtclpccnppmbpcaaDoorLeafNode
import Derived.Handy
import Derived.Test.YtclpccnppmbpcaaDoorTree
import Derived.Test.YtclpccnppmbpcaaDoorTree2
namespace Go.Proofs.YtclpccnppmbpcaaDoor
open Go.RowKit Go.Lib
set_option linter.unusedVariables false
set_option maxRecDepth 20000

def treeA (ss : List ByteArray) : ByteArray := if entB ss then treeB ss else ByteArray.empty
set_option maxHeartbeats 400000 in
theorem implTree_any (p : Option Addr) (cap : Nat) (ss : List ByteArray) (w : World) (hT : Tabs w) (hp : TxtAt w p ss) (hn : ss.length ≤ 140737488355328) (hcap : ss.length ≤ cap) :
    Calls Tryd.prog 25 #[.slice p ss.length cap] w fun e w' => e = .returned (.string (treeA ss)) ∧ Below w.heap.size w w' := by
  have HT : Hid (Tabs w) := hT
  have HP : Hid (TxtAt w p ss) := hp
  clear hT hp
  have hr := entR_any p cap ss w HP.out hn hcap
  cases he : entB ss
  · rw [he] at hr
    have H : Hid (treeA ss = ByteArray.empty) := by show _ = _; unfold treeA; rw [he]; rfl
    clear he
    go_enter Tryd.func25, Tryd.ntmps25
    go_wp2_with fail
    refine hr.mono ?_
    rintro e w1 ⟨rfl, rfl⟩
    go_wp2_with fail
    go_ret
    exact ⟨ret_str H.out.symm, Below.refl _ _⟩
  · rw [he] at hr
    have H : Hid (treeA ss = treeB ss) := by show _ = _; unfold treeA; rw [he]; rfl
    have hc := treeI_any ss.length p cap ss w rfl HT.out HP.out hn hcap (entB_all he)
    clear he
    go_enter Tryd.func25, Tryd.ntmps25
    go_wp2_with fail
    refine hr.mono ?_
    rintro e w1 ⟨rfl, rfl⟩
    go_wp2_with fail
    refine hc.mono ?_
    rintro e w1 ⟨rfl, b1⟩
    go_wp2_with fail
    go_ret
    exact ⟨ret_str H.out.symm, b1⟩
set_option maxHeartbeats 400000 in
theorem specTree_any (p : Option Addr) (cap : Nat) (ss : List ByteArray) (w : World) (hp : TxtAt w p ss) (hn : ss.length ≤ 140737488355328) (hcap : ss.length ≤ cap) :
    Calls Tryd.prog 27 #[.slice p ss.length cap] w fun e w' => e = .returned (.string (treeA ss)) ∧ Below w.heap.size w w' := by
  have HP : Hid (TxtAt w p ss) := hp
  clear hp
  by_cases hl : ss.length ≤ 400
  · have d1 : decide (400 < (ss.length : Int)) = false := by simp; omega
    have hr := ent2_any p cap ss w HP.out hn hcap
    cases he : entB ss
    · rw [he] at hr
      have H : Hid (treeA ss = ByteArray.empty) := by show _ = _; unfold treeA; rw [he]; rfl
      clear he
      go_enter Tryd.func27, Tryd.ntmps27
      go_wp2_with fail
      refine hr.mono ?_
      rintro e w1 ⟨rfl, rfl⟩
      go_wp2_with fail
      go_ret
      exact ⟨ret_str H.out.symm, Below.refl _ _⟩
    · rw [he] at hr
      have H : Hid (treeA ss = treeB ss) := by show _ = _; unfold treeA; rw [he]; rfl
      have hc := tree2_any ss.length p cap ss w rfl HP.out hn hcap (entB_all he)
      clear he
      go_enter Tryd.func27, Tryd.ntmps27
      go_wp2_with fail
      refine hr.mono ?_
      rintro e w1 ⟨rfl, rfl⟩
      go_wp2_with fail
      refine hc.mono ?_
      rintro e w1 ⟨rfl, b1⟩
      go_wp2_with fail
      go_ret
      exact ⟨ret_str H.out.symm, b1⟩
  · have d1 : decide (400 < (ss.length : Int)) = true := by simp; omega
    have H : Hid (treeA ss = ByteArray.empty) := by show _ = _; unfold treeA; rw [entB_long (by omega)]; rfl
    go_enter Tryd.func27, Tryd.ntmps27
    go_wp2_with fail
    go_ret
    exact ⟨ret_str H.out.symm, Below.refl _ _⟩
end Go.Proofs.YtclpccnppmbpcaaDoor
