/-
  A start that meets what the row of FnExactDeskWords lists.
-/
import Derived.Test.YteiffjpmccbcoaaGreatDoorCards
import Derived.Test.YteiffjpmccbcoaaGreatDoorTie
import Derived.WalkKit
import Derived.ProofKit
import Derived.OpenShut
import Derived.OpenVars
import Derived.ShutString
import Derived.LaidHandle
import Derived.LaidLaws
import Derived.LaidMore
import Derived.Lay
import Derived.LaidOnce
import Derived.Deep.DeepHandedRow
import Derived.ChangeOld
import Derived.Below
namespace Go.Proofs.YteiffjpmccbcoaaGreatDoor.fnExactDeskWords
open Go.ChangeShapes Go.WideShapes Go.ChangeAt Go.RowKit
set_option linter.unusedVariables false
set_option maxRecDepth 100000

/-- A start in which the listed variables lie as the program's text lays them: what the door's own run leaves, and the table that its text alone lays. -/
noncomputable def wit (os : Os) : World := (World.doorLaid Tryz.prog 165 os).layVars Tryz.prog [("unicode/utf8.first", Go.Pinned.utf8First)]
theorem witA (os : Os) : (DataW.laidRun Tryz.prog ((wit os).forCall (fun _ _ => 0) ⟨#[], #[], []⟩).memory 8 ((Rows.fnExactDeskWordsRow.laid.filter fun x => x.2.handleName?.isNone).map (·.1))).map (·.1) = some (Rows.fnExactDeskWordsRow.laid.filter fun x => x.2.handleName?.isNone) := by kernel_rfl
theorem witB (os : Os) : (DataW.laidRun Tryz.prog ((wit os).forCall (fun _ _ => 0) ⟨#[], #[], []⟩).memory 8 ((Rows.fnExactDeskWordsRow.laid.filter fun x => x.2.handleName?.isNone).map (·.1))).map (fun x => nodupBits 300 x.2 0) = some true := by kernel_rfl
theorem witE (os : Os) : (DataW.laidRun Tryz.prog ((wit os).forCall (fun _ _ => 0) ⟨#[], #[], []⟩).memory 8 ((Rows.fnExactDeskWordsRow.laid.filter fun x => x.2.handleName?.isNone).map (·.1))).map (fun x => laidRowsB Tryz.prog ((wit os).forCall (fun _ _ => 0) ⟨#[], #[], []⟩).memory x.2) = some true := by kernel_rfl
theorem witC (os : Os) : (Rows.fnExactDeskWordsRow.laid.filter fun x => x.2.handleName?.isSome && x.2.funcsIn?.isNone).all (handleAtB Tryz.prog ((wit os).forCall (fun _ _ => 0) ⟨#[], #[], []⟩).memory) = true := by kernel_rfl
theorem witD (os : Os) : funcsRun Tryz.prog ((wit os).forCall (fun _ _ => 0) ⟨#[], #[], []⟩).memory 8 ((funcsListed Rows.fnExactDeskWordsRow.laid).map (·.1)) = some ((funcsListed Rows.fnExactDeskWordsRow.laid).map (·.2.funcsOut)) := by kernel_rfl
theorem laid_met (os : Os) : laidMetH Tryz.prog Rows.fnExactDeskWordsRow.laid ((wit os).forCall (fun _ _ => 0) ⟨#[], #[], []⟩).memory := by
  refine laidMetH_of_parts3 (fuel := 8) ?_ (witC os) (witD os)
  have hA := witA os
  have hB := witB os
  have hE := witE os
  cases hx : DataW.laidRun Tryz.prog ((wit os).forCall (fun _ _ => 0) ⟨#[], #[], []⟩).memory 8 ((Rows.fnExactDeskWordsRow.laid.filter fun x => x.2.handleName?.isNone).map (·.1)) with
  | none => rw [hx] at hA; cases hA
  | some x =>
    obtain ⟨l', ps⟩ := x
    rw [hx] at hA hB hE
    obtain rfl : l' = (Rows.fnExactDeskWordsRow.laid.filter fun x => x.2.handleName?.isNone) := Option.some.inj hA
    exact laidMet_of_run 8 hx (decide_eq_true (nodupBits_sound (Option.some.inj hB)).1) (Option.some.inj hE)
theorem reads (os : Os) {H : Type} (enc : TypeId × Value → H) : ∃ gs places, DataW.whole enc Tryz.prog ((wit os).forCall (fun _ _ => 0) ⟨#[], #[], []⟩).memory Tryz.f3.params.toList Rows.fnExactDeskWordsSpec.vars false (#[] : Array Value).toList 8 = some ([], gs, places) := by
  have h : (DataW.whole enc Tryz.prog ((wit os).forCall (fun _ _ => 0) ⟨#[], #[], []⟩).memory Tryz.f3.params.toList Rows.fnExactDeskWordsSpec.vars false (#[] : Array Value).toList 8).map (fun x => x.1) = some [] := by kernel_rfl
  obtain ⟨⟨a, b, c⟩, hx, hy⟩ := Option.map_eq_some_iff.1 h
  cases hy
  exact ⟨b, c, hx⟩

end Go.Proofs.YteiffjpmccbcoaaGreatDoor.fnExactDeskWords
