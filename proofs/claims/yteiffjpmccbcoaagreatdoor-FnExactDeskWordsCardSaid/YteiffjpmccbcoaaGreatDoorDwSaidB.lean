/-
  A closed fact of the law FnExactDeskWords's frame, limb by limb.
-/
import Derived.Test.YteiffjpmccbcoaaGreatDoorCards
import Derived.Test.YteiffjpmccbcoaaGreatDoorTie
import Derived.WalkKit
import Derived.ProofKit
import Derived.OpenShut
import Derived.OpenVars
import Derived.ShutString
import Derived.LaidHandle
import Derived.LaidLaws
import Derived.LaidMore
namespace Go.Proofs.YteiffjpmccbcoaaGreatDoor.fnExactDeskWords
set_option maxRecDepth 100000
theorem and2 {a b : Bool} (ha : a = true) (hb : b = true) : (a && b) = true := by rw [ha, hb]; rfl
theorem limb0 : (Rows.fnExactDeskWordsRow.wf (OpenSpec.ofChange (OpenSpec.ofChange Rows.fnExactDeskWordsSpec).bare)) = true := by kernel_rfl
theorem limb1 : (laidOutB Tryz.pinned.checked.prog) = true := by kernel_rfl
theorem limb2 : (mapsRowed Tryz.pinned.checked.prog) = true := by kernel_rfl
theorem limb3 : (Tryz.f3.params.all (Tryz.pinned.checked.prog.readableRec ·)) = true := by kernel_rfl
theorem limb4 : (namedTie Tryz.pinned.checked.prog Rows.fnExactDeskWordsRow.named (OpenSpec.ofChange Rows.fnExactDeskWordsSpec).bare.vars) = true := by kernel_rfl
theorem limb5 : ((Rows.fnExactDeskWordsRow.stops == [])) = true := by kernel_rfl
theorem limb6 : ((Tryz.pinned.checked.prog.stops == [])) = true := by kernel_rfl
theorem limb7 : ((Rows.fnExactDeskWordsRow.knobs == [])) = true := by kernel_rfl
theorem limb8 : ((Tryz.pinned.checked.prog.stopKnobs == [])) = true := by kernel_rfl
theorem limb9 : ((Rows.fnExactDeskWordsRow.inPlace == Tryz.pinned.checked.prog.inPlace 3)) = true := by kernel_rfl
theorem limb10 : ((Rows.fnExactDeskWordsRow.unfollowed == Tryz.pinned.checked.prog.unfollowed 3)) = true := by kernel_rfl
theorem limb11 : ((Rows.fnExactDeskWordsRow.recurses == Tryz.pinned.checked.prog.recurses 3)) = true := by kernel_rfl
theorem limb12 : ((Rows.fnExactDeskWordsRow.named == Tryz.pinned.checked.prog.varsNamed 3)) = true := by kernel_rfl
theorem limb13 : ((Rows.fnExactDeskWordsRow.maps == (Tryz.f3.params.toList ++ (OpenSpec.ofChange Rows.fnExactDeskWordsSpec).bare.plain.varTypes Tryz.pinned.checked.prog).any (Tryz.pinned.checked.prog.mapsRec ·))) = true := by kernel_rfl
theorem limb14 : ((Rows.fnExactDeskWordsRow.ifaces == (Tryz.f3.params.toList ++ (OpenSpec.ofChange Rows.fnExactDeskWordsSpec).bare.plain.varTypes Tryz.pinned.checked.prog).any (Tryz.pinned.checked.prog.ifacesRec ·))) = true := by kernel_rfl
theorem limb15 : ((Rows.fnExactDeskWordsRow.mapsOut == Tryz.pinned.checked.prog.mapsAmong Tryz.f3.resultTypes.toList)) = true := by kernel_rfl
theorem limb16 : ((Rows.fnExactDeskWordsRow.loops == (Tryz.f3.params.toList ++ (OpenSpec.ofChange Rows.fnExactDeskWordsSpec).bare.plain.varTypes Tryz.pinned.checked.prog).any (Tryz.pinned.checked.prog.loopsFrom ·))) = true := by kernel_rfl
theorem limb17 : ((Rows.fnExactDeskWordsRow.wideKeys == (Tryz.f3.params.toList ++ (OpenSpec.ofChange Rows.fnExactDeskWordsSpec).bare.plain.varTypes Tryz.pinned.checked.prog ++ Tryz.f3.resultTypes.toList).any (Tryz.pinned.checked.prog.wideKeysFrom ·))) = true := by kernel_rfl
theorem limb18 : ((OpenSpec.ofChange Rows.fnExactDeskWordsSpec).bare.vars.all (Tryz.pinned.checked.prog.varReadable ·)) = true := by kernel_rfl
theorem limb19 : (Tryz.f3.resultTypes.all (fun t => Tryz.pinned.checked.prog.readableRec t && decide (t < Tryz.pinned.checked.prog.types.size))) = true := by kernel_rfl
theorem limb20 : ((Rows.fnExactDeskWordsRow.ifacesOut == Tryz.f3.resultTypes.toList.any (Tryz.pinned.checked.prog.ifacesRec ·))) = true := by kernel_rfl
theorem limb21 : ((Rows.fnExactDeskWordsRow.loopsOut == Tryz.f3.resultTypes.toList.any (Tryz.pinned.checked.prog.loopsFrom ·))) = true := by kernel_rfl
theorem limb22 : ((Rows.fnExactDeskWordsRow.plainKeys == Tryz.pinned.checked.prog.plainKeys)) = true := by kernel_rfl
theorem limb23 : (Rows.fnExactDeskWordsRow.shortTexts.isNone) = true := by kernel_rfl
theorem limb24 : (Tryz.pinned.checked.prog.stopsHeard) = true := by kernel_rfl
theorem limb25 : (Tryz.pinned.checked.prog.mayEnter) = true := by kernel_rfl
theorem limb26 : ((Rows.fnExactDeskWordsRow.lifted == Tryz.pinned.checked.prog.liftsFinal)) = true := by kernel_rfl
theorem limb27 : ((Tryz.pinned.checked.prog.make == some Rows.fnExactDeskWordsRow.make)) = true := by kernel_rfl
theorem limb28 : ((Rows.fnExactDeskWordsRow.kinds == (if Rows.fnExactDeskWordsRow.domain.isEmpty then [] else Tryz.f3.params.toList.map fun t => match Tryz.pinned.checked.prog.underlying t with | some (.int k) => some k | _ => none))) = true := by kernel_rfl
theorem limb29 : ((Rows.fnExactDeskWordsRow.pinned == Rows.fnExactDeskWordsRow.pinnedBy)) = true := by kernel_rfl
theorem limb30 : ((Rows.fnExactDeskWordsRow.veiled == (Tryz.f3.params.toList ++ (OpenSpec.ofChange Rows.fnExactDeskWordsSpec).bare.plain.varTypes Tryz.pinned.checked.prog ++ Tryz.f3.resultTypes.toList).any (Tryz.pinned.checked.prog.veiledRec ·))) = true := by kernel_rfl
theorem limb31 : (Rows.fnExactDeskWordsRow.veiledFits Tryz.pinned.checked.prog Tryz.f3.params.toList (Tryz.f3.params.toList ++ (OpenSpec.ofChange Rows.fnExactDeskWordsSpec).bare.plain.varTypes Tryz.pinned.checked.prog ++ Tryz.f3.resultTypes.toList)) = true := by kernel_rfl
theorem saidB : joinedFacts Tryz.pinned.checked.prog 3 Tryz.f3 (OpenSpec.ofChange Rows.fnExactDeskWordsSpec).bare Rows.fnExactDeskWordsRow = true := by
  unfold joinedFacts
  exact (and2 (and2 (and2 (and2 (and2 (and2 (and2 (and2 (and2 (and2 (and2 (and2 (and2 (and2 (and2 (and2 (and2 (and2 (and2 (and2 (and2 (and2 (and2 (and2 (and2 (and2 (and2 (and2 (and2 (and2 (and2 limb0 limb1) limb2) limb3) limb4) limb5) limb6) limb7) limb8) limb9) limb10) limb11) limb12) limb13) limb14) limb15) limb16) limb17) limb18) limb19) limb20) limb21) limb22) limb23) limb24) limb25) limb26) limb27) limb28) limb29) limb30) limb31)
end Go.Proofs.YteiffjpmccbcoaaGreatDoor.fnExactDeskWords
