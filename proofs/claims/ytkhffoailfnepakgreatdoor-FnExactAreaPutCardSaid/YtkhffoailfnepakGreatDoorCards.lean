/-
  DERIVED. GIVEN WITH THE SEED: THE CARDS: each row of YtkhffoailfnepakGreatDoorRows.lean that lists a variable, with what it lists TIED to the program's text (the seventh form; the later family's looks); each row that meets fmt, with fmt's text TOLD by the authors' own Lean function (tested against real Go, not proved from fmt's source: count such statements apart). THE CARD IS WHAT COUNTS. Prove the row's statement (the work); the ties are given (YtkhffoailfnepakGreatDoorTie.lean); close each card by the builder's one call (the guide's Derived/Test/ToyasCard.lean, 'card_holds'). Laid BY PROGRAM, IN A SANDBOX (cutbox-door.mjs). By AI agents, Wed Nov 11 2026. No macro, syntax, notation, axiom, sorry.
-/
import Derived.Test.YtkhffoailfnepakGreatDoorRows
import GoSem.ClaimSeven
namespace Go.Proofs.YtkhffoailfnepakGreatDoor
namespace Rows

/-- THE TIED CARD OF 'laws.FnExactAreaPut'. -/
def fnExactAreaPutCard : Claim7 := { stood := { row := fnExactAreaPutRow, standIns := [], harness := (true, "2f86fde2fc8d31219adb865d42c4753c660addc819767f2f35c45db3141da1a4"), looks := true }, kinds := [], alts := [], laidByText := true, laidKinds := [.handle, .sentinel, .sentinel, .sentinel, .sentinel], laidTests := true, laidLooks := .later }
def FnExactAreaPutCardSaid : Prop := Claim7.holds Tryz.pinned (.plain (OpenSpec.ofChange fnExactAreaPutSpec)) fnExactAreaPutCard

/-- THE SECOND FORM's CARD OF 'laws.FnExactAreaPut'. -/
def fnExactAreaPutUptoCard : Claim7 := { stood := { row := fnExactAreaPutUptoRow, standIns := [], harness := (true, "2f86fde2fc8d31219adb865d42c4753c660addc819767f2f35c45db3141da1a4"), looks := true }, kinds := [], alts := [], laidByText := true, laidKinds := [.handle, .sentinel, .sentinel, .sentinel, .sentinel], laidTests := true, laidLooks := .later }
def FnExactAreaPutUptoCardSaid : Prop := Claim7.holds Tryz.pinned (.plain (OpenSpec.upto fnExactAreaPutSpec)) fnExactAreaPutUptoCard
end Rows
end Go.Proofs.YtkhffoailfnepakGreatDoor
