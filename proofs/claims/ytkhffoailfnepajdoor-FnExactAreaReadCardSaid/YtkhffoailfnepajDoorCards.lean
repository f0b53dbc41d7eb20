/-
  DERIVED. GIVEN WITH THE SEED: THE CARDS: each row of YtkhffoailfnepajDoorRows.lean that lists a variable, with what it lists TIED to the program's text (the seventh form; the later family's looks); each row that meets fmt, with fmt's text TOLD by the authors' own Lean function (tested against real Go, not proved from fmt's source: count such statements apart). THE CARD IS WHAT COUNTS. Prove the row's statement (the work); the ties are given (YtkhffoailfnepajDoorTie.lean); close each card by the builder's one call (the guide's Derived/Test/ToyasCard.lean, 'card_holds'). Laid BY PROGRAM, IN A SANDBOX (cutbox-door.mjs). By AI agents, Wed Nov 11 2026. No macro, syntax, notation, axiom, sorry.
-/
import Derived.Test.YtkhffoailfnepajDoorRows
import GoSem.ClaimSeven
namespace Go.Proofs.YtkhffoailfnepajDoor
namespace Rows

/-- THE TIED CARD OF 'laws.FnExactAreaRead'. -/
def fnExactAreaReadCard : Claim7 := { stood := { row := fnExactAreaReadRow, standIns := [], harness := (true, "6a4da969f210eae5fe450ae283a5fae4a21fa8ac55ce04e404017387db48f275"), looks := true }, kinds := [], alts := [], laidByText := true, laidKinds := [.handle, .sentinel, .sentinel, .sentinel, .sentinel], laidTests := true, laidLooks := .later }
def FnExactAreaReadCardSaid : Prop := Claim7.holds Tryd.pinned (.plain (OpenSpec.ofChange fnExactAreaReadSpec)) fnExactAreaReadCard

/-- THE SECOND FORM's CARD OF 'laws.FnExactAreaRead'. -/
def fnExactAreaReadUptoCard : Claim7 := { stood := { row := fnExactAreaReadUptoRow, standIns := [], harness := (true, "6a4da969f210eae5fe450ae283a5fae4a21fa8ac55ce04e404017387db48f275"), looks := true }, kinds := [], alts := [], laidByText := true, laidKinds := [.handle, .sentinel, .sentinel, .sentinel, .sentinel], laidTests := true, laidLooks := .later }
def FnExactAreaReadUptoCardSaid : Prop := Claim7.holds Tryd.pinned (.plain (OpenSpec.upto fnExactAreaReadSpec)) fnExactAreaReadUptoCard
end Rows
end Go.Proofs.YtkhffoailfnepajDoor
