/-
  DERIVED. GIVEN WITH THE SEED: THE CARDS: each row of YtpijadhfdpihkaaGreatDoorRows.lean that lists a variable, with what it lists TIED to the program's text (the seventh form; the later family's looks); each row that meets fmt, with fmt's text TOLD by the authors' own Lean function (tested against real Go, not proved from fmt's source: count such statements apart). THE CARD IS WHAT COUNTS. Prove the row's statement (the work); the ties are given (YtpijadhfdpihkaaGreatDoorTie.lean); close each card by the builder's one call (the guide's Derived/Test/ToyasCard.lean, 'card_holds'). Laid BY PROGRAM, IN A SANDBOX (cutbox-door.mjs). By AI agents, Wed Nov 11 2026. No macro, syntax, notation, axiom, sorry.
-/
import Derived.Test.YtpijadhfdpihkaaGreatDoorRows
import GoSem.ClaimSeven
namespace Go.Proofs.YtpijadhfdpihkaaGreatDoor
namespace Rows

/-- THE TIED CARD OF 'laws.FnExactHouseRight'. -/
def fnExactHouseRightCard : Claim7 := { stood := { row := fnExactHouseRightRow, standIns := [], harness := (true, "5ad9b634d740c014c129bebca6f63fb6f5a14e0e2093538b096de30c0cd7654e"), looks := true }, kinds := [], alts := [], laidByText := true, laidKinds := [.handle, .data, .data], laidTests := true, laidLooks := .later }
def FnExactHouseRightCardSaid : Prop := Claim7.holds Tryz.pinned (.plain (OpenSpec.ofChange fnExactHouseRightSpec)) fnExactHouseRightCard

/-- THE SECOND FORM's CARD OF 'laws.FnExactHouseRight'. -/
def fnExactHouseRightUptoCard : Claim7 := { stood := { row := fnExactHouseRightUptoRow, standIns := [], harness := (true, "5ad9b634d740c014c129bebca6f63fb6f5a14e0e2093538b096de30c0cd7654e"), looks := true }, kinds := [], alts := [], laidByText := true, laidKinds := [.handle, .data, .data], laidTests := true, laidLooks := .later }
def FnExactHouseRightUptoCardSaid : Prop := Claim7.holds Tryz.pinned (.plain (OpenSpec.upto fnExactHouseRightSpec)) fnExactHouseRightUptoCard
end Rows
end Go.Proofs.YtpijadhfdpihkaaGreatDoor
