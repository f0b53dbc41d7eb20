/-
  DERIVED. GIVEN WITH THE SEED: THE CARDS: each row of YthfecjjahoflcaaGreatDoorRows.lean that lists a variable, with what it lists TIED to the program's text (the seventh form; the later family's looks); each row that meets fmt, with fmt's text TOLD by the authors' own Lean function (tested against real Go, not proved from fmt's source: count such statements apart). THE CARD IS WHAT COUNTS. Prove the row's statement (the work); the ties are given (YthfecjjahoflcaaGreatDoorTie.lean); close each card by the builder's one call (the guide's Derived/Test/ToyasCard.lean, 'card_holds'). Laid BY PROGRAM, IN A SANDBOX (cutbox-door.mjs). By AI agents, Wed Nov 11 2026. No macro, syntax, notation, axiom, sorry.
-/
import Derived.Test.YthfecjjahoflcaaGreatDoorRows
import GoSem.ClaimSeven
namespace Go.Proofs.YthfecjjahoflcaaGreatDoor
namespace Rows

/-- THE TIED CARD OF 'laws.FnExactLogAdd'. -/
def fnExactLogAddCard : Claim7 := { stood := { row := fnExactLogAddRow, standIns := [], harness := (true, "8d3488f29ff623627e6a271665f5213b52ca8b0dc79cd47e3c82d7866cb775ca"), looks := true }, kinds := [], alts := [], laidByText := true, laidKinds := [.handle, .data, .data], laidTests := true, laidLooks := .later }
def FnExactLogAddCardSaid : Prop := Claim7.holds Tryz.pinned (.plain (OpenSpec.ofChange fnExactLogAddSpec)) fnExactLogAddCard

/-- THE TIED CARD OF 'laws.FnExactLogForget'. -/
def fnExactLogForgetCard : Claim7 := { stood := { row := fnExactLogForgetRow, standIns := [], harness := (true, "8d3488f29ff623627e6a271665f5213b52ca8b0dc79cd47e3c82d7866cb775ca"), looks := true }, kinds := [], alts := [], laidByText := true, laidKinds := [.handle, .data, .data], laidTests := true, laidLooks := .later }
def FnExactLogForgetCardSaid : Prop := Claim7.holds Tryz.pinned (.plain (OpenSpec.ofChange fnExactLogForgetSpec)) fnExactLogForgetCard

/-- THE SECOND FORM's CARD OF 'laws.FnExactLogAdd'. -/
def fnExactLogAddUptoCard : Claim7 := { stood := { row := fnExactLogAddUptoRow, standIns := [], harness := (true, "8d3488f29ff623627e6a271665f5213b52ca8b0dc79cd47e3c82d7866cb775ca"), looks := true }, kinds := [], alts := [], laidByText := true, laidKinds := [.handle, .data, .data], laidTests := true, laidLooks := .later }
def FnExactLogAddUptoCardSaid : Prop := Claim7.holds Tryz.pinned (.plain (OpenSpec.upto fnExactLogAddSpec)) fnExactLogAddUptoCard

/-- THE SECOND FORM's CARD OF 'laws.FnExactLogForget'. -/
def fnExactLogForgetUptoCard : Claim7 := { stood := { row := fnExactLogForgetUptoRow, standIns := [], harness := (true, "8d3488f29ff623627e6a271665f5213b52ca8b0dc79cd47e3c82d7866cb775ca"), looks := true }, kinds := [], alts := [], laidByText := true, laidKinds := [.handle, .data, .data], laidTests := true, laidLooks := .later }
def FnExactLogForgetUptoCardSaid : Prop := Claim7.holds Tryz.pinned (.plain (OpenSpec.upto fnExactLogForgetSpec)) fnExactLogForgetUptoCard
end Rows
end Go.Proofs.YthfecjjahoflcaaGreatDoor
