/-
  DERIVED. GIVEN WITH THE SEED: THE CARDS: each row of YtokkeadbkeehgaaGreatDoorRows.lean that lists a variable, with what it lists TIED to the program's text (the seventh form; the later family's looks); each row that meets fmt, with fmt's text TOLD by the authors' own Lean function (tested against real Go, not proved from fmt's source: count such statements apart). THE CARD IS WHAT COUNTS. Prove the row's statement (the work); the ties are given (YtokkeadbkeehgaaGreatDoorTie.lean); close each card by the builder's one call (the guide's Derived/Test/ToyasCard.lean, 'card_holds'). Laid BY PROGRAM, IN A SANDBOX (cutbox-door.mjs). By AI agents, Wed Nov 11 2026. No macro, syntax, notation, axiom, sorry.
-/
import Derived.Test.YtokkeadbkeehgaaGreatDoorRows
import GoSem.ClaimSeven
namespace Go.Proofs.YtokkeadbkeehgaaGreatDoor
namespace Rows

/-- THE TIED CARD OF 'laws.FnExactDuesOf'. -/
def fnExactDuesOfCard : Claim7 := { stood := { row := fnExactDuesOfRow, standIns := [], harness := (true, "65f6485df0c0876e2c03c2b0d130f545c7fa41b80f9fb99fe4806905c460a05d"), looks := true }, kinds := [], alts := [], laidByText := true, laidKinds := [.handle, .data, .data], laidTests := true, laidLooks := .later }
def FnExactDuesOfCardSaid : Prop := Claim7.holds Tryz.pinned (.plain (OpenSpec.ofChange fnExactDuesOfSpec)) fnExactDuesOfCard

/-- THE TIED CARD OF 'laws.FnExactAskForget'. -/
def fnExactAskForgetCard : Claim7 := { stood := { row := fnExactAskForgetRow, standIns := [], harness := (true, "65f6485df0c0876e2c03c2b0d130f545c7fa41b80f9fb99fe4806905c460a05d"), looks := true }, kinds := [], alts := [], laidByText := true, laidKinds := [.handle, .data, .data], laidTests := true, laidLooks := .later }
def FnExactAskForgetCardSaid : Prop := Claim7.holds Tryz.pinned (.plain (OpenSpec.ofChange fnExactAskForgetSpec)) fnExactAskForgetCard

/-- THE TIED CARD OF 'laws.FnExactSweep'. -/
def fnExactSweepCard : Claim7 := { stood := { row := fnExactSweepRow, standIns := [], harness := (true, "65f6485df0c0876e2c03c2b0d130f545c7fa41b80f9fb99fe4806905c460a05d"), looks := true }, kinds := [], alts := [], laidByText := true, laidKinds := [.handle, .data, .data], laidTests := true, laidLooks := .later }
def FnExactSweepCardSaid : Prop := Claim7.holds Tryz.pinned (.plain (OpenSpec.ofChange fnExactSweepSpec)) fnExactSweepCard

/-- THE SECOND FORM's CARD OF 'laws.FnExactDuesOf'. -/
def fnExactDuesOfUptoCard : Claim7 := { stood := { row := fnExactDuesOfUptoRow, standIns := [], harness := (true, "65f6485df0c0876e2c03c2b0d130f545c7fa41b80f9fb99fe4806905c460a05d"), looks := true }, kinds := [], alts := [], laidByText := true, laidKinds := [.handle, .data, .data], laidTests := true, laidLooks := .later }
def FnExactDuesOfUptoCardSaid : Prop := Claim7.holds Tryz.pinned (.plain (OpenSpec.upto fnExactDuesOfSpec)) fnExactDuesOfUptoCard

/-- THE SECOND FORM's CARD OF 'laws.FnExactAskForget'. -/
def fnExactAskForgetUptoCard : Claim7 := { stood := { row := fnExactAskForgetUptoRow, standIns := [], harness := (true, "65f6485df0c0876e2c03c2b0d130f545c7fa41b80f9fb99fe4806905c460a05d"), looks := true }, kinds := [], alts := [], laidByText := true, laidKinds := [.handle, .data, .data], laidTests := true, laidLooks := .later }
def FnExactAskForgetUptoCardSaid : Prop := Claim7.holds Tryz.pinned (.plain (OpenSpec.upto fnExactAskForgetSpec)) fnExactAskForgetUptoCard

/-- THE SECOND FORM's CARD OF 'laws.FnExactSweep'. -/
def fnExactSweepUptoCard : Claim7 := { stood := { row := fnExactSweepUptoRow, standIns := [], harness := (true, "65f6485df0c0876e2c03c2b0d130f545c7fa41b80f9fb99fe4806905c460a05d"), looks := true }, kinds := [], alts := [], laidByText := true, laidKinds := [.handle, .data, .data], laidTests := true, laidLooks := .later }
def FnExactSweepUptoCardSaid : Prop := Claim7.holds Tryz.pinned (.plain (OpenSpec.upto fnExactSweepSpec)) fnExactSweepUptoCard
end Rows
end Go.Proofs.YtokkeadbkeehgaaGreatDoor
