/-
  DERIVED. GIVEN WITH THE SEED: THE CARDS: each row of YtifomfimfdgjjaaGreatDoorRows.lean that lists a variable, with what it lists TIED to the program's text (the seventh form; the later family's looks); each row that meets fmt, with fmt's text TOLD by the authors' own Lean function (tested against real Go, not proved from fmt's source: count such statements apart). THE CARD IS WHAT COUNTS. Prove the row's statement (the work); the ties are given (YtifomfimfdgjjaaGreatDoorTie.lean); close each card by the builder's one call (the guide's Derived/Test/ToyasCard.lean, 'card_holds'). Laid BY PROGRAM, IN A SANDBOX (cutbox-door.mjs). By AI agents, Wed Nov 11 2026. No macro, syntax, notation, axiom, sorry.
-/
import Derived.Test.YtifomfimfdgjjaaGreatDoorRows
import GoSem.ClaimSeven
namespace Go.Proofs.YtifomfimfdgjjaaGreatDoor
namespace Rows

/-- THE TIED CARD OF 'laws.FnExactDuesOf'. -/
def fnExactDuesOfCard : Claim7 := { stood := { row := fnExactDuesOfRow, standIns := [], harness := (true, "9861eb1e6c5e5d4ca7bc6450ea4acb4ee0df0d5bdcc4d49402deb0cc46bf19da"), looks := true }, kinds := [], alts := [], laidByText := true, laidKinds := [.handle, .data, .data], laidTests := true, laidLooks := .later }
def FnExactDuesOfCardSaid : Prop := Claim7.holds Tryz.pinned (.plain (OpenSpec.ofChange fnExactDuesOfSpec)) fnExactDuesOfCard

/-- THE TIED CARD OF 'laws.FnExactMayForget'. -/
def fnExactMayForgetCard : Claim7 := { stood := { row := fnExactMayForgetRow, standIns := [], harness := (true, "9861eb1e6c5e5d4ca7bc6450ea4acb4ee0df0d5bdcc4d49402deb0cc46bf19da"), looks := true }, kinds := [], alts := [], laidByText := true, laidKinds := [.handle, .data, .data], laidTests := true, laidLooks := .later }
def FnExactMayForgetCardSaid : Prop := Claim7.holds Tryz.pinned (.plain (OpenSpec.ofChange fnExactMayForgetSpec)) fnExactMayForgetCard

/-- THE TIED CARD OF 'laws.FnExactAskForget'. -/
def fnExactAskForgetCard : Claim7 := { stood := { row := fnExactAskForgetRow, standIns := [], harness := (true, "9861eb1e6c5e5d4ca7bc6450ea4acb4ee0df0d5bdcc4d49402deb0cc46bf19da"), looks := true }, kinds := [], alts := [], laidByText := true, laidKinds := [.handle, .data, .data], laidTests := true, laidLooks := .later }
def FnExactAskForgetCardSaid : Prop := Claim7.holds Tryz.pinned (.plain (OpenSpec.ofChange fnExactAskForgetSpec)) fnExactAskForgetCard

/-- THE TIED CARD OF 'laws.FnExactSweep'. -/
def fnExactSweepCard : Claim7 := { stood := { row := fnExactSweepRow, standIns := [], harness := (true, "9861eb1e6c5e5d4ca7bc6450ea4acb4ee0df0d5bdcc4d49402deb0cc46bf19da"), looks := true }, kinds := [], alts := [], laidByText := true, laidKinds := [.handle, .data, .data], laidTests := true, laidLooks := .later }
def FnExactSweepCardSaid : Prop := Claim7.holds Tryz.pinned (.plain (OpenSpec.ofChange fnExactSweepSpec)) fnExactSweepCard

/-- THE TIED CARD OF 'laws.FnSweep'. -/
def fnSweepCard : Claim7 := { stood := { row := fnSweepRow, standIns := [], harness := (true, "9861eb1e6c5e5d4ca7bc6450ea4acb4ee0df0d5bdcc4d49402deb0cc46bf19da"), looks := true }, kinds := [], alts := [], laidByText := true, laidKinds := [.handle, .data, .data], laidTests := true, laidLooks := .later }
def FnSweepCardSaid : Prop := Claim7.holds Tryz.pinned (.plain (OpenSpec.ofChange fnSweepSpec)) fnSweepCard

/-- THE TIED CARD OF 'laws.FnAsked'. -/
def fnAskedCard : Claim7 := { stood := { row := fnAskedRow, standIns := [], harness := (true, "9861eb1e6c5e5d4ca7bc6450ea4acb4ee0df0d5bdcc4d49402deb0cc46bf19da"), looks := true }, kinds := [], alts := [], laidByText := true, laidKinds := [.handle, .data, .data], laidTests := true, laidLooks := .later }
def FnAskedCardSaid : Prop := Claim7.holds Tryz.pinned (.plain (OpenSpec.ofChange fnAskedSpec)) fnAskedCard

/-- THE SECOND FORM's CARD OF 'laws.FnExactDuesOf'. -/
def fnExactDuesOfUptoCard : Claim7 := { stood := { row := fnExactDuesOfUptoRow, standIns := [], harness := (true, "9861eb1e6c5e5d4ca7bc6450ea4acb4ee0df0d5bdcc4d49402deb0cc46bf19da"), looks := true }, kinds := [], alts := [], laidByText := true, laidKinds := [.handle, .data, .data], laidTests := true, laidLooks := .later }
def FnExactDuesOfUptoCardSaid : Prop := Claim7.holds Tryz.pinned (.plain (OpenSpec.upto fnExactDuesOfSpec)) fnExactDuesOfUptoCard

/-- THE SECOND FORM's CARD OF 'laws.FnExactMayForget'. -/
def fnExactMayForgetUptoCard : Claim7 := { stood := { row := fnExactMayForgetUptoRow, standIns := [], harness := (true, "9861eb1e6c5e5d4ca7bc6450ea4acb4ee0df0d5bdcc4d49402deb0cc46bf19da"), looks := true }, kinds := [], alts := [], laidByText := true, laidKinds := [.handle, .data, .data], laidTests := true, laidLooks := .later }
def FnExactMayForgetUptoCardSaid : Prop := Claim7.holds Tryz.pinned (.plain (OpenSpec.upto fnExactMayForgetSpec)) fnExactMayForgetUptoCard

/-- THE SECOND FORM's CARD OF 'laws.FnExactAskForget'. -/
def fnExactAskForgetUptoCard : Claim7 := { stood := { row := fnExactAskForgetUptoRow, standIns := [], harness := (true, "9861eb1e6c5e5d4ca7bc6450ea4acb4ee0df0d5bdcc4d49402deb0cc46bf19da"), looks := true }, kinds := [], alts := [], laidByText := true, laidKinds := [.handle, .data, .data], laidTests := true, laidLooks := .later }
def FnExactAskForgetUptoCardSaid : Prop := Claim7.holds Tryz.pinned (.plain (OpenSpec.upto fnExactAskForgetSpec)) fnExactAskForgetUptoCard

/-- THE SECOND FORM's CARD OF 'laws.FnExactSweep'. -/
def fnExactSweepUptoCard : Claim7 := { stood := { row := fnExactSweepUptoRow, standIns := [], harness := (true, "9861eb1e6c5e5d4ca7bc6450ea4acb4ee0df0d5bdcc4d49402deb0cc46bf19da"), looks := true }, kinds := [], alts := [], laidByText := true, laidKinds := [.handle, .data, .data], laidTests := true, laidLooks := .later }
def FnExactSweepUptoCardSaid : Prop := Claim7.holds Tryz.pinned (.plain (OpenSpec.upto fnExactSweepSpec)) fnExactSweepUptoCard

/-- THE SECOND FORM's CARD OF 'laws.FnSweep'. -/
def fnSweepUptoCard : Claim7 := { stood := { row := fnSweepUptoRow, standIns := [], harness := (true, "9861eb1e6c5e5d4ca7bc6450ea4acb4ee0df0d5bdcc4d49402deb0cc46bf19da"), looks := true }, kinds := [], alts := [], laidByText := true, laidKinds := [.handle, .data, .data], laidTests := true, laidLooks := .later }
def FnSweepUptoCardSaid : Prop := Claim7.holds Tryz.pinned (.plain (OpenSpec.upto fnSweepSpec)) fnSweepUptoCard

/-- THE SECOND FORM's CARD OF 'laws.FnAsked'. -/
def fnAskedUptoCard : Claim7 := { stood := { row := fnAskedUptoRow, standIns := [], harness := (true, "9861eb1e6c5e5d4ca7bc6450ea4acb4ee0df0d5bdcc4d49402deb0cc46bf19da"), looks := true }, kinds := [], alts := [], laidByText := true, laidKinds := [.handle, .data, .data], laidTests := true, laidLooks := .later }
def FnAskedUptoCardSaid : Prop := Claim7.holds Tryz.pinned (.plain (OpenSpec.upto fnAskedSpec)) fnAskedUptoCard
end Rows
end Go.Proofs.YtifomfimfdgjjaaGreatDoor
