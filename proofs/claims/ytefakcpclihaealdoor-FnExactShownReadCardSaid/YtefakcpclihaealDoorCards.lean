/-
  DERIVED. GIVEN WITH THE SEED: THE CARDS: each row of YtefakcpclihaealDoorRows.lean that lists a variable, with what it lists TIED to the program's text (the seventh form; the later family's looks); each row that meets fmt, with fmt's text TOLD by the authors' own Lean function (tested against real Go, not proved from fmt's source: count such statements apart). THE CARD IS WHAT COUNTS. Prove the row's statement (the work); the ties are given (YtefakcpclihaealDoorTie.lean); close each card by the builder's one call (the guide's Derived/Test/ToyasCard.lean, 'card_holds'). Laid BY PROGRAM, IN A SANDBOX (cutbox-door.mjs). By AI agents, Wed Nov 11 2026. No macro, syntax, notation, axiom, sorry.
-/
import Derived.Test.YtefakcpclihaealDoorRows
import GoSem.ClaimSeven
namespace Go.Proofs.YtefakcpclihaealDoor
namespace Rows

/-- THE TIED CARD OF 'laws.FnExactForget'. -/
def fnExactForgetCard : Claim7 := { stood := { row := fnExactForgetRow, standIns := [], harness := (true, "e26a635f31114560e08965cb320ccae3d949677ca7f043b4daa07ce829041d73"), looks := false }, kinds := [], alts := [], laidByText := true, laidKinds := [.data, .data], laidTests := true, laidLooks := .later }
def FnExactForgetCardSaid : Prop := Claim7.holds Tryd.pinned (.plain (OpenSpec.ofChange fnExactForgetSpec)) fnExactForgetCard

/-- THE TIED CARD OF 'laws.FnExactShow'. -/
def fnExactShowCard : Claim7 := { stood := { row := fnExactShowRow, standIns := [], harness := (true, "e26a635f31114560e08965cb320ccae3d949677ca7f043b4daa07ce829041d73"), looks := false }, kinds := [], alts := [], laidByText := true, laidKinds := [.data, .data], laidTests := true, laidLooks := .later }
def FnExactShowCardSaid : Prop := Claim7.holds Tryd.pinned (.plain (OpenSpec.ofChange fnExactShowSpec)) fnExactShowCard

/-- THE TIED CARD OF 'laws.FnExactShownLeaf'. -/
def fnExactShownLeafCard : Claim7 := { stood := { row := fnExactShownLeafRow, standIns := [], harness := (true, "e26a635f31114560e08965cb320ccae3d949677ca7f043b4daa07ce829041d73"), looks := false }, kinds := [], alts := [], laidByText := true, laidKinds := [.data, .data], laidTests := true, laidLooks := .later }
def FnExactShownLeafCardSaid : Prop := Claim7.holds Tryd.pinned (.plain (OpenSpec.ofChange fnExactShownLeafSpec)) fnExactShownLeafCard

/-- THE TIED CARD OF 'laws.FnExactShownBytes'. -/
def fnExactShownBytesCard : Claim7 := { stood := { row := fnExactShownBytesRow, standIns := [], harness := (true, "e26a635f31114560e08965cb320ccae3d949677ca7f043b4daa07ce829041d73"), looks := false }, kinds := [], alts := [], laidByText := true, laidKinds := [.data, .data], laidTests := true, laidLooks := .later }
def FnExactShownBytesCardSaid : Prop := Claim7.holds Tryd.pinned (.plain (OpenSpec.ofChange fnExactShownBytesSpec)) fnExactShownBytesCard

/-- THE TIED CARD OF 'laws.FnExactShownRead'. -/
def fnExactShownReadCard : Claim7 := { stood := { row := fnExactShownReadRow, standIns := [], harness := (true, "e26a635f31114560e08965cb320ccae3d949677ca7f043b4daa07ce829041d73"), looks := false }, kinds := [], alts := [], laidByText := true, laidKinds := [.data, .data], laidTests := true, laidLooks := .later }
def FnExactShownReadCardSaid : Prop := Claim7.holds Tryd.pinned (.plain (OpenSpec.ofChange fnExactShownReadSpec)) fnExactShownReadCard

/-- THE SECOND FORM's CARD OF 'laws.FnExactForget'. -/
def fnExactForgetUptoCard : Claim7 := { stood := { row := fnExactForgetUptoRow, standIns := [], harness := (true, "e26a635f31114560e08965cb320ccae3d949677ca7f043b4daa07ce829041d73"), looks := false }, kinds := [], alts := [], laidByText := true, laidKinds := [.data, .data], laidTests := true, laidLooks := .later }
def FnExactForgetUptoCardSaid : Prop := Claim7.holds Tryd.pinned (.plain (OpenSpec.upto fnExactForgetSpec)) fnExactForgetUptoCard

/-- THE SECOND FORM's CARD OF 'laws.FnExactShow'. -/
def fnExactShowUptoCard : Claim7 := { stood := { row := fnExactShowUptoRow, standIns := [], harness := (true, "e26a635f31114560e08965cb320ccae3d949677ca7f043b4daa07ce829041d73"), looks := false }, kinds := [], alts := [], laidByText := true, laidKinds := [.data, .data], laidTests := true, laidLooks := .later }
def FnExactShowUptoCardSaid : Prop := Claim7.holds Tryd.pinned (.plain (OpenSpec.upto fnExactShowSpec)) fnExactShowUptoCard

/-- THE SECOND FORM's CARD OF 'laws.FnExactShownLeaf'. -/
def fnExactShownLeafUptoCard : Claim7 := { stood := { row := fnExactShownLeafUptoRow, standIns := [], harness := (true, "e26a635f31114560e08965cb320ccae3d949677ca7f043b4daa07ce829041d73"), looks := false }, kinds := [], alts := [], laidByText := true, laidKinds := [.data, .data], laidTests := true, laidLooks := .later }
def FnExactShownLeafUptoCardSaid : Prop := Claim7.holds Tryd.pinned (.plain (OpenSpec.upto fnExactShownLeafSpec)) fnExactShownLeafUptoCard

/-- THE SECOND FORM's CARD OF 'laws.FnExactShownBytes'. -/
def fnExactShownBytesUptoCard : Claim7 := { stood := { row := fnExactShownBytesUptoRow, standIns := [], harness := (true, "e26a635f31114560e08965cb320ccae3d949677ca7f043b4daa07ce829041d73"), looks := false }, kinds := [], alts := [], laidByText := true, laidKinds := [.data, .data], laidTests := true, laidLooks := .later }
def FnExactShownBytesUptoCardSaid : Prop := Claim7.holds Tryd.pinned (.plain (OpenSpec.upto fnExactShownBytesSpec)) fnExactShownBytesUptoCard

/-- THE SECOND FORM's CARD OF 'laws.FnExactShownRead'. -/
def fnExactShownReadUptoCard : Claim7 := { stood := { row := fnExactShownReadUptoRow, standIns := [], harness := (true, "e26a635f31114560e08965cb320ccae3d949677ca7f043b4daa07ce829041d73"), looks := false }, kinds := [], alts := [], laidByText := true, laidKinds := [.data, .data], laidTests := true, laidLooks := .later }
def FnExactShownReadUptoCardSaid : Prop := Claim7.holds Tryd.pinned (.plain (OpenSpec.upto fnExactShownReadSpec)) fnExactShownReadUptoCard
end Rows
end Go.Proofs.YtefakcpclihaealDoor
