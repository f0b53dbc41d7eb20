/-
  DERIVED. GIVEN WITH THE SEED: THE CARDS: each row of YtjdgeiddbmmckagDoorRows.lean that lists a variable, with what it lists TIED to the program's text (the seventh form; the later family's looks); each row that meets fmt, with fmt's text TOLD by the authors' own Lean function (tested against real Go, not proved from fmt's source: count such statements apart). THE CARD IS WHAT COUNTS. Prove the row's statement (the work); the ties are given (YtjdgeiddbmmckagDoorTie.lean); close each card by the builder's one call (the guide's Derived/Test/ToyasCard.lean, 'card_holds'). Laid BY PROGRAM, IN A SANDBOX (cutbox-door.mjs). By AI agents, Wed Nov 11 2026. No macro, syntax, notation, axiom, sorry.
-/
import Derived.Test.YtjdgeiddbmmckagDoorRows
import GoSem.ClaimSeven
namespace Go.Proofs.YtjdgeiddbmmckagDoor
namespace Rows

/-- THE TIED CARD OF 'laws.FnExactMac'. -/
def fnExactMacCard : Claim7 := { stood := { row := fnExactMacRow, standIns := [], harness := (true, "287821fc51b33ea57e8b0d1615dee6ea98f22f1fad3288fad0442bc9f844c8d5"), looks := false }, kinds := [], alts := [], laidByText := true, laidKinds := [.data, .data], laidTests := true, laidLooks := .later }
def FnExactMacCardSaid : Prop := Claim7.holds Tryd.pinned (.plain (OpenSpec.ofChange fnExactMacSpec)) fnExactMacCard

/-- THE TIED CARD OF 'laws.FnExactStretch'. -/
def fnExactStretchCard : Claim7 := { stood := { row := fnExactStretchRow, standIns := [], harness := (true, "287821fc51b33ea57e8b0d1615dee6ea98f22f1fad3288fad0442bc9f844c8d5"), looks := false }, kinds := [], alts := [], laidByText := true, laidKinds := [.data, .data], laidTests := true, laidLooks := .later }
def FnExactStretchCardSaid : Prop := Claim7.holds Tryd.pinned (.plain (OpenSpec.ofChange fnExactStretchSpec)) fnExactStretchCard

/-- THE SECOND FORM's CARD OF 'laws.FnExactMac'. -/
def fnExactMacUptoCard : Claim7 := { stood := { row := fnExactMacUptoRow, standIns := [], harness := (true, "287821fc51b33ea57e8b0d1615dee6ea98f22f1fad3288fad0442bc9f844c8d5"), looks := false }, kinds := [], alts := [], laidByText := true, laidKinds := [.data, .data], laidTests := true, laidLooks := .later }
def FnExactMacUptoCardSaid : Prop := Claim7.holds Tryd.pinned (.plain (OpenSpec.upto fnExactMacSpec)) fnExactMacUptoCard

/-- THE SECOND FORM's CARD OF 'laws.FnExactStretch'. -/
def fnExactStretchUptoCard : Claim7 := { stood := { row := fnExactStretchUptoRow, standIns := [], harness := (true, "287821fc51b33ea57e8b0d1615dee6ea98f22f1fad3288fad0442bc9f844c8d5"), looks := false }, kinds := [], alts := [], laidByText := true, laidKinds := [.data, .data], laidTests := true, laidLooks := .later }
def FnExactStretchUptoCardSaid : Prop := Claim7.holds Tryd.pinned (.plain (OpenSpec.upto fnExactStretchSpec)) fnExactStretchUptoCard
end Rows
end Go.Proofs.YtjdgeiddbmmckagDoor
