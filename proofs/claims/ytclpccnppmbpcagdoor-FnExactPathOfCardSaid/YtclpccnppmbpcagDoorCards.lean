/-
  DERIVED. GIVEN WITH THE SEED: THE CARDS: each row of YtclpccnppmbpcagDoorRows.lean that lists a variable, with what it lists TIED to the program's text (the seventh form; the later family's looks); each row that meets fmt, with fmt's text TOLD by the authors' own Lean function (tested against real Go, not proved from fmt's source: count such statements apart). THE CARD IS WHAT COUNTS. Prove the row's statement (the work); the ties are given (YtclpccnppmbpcagDoorTie.lean); close each card by the builder's one call (the guide's Derived/Test/ToyasCard.lean, 'card_holds'). Laid BY PROGRAM, IN A SANDBOX (cutbox-door.mjs). By AI agents, Wed Nov 11 2026. No macro, syntax, notation, axiom, sorry.
-/
import Derived.Test.YtclpccnppmbpcagDoorRows
import GoSem.ClaimSeven
namespace Go.Proofs.YtclpccnppmbpcagDoor
namespace Rows

/-- THE TIED CARD OF 'laws.FnExactMac'. -/
def fnExactMacCard : Claim7 := { stood := { row := fnExactMacRow, standIns := [], harness := (true, "5e0c6c73242852e6f5bd3610be2c23f0c580783cfd4530c2a4a576f7f5098e34"), looks := false }, kinds := [], alts := [], laidByText := true, laidKinds := [.data, .data], laidTests := true, laidLooks := .later }
def FnExactMacCardSaid : Prop := Claim7.holds Tryd.pinned (.plain (OpenSpec.ofChange fnExactMacSpec)) fnExactMacCard

/-- THE TIED CARD OF 'laws.FnExactStretch'. -/
def fnExactStretchCard : Claim7 := { stood := { row := fnExactStretchRow, standIns := [], harness := (true, "5e0c6c73242852e6f5bd3610be2c23f0c580783cfd4530c2a4a576f7f5098e34"), looks := false }, kinds := [], alts := [], laidByText := true, laidKinds := [.data, .data], laidTests := true, laidLooks := .later }
def FnExactStretchCardSaid : Prop := Claim7.holds Tryd.pinned (.plain (OpenSpec.ofChange fnExactStretchSpec)) fnExactStretchCard

/-- THE TIED CARD OF 'laws.FnExactLeafHash'. -/
def fnExactLeafHashCard : Claim7 := { stood := { row := fnExactLeafHashRow, standIns := [], harness := (true, "5e0c6c73242852e6f5bd3610be2c23f0c580783cfd4530c2a4a576f7f5098e34"), looks := false }, kinds := [], alts := [], laidByText := true, laidKinds := [.data, .data], laidTests := true, laidLooks := .later }
def FnExactLeafHashCardSaid : Prop := Claim7.holds Tryd.pinned (.plain (OpenSpec.ofChange fnExactLeafHashSpec)) fnExactLeafHashCard

/-- THE TIED CARD OF 'laws.FnExactNodeHash'. -/
def fnExactNodeHashCard : Claim7 := { stood := { row := fnExactNodeHashRow, standIns := [], harness := (true, "5e0c6c73242852e6f5bd3610be2c23f0c580783cfd4530c2a4a576f7f5098e34"), looks := false }, kinds := [], alts := [], laidByText := true, laidKinds := [.data, .data], laidTests := true, laidLooks := .later }
def FnExactNodeHashCardSaid : Prop := Claim7.holds Tryd.pinned (.plain (OpenSpec.ofChange fnExactNodeHashSpec)) fnExactNodeHashCard

/-- THE TIED CARD OF 'laws.FnExactTreeHash'. -/
def fnExactTreeHashCard : Claim7 := { stood := { row := fnExactTreeHashRow, standIns := [], harness := (true, "5e0c6c73242852e6f5bd3610be2c23f0c580783cfd4530c2a4a576f7f5098e34"), looks := false }, kinds := [], alts := [], laidByText := true, laidKinds := [.data, .data], laidTests := true, laidLooks := .later }
def FnExactTreeHashCardSaid : Prop := Claim7.holds Tryd.pinned (.plain (OpenSpec.ofChange fnExactTreeHashSpec)) fnExactTreeHashCard

/-- THE TIED CARD OF 'laws.FnExactPathOf'. -/
def fnExactPathOfCard : Claim7 := { stood := { row := fnExactPathOfRow, standIns := [], harness := (true, "5e0c6c73242852e6f5bd3610be2c23f0c580783cfd4530c2a4a576f7f5098e34"), looks := false }, kinds := [], alts := [], laidByText := true, laidKinds := [.data, .data], laidTests := true, laidLooks := .later }
def FnExactPathOfCardSaid : Prop := Claim7.holds Tryd.pinned (.plain (OpenSpec.ofChange fnExactPathOfSpec)) fnExactPathOfCard

/-- THE SECOND FORM's CARD OF 'laws.FnExactMac'. -/
def fnExactMacUptoCard : Claim7 := { stood := { row := fnExactMacUptoRow, standIns := [], harness := (true, "5e0c6c73242852e6f5bd3610be2c23f0c580783cfd4530c2a4a576f7f5098e34"), looks := false }, kinds := [], alts := [], laidByText := true, laidKinds := [.data, .data], laidTests := true, laidLooks := .later }
def FnExactMacUptoCardSaid : Prop := Claim7.holds Tryd.pinned (.plain (OpenSpec.upto fnExactMacSpec)) fnExactMacUptoCard

/-- THE SECOND FORM's CARD OF 'laws.FnExactStretch'. -/
def fnExactStretchUptoCard : Claim7 := { stood := { row := fnExactStretchUptoRow, standIns := [], harness := (true, "5e0c6c73242852e6f5bd3610be2c23f0c580783cfd4530c2a4a576f7f5098e34"), looks := false }, kinds := [], alts := [], laidByText := true, laidKinds := [.data, .data], laidTests := true, laidLooks := .later }
def FnExactStretchUptoCardSaid : Prop := Claim7.holds Tryd.pinned (.plain (OpenSpec.upto fnExactStretchSpec)) fnExactStretchUptoCard

/-- THE SECOND FORM's CARD OF 'laws.FnExactLeafHash'. -/
def fnExactLeafHashUptoCard : Claim7 := { stood := { row := fnExactLeafHashUptoRow, standIns := [], harness := (true, "5e0c6c73242852e6f5bd3610be2c23f0c580783cfd4530c2a4a576f7f5098e34"), looks := false }, kinds := [], alts := [], laidByText := true, laidKinds := [.data, .data], laidTests := true, laidLooks := .later }
def FnExactLeafHashUptoCardSaid : Prop := Claim7.holds Tryd.pinned (.plain (OpenSpec.upto fnExactLeafHashSpec)) fnExactLeafHashUptoCard

/-- THE SECOND FORM's CARD OF 'laws.FnExactNodeHash'. -/
def fnExactNodeHashUptoCard : Claim7 := { stood := { row := fnExactNodeHashUptoRow, standIns := [], harness := (true, "5e0c6c73242852e6f5bd3610be2c23f0c580783cfd4530c2a4a576f7f5098e34"), looks := false }, kinds := [], alts := [], laidByText := true, laidKinds := [.data, .data], laidTests := true, laidLooks := .later }
def FnExactNodeHashUptoCardSaid : Prop := Claim7.holds Tryd.pinned (.plain (OpenSpec.upto fnExactNodeHashSpec)) fnExactNodeHashUptoCard

/-- THE SECOND FORM's CARD OF 'laws.FnExactTreeHash'. -/
def fnExactTreeHashUptoCard : Claim7 := { stood := { row := fnExactTreeHashUptoRow, standIns := [], harness := (true, "5e0c6c73242852e6f5bd3610be2c23f0c580783cfd4530c2a4a576f7f5098e34"), looks := false }, kinds := [], alts := [], laidByText := true, laidKinds := [.data, .data], laidTests := true, laidLooks := .later }
def FnExactTreeHashUptoCardSaid : Prop := Claim7.holds Tryd.pinned (.plain (OpenSpec.upto fnExactTreeHashSpec)) fnExactTreeHashUptoCard

/-- THE SECOND FORM's CARD OF 'laws.FnExactPathOf'. -/
def fnExactPathOfUptoCard : Claim7 := { stood := { row := fnExactPathOfUptoRow, standIns := [], harness := (true, "5e0c6c73242852e6f5bd3610be2c23f0c580783cfd4530c2a4a576f7f5098e34"), looks := false }, kinds := [], alts := [], laidByText := true, laidKinds := [.data, .data], laidTests := true, laidLooks := .later }
def FnExactPathOfUptoCardSaid : Prop := Claim7.holds Tryd.pinned (.plain (OpenSpec.upto fnExactPathOfSpec)) fnExactPathOfUptoCard
end Rows
end Go.Proofs.YtclpccnppmbpcagDoor
