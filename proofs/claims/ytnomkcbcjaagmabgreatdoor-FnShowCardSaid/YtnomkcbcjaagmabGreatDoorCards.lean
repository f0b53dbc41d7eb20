/-
  DERIVED. GIVEN WITH THE SEED: THE CARDS: each row of YtnomkcbcjaagmabGreatDoorRows.lean that lists a variable, with what it lists TIED to the program's text (the seventh form; the later family's looks); each row that meets fmt, with fmt's text TOLD by the authors' own Lean function (tested against real Go, not proved from fmt's source: count such statements apart). THE CARD IS WHAT COUNTS. Prove the row's statement (the work); the ties are given (YtnomkcbcjaagmabGreatDoorTie.lean); close each card by the builder's one call (the guide's Derived/Test/ToyasCard.lean, 'card_holds'). Laid BY PROGRAM, IN A SANDBOX (cutbox-door.mjs). By AI agents, Wed Nov 11 2026. No macro, syntax, notation, axiom, sorry.
-/
import Derived.Test.YtnomkcbcjaagmabGreatDoorRows
import GoSem.ClaimSeven
namespace Go.Proofs.YtnomkcbcjaagmabGreatDoor
namespace Rows

/-- THE TIED CARD OF 'laws.FnArea'. -/
def fnAreaCard : Claim7 := { stood := { row := fnAreaRow, standIns := [], harness := (true, "eca4be9c54e9de4f8dd87c478670f6b0a9dab367f345e8d0d2950ce7b20a1688"), looks := true }, kinds := [], alts := [], laidByText := true, laidKinds := [.handle, .sentinel, .sentinel, .sentinel, .sentinel], laidTests := true, laidLooks := .later }
def FnAreaCardSaid : Prop := Claim7.holds Tryz.pinned (.plain (OpenSpec.ofChange fnAreaSpec)) fnAreaCard

/-- THE TIED CARD OF 'laws.FnAreaTorn'. -/
def fnAreaTornCard : Claim7 := { stood := { row := fnAreaTornRow, standIns := [], harness := (true, "eca4be9c54e9de4f8dd87c478670f6b0a9dab367f345e8d0d2950ce7b20a1688"), looks := true }, kinds := [], alts := [], laidByText := true, laidKinds := [.handle, .sentinel, .sentinel, .sentinel, .sentinel], laidTests := true, laidLooks := .later }
def FnAreaTornCardSaid : Prop := Claim7.holds Tryz.pinned (.plain (OpenSpec.ofChange fnAreaTornSpec)) fnAreaTornCard

/-- THE TIED CARD OF 'laws.FnShow'. -/
def fnShowCard : Claim7 := { stood := { row := fnShowRow, standIns := [], harness := (true, "eca4be9c54e9de4f8dd87c478670f6b0a9dab367f345e8d0d2950ce7b20a1688"), looks := true }, kinds := [], alts := [], laidByText := true, laidKinds := [.data, .data], laidTests := true, laidLooks := .later }
def FnShowCardSaid : Prop := Claim7.holds Tryz.pinned (.plain (OpenSpec.ofChange fnShowSpec)) fnShowCard

/-- THE SECOND FORM's CARD OF 'laws.FnArea'. -/
def fnAreaUptoCard : Claim7 := { stood := { row := fnAreaUptoRow, standIns := [], harness := (true, "eca4be9c54e9de4f8dd87c478670f6b0a9dab367f345e8d0d2950ce7b20a1688"), looks := true }, kinds := [], alts := [], laidByText := true, laidKinds := [.handle, .sentinel, .sentinel, .sentinel, .sentinel], laidTests := true, laidLooks := .later }
def FnAreaUptoCardSaid : Prop := Claim7.holds Tryz.pinned (.plain (OpenSpec.upto fnAreaSpec)) fnAreaUptoCard

/-- THE SECOND FORM's CARD OF 'laws.FnAreaTorn'. -/
def fnAreaTornUptoCard : Claim7 := { stood := { row := fnAreaTornUptoRow, standIns := [], harness := (true, "eca4be9c54e9de4f8dd87c478670f6b0a9dab367f345e8d0d2950ce7b20a1688"), looks := true }, kinds := [], alts := [], laidByText := true, laidKinds := [.handle, .sentinel, .sentinel, .sentinel, .sentinel], laidTests := true, laidLooks := .later }
def FnAreaTornUptoCardSaid : Prop := Claim7.holds Tryz.pinned (.plain (OpenSpec.upto fnAreaTornSpec)) fnAreaTornUptoCard

/-- THE SECOND FORM's CARD OF 'laws.FnShow'. -/
def fnShowUptoCard : Claim7 := { stood := { row := fnShowUptoRow, standIns := [], harness := (true, "eca4be9c54e9de4f8dd87c478670f6b0a9dab367f345e8d0d2950ce7b20a1688"), looks := true }, kinds := [], alts := [], laidByText := true, laidKinds := [.data, .data], laidTests := true, laidLooks := .later }
def FnShowUptoCardSaid : Prop := Claim7.holds Tryz.pinned (.plain (OpenSpec.upto fnShowSpec)) fnShowUptoCard
end Rows
end Go.Proofs.YtnomkcbcjaagmabGreatDoor
