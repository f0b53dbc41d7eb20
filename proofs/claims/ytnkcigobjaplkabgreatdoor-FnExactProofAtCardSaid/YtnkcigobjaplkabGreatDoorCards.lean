/-
  DERIVED. GIVEN WITH THE SEED: THE CARDS: each row of YtnkcigobjaplkabGreatDoorRows.lean that lists a variable, with what it lists TIED to the program's text (the seventh form; the later family's looks); each row that meets fmt, with fmt's text TOLD by the authors' own Lean function (tested against real Go, not proved from fmt's source: count such statements apart). THE CARD IS WHAT COUNTS. Prove the row's statement (the work); the ties are given (YtnkcigobjaplkabGreatDoorTie.lean); close each card by the builder's one call (the guide's Derived/Test/ToyasCard.lean, 'card_holds'). Laid BY PROGRAM, IN A SANDBOX (cutbox-door.mjs). By AI agents, Wed Nov 11 2026. No macro, syntax, notation, axiom, sorry.
-/
import Derived.Test.YtnkcigobjaplkabGreatDoorRows
import GoSem.ClaimSeven
namespace Go.Proofs.YtnkcigobjaplkabGreatDoor
namespace Rows

/-- THE TIED CARD OF 'laws.FnExactLogAdd'. -/
def fnExactLogAddCard : Claim7 := { stood := { row := fnExactLogAddRow, standIns := [], harness := (true, "47f87d3c71b9a0fb58d04141c80c639394f56de30ab9a660b1a6afda3aaa6560"), looks := true }, kinds := [], alts := [], laidByText := true, laidKinds := [.handle, .data, .data], laidTests := true, laidLooks := .later }
def FnExactLogAddCardSaid : Prop := Claim7.holds Tryz.pinned (.plain (OpenSpec.ofChange fnExactLogAddSpec)) fnExactLogAddCard

/-- THE TIED CARD OF 'laws.FnExactLogForget'. -/
def fnExactLogForgetCard : Claim7 := { stood := { row := fnExactLogForgetRow, standIns := [], harness := (true, "47f87d3c71b9a0fb58d04141c80c639394f56de30ab9a660b1a6afda3aaa6560"), looks := true }, kinds := [], alts := [], laidByText := true, laidKinds := [.handle, .data, .data], laidTests := true, laidLooks := .later }
def FnExactLogForgetCardSaid : Prop := Claim7.holds Tryz.pinned (.plain (OpenSpec.ofChange fnExactLogForgetSpec)) fnExactLogForgetCard

/-- THE TIED CARD OF 'laws.FnExactLogTime'. -/
def fnExactLogTimeCard : Claim7 := { stood := { row := fnExactLogTimeRow, standIns := [], harness := (true, "47f87d3c71b9a0fb58d04141c80c639394f56de30ab9a660b1a6afda3aaa6560"), looks := true }, kinds := [], alts := [], laidByText := true, laidKinds := [.handle, .data, .data], laidTests := true, laidLooks := .later }
def FnExactLogTimeCardSaid : Prop := Claim7.holds Tryz.pinned (.plain (OpenSpec.ofChange fnExactLogTimeSpec)) fnExactLogTimeCard

/-- THE TIED CARD OF 'laws.FnExactProofAt'. -/
def fnExactProofAtCard : Claim7 := { stood := { row := fnExactProofAtRow, standIns := [], harness := (true, "47f87d3c71b9a0fb58d04141c80c639394f56de30ab9a660b1a6afda3aaa6560"), looks := true }, kinds := [], alts := [], laidByText := true, laidKinds := [.handle, .data, .data], laidTests := true, laidLooks := .later }
def FnExactProofAtCardSaid : Prop := Claim7.holds Tryz.pinned (.plain (OpenSpec.ofChange fnExactProofAtSpec)) fnExactProofAtCard

/-- THE SECOND FORM's CARD OF 'laws.FnExactLogAdd'. -/
def fnExactLogAddUptoCard : Claim7 := { stood := { row := fnExactLogAddUptoRow, standIns := [], harness := (true, "47f87d3c71b9a0fb58d04141c80c639394f56de30ab9a660b1a6afda3aaa6560"), looks := true }, kinds := [], alts := [], laidByText := true, laidKinds := [.handle, .data, .data], laidTests := true, laidLooks := .later }
def FnExactLogAddUptoCardSaid : Prop := Claim7.holds Tryz.pinned (.plain (OpenSpec.upto fnExactLogAddSpec)) fnExactLogAddUptoCard

/-- THE SECOND FORM's CARD OF 'laws.FnExactLogForget'. -/
def fnExactLogForgetUptoCard : Claim7 := { stood := { row := fnExactLogForgetUptoRow, standIns := [], harness := (true, "47f87d3c71b9a0fb58d04141c80c639394f56de30ab9a660b1a6afda3aaa6560"), looks := true }, kinds := [], alts := [], laidByText := true, laidKinds := [.handle, .data, .data], laidTests := true, laidLooks := .later }
def FnExactLogForgetUptoCardSaid : Prop := Claim7.holds Tryz.pinned (.plain (OpenSpec.upto fnExactLogForgetSpec)) fnExactLogForgetUptoCard

/-- THE SECOND FORM's CARD OF 'laws.FnExactLogTime'. -/
def fnExactLogTimeUptoCard : Claim7 := { stood := { row := fnExactLogTimeUptoRow, standIns := [], harness := (true, "47f87d3c71b9a0fb58d04141c80c639394f56de30ab9a660b1a6afda3aaa6560"), looks := true }, kinds := [], alts := [], laidByText := true, laidKinds := [.handle, .data, .data], laidTests := true, laidLooks := .later }
def FnExactLogTimeUptoCardSaid : Prop := Claim7.holds Tryz.pinned (.plain (OpenSpec.upto fnExactLogTimeSpec)) fnExactLogTimeUptoCard

/-- THE SECOND FORM's CARD OF 'laws.FnExactProofAt'. -/
def fnExactProofAtUptoCard : Claim7 := { stood := { row := fnExactProofAtUptoRow, standIns := [], harness := (true, "47f87d3c71b9a0fb58d04141c80c639394f56de30ab9a660b1a6afda3aaa6560"), looks := true }, kinds := [], alts := [], laidByText := true, laidKinds := [.handle, .data, .data], laidTests := true, laidLooks := .later }
def FnExactProofAtUptoCardSaid : Prop := Claim7.holds Tryz.pinned (.plain (OpenSpec.upto fnExactProofAtSpec)) fnExactProofAtUptoCard
end Rows
end Go.Proofs.YtnkcigobjaplkabGreatDoor
