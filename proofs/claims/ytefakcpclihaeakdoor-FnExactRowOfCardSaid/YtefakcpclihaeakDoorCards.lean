/-
  DERIVED. GIVEN WITH THE SEED: THE CARDS: each row of YtefakcpclihaeakDoorRows.lean that lists a variable, with what it lists TIED to the program's text (the seventh form; the later family's looks); each row that meets fmt, with fmt's text TOLD by the authors' own Lean function (tested against real Go, not proved from fmt's source: count such statements apart). THE CARD IS WHAT COUNTS. Prove the row's statement (the work); the ties are given (YtefakcpclihaeakDoorTie.lean); close each card by the builder's one call (the guide's Derived/Test/ToyasCard.lean, 'card_holds'). Laid BY PROGRAM, IN A SANDBOX (cutbox-door.mjs). By AI agents, Wed Nov 11 2026. No macro, syntax, notation, axiom, sorry.
-/
import Derived.Test.YtefakcpclihaeakDoorRows
import GoSem.ClaimSeven
namespace Go.Proofs.YtefakcpclihaeakDoor
namespace Rows

/-- THE TIED CARD OF 'laws.FnExactCommitOf'. -/
def fnExactCommitOfCard : Claim7 := { stood := { row := fnExactCommitOfRow, standIns := [], harness := (true, "ef67e6601530dd18117bf576d975932a7f00eac7de36db6537725de3b898fe3b"), looks := false }, kinds := [], alts := [], laidByText := true, laidKinds := [.data, .data], laidTests := true, laidLooks := .later }
def FnExactCommitOfCardSaid : Prop := Claim7.holds Tryd.pinned (.plain (OpenSpec.ofChange fnExactCommitOfSpec)) fnExactCommitOfCard

/-- THE TIED CARD OF 'laws.FnExactFieldRight'. -/
def fnExactFieldRightCard : Claim7 := { stood := { row := fnExactFieldRightRow, standIns := [], harness := (true, "ef67e6601530dd18117bf576d975932a7f00eac7de36db6537725de3b898fe3b"), looks := false }, kinds := [], alts := [], laidByText := true, laidKinds := [.data, .data], laidTests := true, laidLooks := .later }
def FnExactFieldRightCardSaid : Prop := Claim7.holds Tryd.pinned (.plain (OpenSpec.ofChange fnExactFieldRightSpec)) fnExactFieldRightCard

/-- THE TIED CARD OF 'laws.FnExactRowRight'. -/
def fnExactRowRightCard : Claim7 := { stood := { row := fnExactRowRightRow, standIns := [], harness := (true, "ef67e6601530dd18117bf576d975932a7f00eac7de36db6537725de3b898fe3b"), looks := false }, kinds := [], alts := [], laidByText := true, laidKinds := [.data, .data], laidTests := true, laidLooks := .later }
def FnExactRowRightCardSaid : Prop := Claim7.holds Tryd.pinned (.plain (OpenSpec.ofChange fnExactRowRightSpec)) fnExactRowRightCard

/-- THE TIED CARD OF 'laws.FnExactRowOf'. -/
def fnExactRowOfCard : Claim7 := { stood := { row := fnExactRowOfRow, standIns := [], harness := (true, "ef67e6601530dd18117bf576d975932a7f00eac7de36db6537725de3b898fe3b"), looks := false }, kinds := [], alts := [], laidByText := true, laidKinds := [.data, .data], laidTests := true, laidLooks := .later }
def FnExactRowOfCardSaid : Prop := Claim7.holds Tryd.pinned (.plain (OpenSpec.ofChange fnExactRowOfSpec)) fnExactRowOfCard

/-- THE TIED CARD OF 'laws.FnExactRowLeaf'. -/
def fnExactRowLeafCard : Claim7 := { stood := { row := fnExactRowLeafRow, standIns := [], harness := (true, "ef67e6601530dd18117bf576d975932a7f00eac7de36db6537725de3b898fe3b"), looks := false }, kinds := [], alts := [], laidByText := true, laidKinds := [.data, .data], laidTests := true, laidLooks := .later }
def FnExactRowLeafCardSaid : Prop := Claim7.holds Tryd.pinned (.plain (OpenSpec.ofChange fnExactRowLeafSpec)) fnExactRowLeafCard

/-- THE SECOND FORM's CARD OF 'laws.FnExactCommitOf'. -/
def fnExactCommitOfUptoCard : Claim7 := { stood := { row := fnExactCommitOfUptoRow, standIns := [], harness := (true, "ef67e6601530dd18117bf576d975932a7f00eac7de36db6537725de3b898fe3b"), looks := false }, kinds := [], alts := [], laidByText := true, laidKinds := [.data, .data], laidTests := true, laidLooks := .later }
def FnExactCommitOfUptoCardSaid : Prop := Claim7.holds Tryd.pinned (.plain (OpenSpec.upto fnExactCommitOfSpec)) fnExactCommitOfUptoCard

/-- THE SECOND FORM's CARD OF 'laws.FnExactFieldRight'. -/
def fnExactFieldRightUptoCard : Claim7 := { stood := { row := fnExactFieldRightUptoRow, standIns := [], harness := (true, "ef67e6601530dd18117bf576d975932a7f00eac7de36db6537725de3b898fe3b"), looks := false }, kinds := [], alts := [], laidByText := true, laidKinds := [.data, .data], laidTests := true, laidLooks := .later }
def FnExactFieldRightUptoCardSaid : Prop := Claim7.holds Tryd.pinned (.plain (OpenSpec.upto fnExactFieldRightSpec)) fnExactFieldRightUptoCard

/-- THE SECOND FORM's CARD OF 'laws.FnExactRowRight'. -/
def fnExactRowRightUptoCard : Claim7 := { stood := { row := fnExactRowRightUptoRow, standIns := [], harness := (true, "ef67e6601530dd18117bf576d975932a7f00eac7de36db6537725de3b898fe3b"), looks := false }, kinds := [], alts := [], laidByText := true, laidKinds := [.data, .data], laidTests := true, laidLooks := .later }
def FnExactRowRightUptoCardSaid : Prop := Claim7.holds Tryd.pinned (.plain (OpenSpec.upto fnExactRowRightSpec)) fnExactRowRightUptoCard

/-- THE SECOND FORM's CARD OF 'laws.FnExactRowOf'. -/
def fnExactRowOfUptoCard : Claim7 := { stood := { row := fnExactRowOfUptoRow, standIns := [], harness := (true, "ef67e6601530dd18117bf576d975932a7f00eac7de36db6537725de3b898fe3b"), looks := false }, kinds := [], alts := [], laidByText := true, laidKinds := [.data, .data], laidTests := true, laidLooks := .later }
def FnExactRowOfUptoCardSaid : Prop := Claim7.holds Tryd.pinned (.plain (OpenSpec.upto fnExactRowOfSpec)) fnExactRowOfUptoCard

/-- THE SECOND FORM's CARD OF 'laws.FnExactRowLeaf'. -/
def fnExactRowLeafUptoCard : Claim7 := { stood := { row := fnExactRowLeafUptoRow, standIns := [], harness := (true, "ef67e6601530dd18117bf576d975932a7f00eac7de36db6537725de3b898fe3b"), looks := false }, kinds := [], alts := [], laidByText := true, laidKinds := [.data, .data], laidTests := true, laidLooks := .later }
def FnExactRowLeafUptoCardSaid : Prop := Claim7.holds Tryd.pinned (.plain (OpenSpec.upto fnExactRowLeafSpec)) fnExactRowLeafUptoCard
end Rows
end Go.Proofs.YtefakcpclihaeakDoor
