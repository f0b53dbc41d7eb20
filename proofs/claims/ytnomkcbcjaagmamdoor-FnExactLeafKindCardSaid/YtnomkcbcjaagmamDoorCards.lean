/-
  DERIVED. GIVEN WITH THE SEED: THE CARDS: each row of YtnomkcbcjaagmamDoorRows.lean that lists a variable, with what it lists TIED to the program's text (the seventh form; the later family's looks); each row that meets fmt, with fmt's text TOLD by the authors' own Lean function (tested against real Go, not proved from fmt's source: count such statements apart). THE CARD IS WHAT COUNTS. Prove the row's statement (the work); the ties are given (YtnomkcbcjaagmamDoorTie.lean); close each card by the builder's one call (the guide's Derived/Test/ToyasCard.lean, 'card_holds'). Laid BY PROGRAM, IN A SANDBOX (cutbox-door.mjs). By AI agents, Wed Nov 11 2026. No macro, syntax, notation, axiom, sorry.
-/
import Derived.Test.YtnomkcbcjaagmamDoorRows
import GoSem.ClaimSeven
namespace Go.Proofs.YtnomkcbcjaagmamDoor
namespace Rows

/-- THE TIED CARD OF 'laws.FnExactTombRead'. -/
def fnExactTombReadCard : Claim7 := { stood := { row := fnExactTombReadRow, standIns := [], harness := (true, "52e6c05d1b45ca2cf11c30fac83edd2f469bfc37814c48fdc5c33b324ec76345"), looks := true }, kinds := [], alts := [], laidByText := true, laidKinds := [.handle], laidTests := true, laidLooks := .later }
def FnExactTombReadCardSaid : Prop := Claim7.holds Tryd.pinned (.plain (OpenSpec.ofChange fnExactTombReadSpec)) fnExactTombReadCard

/-- THE TIED CARD OF 'laws.FnExactLeafKind'. -/
def fnExactLeafKindCard : Claim7 := { stood := { row := fnExactLeafKindRow, standIns := [], harness := (true, "52e6c05d1b45ca2cf11c30fac83edd2f469bfc37814c48fdc5c33b324ec76345"), looks := true }, kinds := [], alts := [], laidByText := true, laidKinds := [.handle], laidTests := true, laidLooks := .later }
def FnExactLeafKindCardSaid : Prop := Claim7.holds Tryd.pinned (.plain (OpenSpec.ofChange fnExactLeafKindSpec)) fnExactLeafKindCard

/-- THE SECOND FORM's CARD OF 'laws.FnExactTombRead'. -/
def fnExactTombReadUptoCard : Claim7 := { stood := { row := fnExactTombReadUptoRow, standIns := [], harness := (true, "52e6c05d1b45ca2cf11c30fac83edd2f469bfc37814c48fdc5c33b324ec76345"), looks := true }, kinds := [], alts := [], laidByText := true, laidKinds := [.handle], laidTests := true, laidLooks := .later }
def FnExactTombReadUptoCardSaid : Prop := Claim7.holds Tryd.pinned (.plain (OpenSpec.upto fnExactTombReadSpec)) fnExactTombReadUptoCard

/-- THE SECOND FORM's CARD OF 'laws.FnExactLeafKind'. -/
def fnExactLeafKindUptoCard : Claim7 := { stood := { row := fnExactLeafKindUptoRow, standIns := [], harness := (true, "52e6c05d1b45ca2cf11c30fac83edd2f469bfc37814c48fdc5c33b324ec76345"), looks := true }, kinds := [], alts := [], laidByText := true, laidKinds := [.handle], laidTests := true, laidLooks := .later }
def FnExactLeafKindUptoCardSaid : Prop := Claim7.holds Tryd.pinned (.plain (OpenSpec.upto fnExactLeafKindSpec)) fnExactLeafKindUptoCard
end Rows
end Go.Proofs.YtnomkcbcjaagmamDoor
