/-
  DERIVED. GIVEN WITH THE SEED: THE CARDS: each row of YtnomkcbcjaagmabDoorRows.lean that lists a variable, with what it lists TIED to the program's text (the seventh form; the later family's looks); each row that meets fmt, with fmt's text TOLD by the authors' own Lean function (tested against real Go, not proved from fmt's source: count such statements apart). THE CARD IS WHAT COUNTS. Prove the row's statement (the work); the ties are given (YtnomkcbcjaagmabDoorTie.lean); close each card by the builder's one call (the guide's Derived/Test/ToyasCard.lean, 'card_holds'). Laid BY PROGRAM, IN A SANDBOX (cutbox-door.mjs). By AI agents, Wed Nov 11 2026. No macro, syntax, notation, axiom, sorry.
-/
import Derived.Test.YtnomkcbcjaagmabDoorRows
import GoSem.ClaimSeven
namespace Go.Proofs.YtnomkcbcjaagmabDoor
namespace Rows

/-- THE TIED CARD OF 'laws.FnRow'. -/
def fnRowCard : Claim7 := { stood := { row := fnRowRow, standIns := [], harness := (true, "7306ff5a606e1b0baf17ae3787566fa1920434b54cf4ea926004589caea9a92c"), looks := true }, kinds := [], alts := [], laidByText := true, laidKinds := [.data, .data], laidTests := true, laidLooks := .later }
def FnRowCardSaid : Prop := Claim7.holds Tryd.pinned (.plain (OpenSpec.ofChange fnRowSpec)) fnRowCard

/-- THE TIED CARD OF 'laws.FnTomb'. -/
def fnTombCard : Claim7 := { stood := { row := fnTombRow, standIns := [], harness := (true, "7306ff5a606e1b0baf17ae3787566fa1920434b54cf4ea926004589caea9a92c"), looks := true }, kinds := [], alts := [], laidByText := true, laidKinds := [.handle], laidTests := true, laidLooks := .later }
def FnTombCardSaid : Prop := Claim7.holds Tryd.pinned (.plain (OpenSpec.ofChange fnTombSpec)) fnTombCard

/-- THE SECOND FORM's CARD OF 'laws.FnRow'. -/
def fnRowUptoCard : Claim7 := { stood := { row := fnRowUptoRow, standIns := [], harness := (true, "7306ff5a606e1b0baf17ae3787566fa1920434b54cf4ea926004589caea9a92c"), looks := true }, kinds := [], alts := [], laidByText := true, laidKinds := [.data, .data], laidTests := true, laidLooks := .later }
def FnRowUptoCardSaid : Prop := Claim7.holds Tryd.pinned (.plain (OpenSpec.upto fnRowSpec)) fnRowUptoCard

/-- THE SECOND FORM's CARD OF 'laws.FnTomb'. -/
def fnTombUptoCard : Claim7 := { stood := { row := fnTombUptoRow, standIns := [], harness := (true, "7306ff5a606e1b0baf17ae3787566fa1920434b54cf4ea926004589caea9a92c"), looks := true }, kinds := [], alts := [], laidByText := true, laidKinds := [.handle], laidTests := true, laidLooks := .later }
def FnTombUptoCardSaid : Prop := Claim7.holds Tryd.pinned (.plain (OpenSpec.upto fnTombSpec)) fnTombUptoCard
end Rows
end Go.Proofs.YtnomkcbcjaagmabDoor
