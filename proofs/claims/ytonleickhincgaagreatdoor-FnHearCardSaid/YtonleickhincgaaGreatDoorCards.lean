/-
  DERIVED. GIVEN WITH THE SEED: THE CARDS: each row of YtonleickhincgaaGreatDoorRows.lean that lists a variable, with what it lists TIED to the program's text (the seventh form; the later family's looks); each row that meets fmt, with fmt's text TOLD by the authors' own Lean function (tested against real Go, not proved from fmt's source: count such statements apart). THE CARD IS WHAT COUNTS. Prove the row's statement (the work); the ties are given (YtonleickhincgaaGreatDoorTie.lean); close each card by the builder's one call (the guide's Derived/Test/ToyasCard.lean, 'card_holds'). Laid BY PROGRAM, IN A SANDBOX (cutbox-door.mjs). By AI agents, Wed Nov 11 2026. No macro, syntax, notation, axiom, sorry.
-/
import Derived.Test.YtonleickhincgaaGreatDoorRows
import GoSem.ClaimSeven
namespace Go.Proofs.YtonleickhincgaaGreatDoor
namespace Rows

/-- THE TIED CARD OF 'laws.FnHear'. -/
def fnHearCard : Claim7 := { stood := { row := fnHearRow, standIns := [], harness := (true, "c0abee084cf3a7c213e9da9265a82099fcbc668632adff65025095cfacbca438"), looks := true }, kinds := [], alts := [], laidByText := true, laidKinds := [.data, .data], laidTests := true, laidLooks := .later }
def FnHearCardSaid : Prop := Claim7.holds Tryz.pinned (.plain (OpenSpec.ofChange fnHearSpec)) fnHearCard

/-- THE TIED CARD OF 'laws.FnJudge'. -/
def fnJudgeCard : Claim7 := { stood := { row := fnJudgeRow, standIns := [], harness := (true, "c0abee084cf3a7c213e9da9265a82099fcbc668632adff65025095cfacbca438"), looks := true }, kinds := [], alts := [], laidByText := true, laidKinds := [.handle, .data, .data], laidTests := true, laidLooks := .later }
def FnJudgeCardSaid : Prop := Claim7.holds Tryz.pinned (.plain (OpenSpec.ofChange fnJudgeSpec)) fnJudgeCard

/-- THE SECOND FORM's CARD OF 'laws.FnHear'. -/
def fnHearUptoCard : Claim7 := { stood := { row := fnHearUptoRow, standIns := [], harness := (true, "c0abee084cf3a7c213e9da9265a82099fcbc668632adff65025095cfacbca438"), looks := true }, kinds := [], alts := [], laidByText := true, laidKinds := [.data, .data], laidTests := true, laidLooks := .later }
def FnHearUptoCardSaid : Prop := Claim7.holds Tryz.pinned (.plain (OpenSpec.upto fnHearSpec)) fnHearUptoCard

/-- THE SECOND FORM's CARD OF 'laws.FnJudge'. -/
def fnJudgeUptoCard : Claim7 := { stood := { row := fnJudgeUptoRow, standIns := [], harness := (true, "c0abee084cf3a7c213e9da9265a82099fcbc668632adff65025095cfacbca438"), looks := true }, kinds := [], alts := [], laidByText := true, laidKinds := [.handle, .data, .data], laidTests := true, laidLooks := .later }
def FnJudgeUptoCardSaid : Prop := Claim7.holds Tryz.pinned (.plain (OpenSpec.upto fnJudgeSpec)) fnJudgeUptoCard
end Rows
end Go.Proofs.YtonleickhincgaaGreatDoor
