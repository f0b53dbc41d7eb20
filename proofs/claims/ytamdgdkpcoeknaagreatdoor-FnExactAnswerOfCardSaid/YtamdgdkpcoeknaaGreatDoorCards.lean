/-
  DERIVED. GIVEN WITH THE SEED: THE CARDS: each row of YtamdgdkpcoeknaaGreatDoorRows.lean that lists a variable, with what it lists TIED to the program's text (the seventh form; the later family's looks); each row that meets fmt, with fmt's text TOLD by the authors' own Lean function (tested against real Go, not proved from fmt's source: count such statements apart). THE CARD IS WHAT COUNTS. Prove the row's statement (the work); the ties are given (YtamdgdkpcoeknaaGreatDoorTie.lean); close each card by the builder's one call (the guide's Derived/Test/ToyasCard.lean, 'card_holds'). Laid BY PROGRAM, IN A SANDBOX (cutbox-door.mjs). By AI agents, Wed Nov 11 2026. No macro, syntax, notation, axiom, sorry.
-/
import Derived.Test.YtamdgdkpcoeknaaGreatDoorRows
import GoSem.ClaimSeven
namespace Go.Proofs.YtamdgdkpcoeknaaGreatDoor
namespace Rows

/-- THE TIED CARD OF 'laws.FnExactAnswerOf'. -/
def fnExactAnswerOfCard : Claim7 := { stood := { row := fnExactAnswerOfRow, standIns := [], harness := (true, "ecddc9d46e05382a5a4fd03677162871ef0d6a4d5b7c93266c95d4e895c07a65"), looks := true }, kinds := [], alts := [], laidByText := true, laidKinds := [.handle, .data, .data], laidTests := true, laidLooks := .later }
def FnExactAnswerOfCardSaid : Prop := Claim7.holds Tryz.pinned (.plain (OpenSpec.ofChange fnExactAnswerOfSpec)) fnExactAnswerOfCard

/-- THE TIED CARD OF 'laws.FnExactJudge'. -/
def fnExactJudgeCard : Claim7 := { stood := { row := fnExactJudgeRow, standIns := [], harness := (true, "ecddc9d46e05382a5a4fd03677162871ef0d6a4d5b7c93266c95d4e895c07a65"), looks := true }, kinds := [], alts := [], laidByText := true, laidKinds := [.handle, .data, .data], laidTests := true, laidLooks := .later }
def FnExactJudgeCardSaid : Prop := Claim7.holds Tryz.pinned (.plain (OpenSpec.ofChange fnExactJudgeSpec)) fnExactJudgeCard

/-- THE SECOND FORM's CARD OF 'laws.FnExactAnswerOf'. -/
def fnExactAnswerOfUptoCard : Claim7 := { stood := { row := fnExactAnswerOfUptoRow, standIns := [], harness := (true, "ecddc9d46e05382a5a4fd03677162871ef0d6a4d5b7c93266c95d4e895c07a65"), looks := true }, kinds := [], alts := [], laidByText := true, laidKinds := [.handle, .data, .data], laidTests := true, laidLooks := .later }
def FnExactAnswerOfUptoCardSaid : Prop := Claim7.holds Tryz.pinned (.plain (OpenSpec.upto fnExactAnswerOfSpec)) fnExactAnswerOfUptoCard

/-- THE SECOND FORM's CARD OF 'laws.FnExactJudge'. -/
def fnExactJudgeUptoCard : Claim7 := { stood := { row := fnExactJudgeUptoRow, standIns := [], harness := (true, "ecddc9d46e05382a5a4fd03677162871ef0d6a4d5b7c93266c95d4e895c07a65"), looks := true }, kinds := [], alts := [], laidByText := true, laidKinds := [.handle, .data, .data], laidTests := true, laidLooks := .later }
def FnExactJudgeUptoCardSaid : Prop := Claim7.holds Tryz.pinned (.plain (OpenSpec.upto fnExactJudgeSpec)) fnExactJudgeUptoCard
end Rows
end Go.Proofs.YtamdgdkpcoeknaaGreatDoor
