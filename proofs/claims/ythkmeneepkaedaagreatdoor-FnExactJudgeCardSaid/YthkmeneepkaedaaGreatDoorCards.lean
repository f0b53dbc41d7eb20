/-
  DERIVED. GIVEN WITH THE SEED: THE CARDS: each row of YthkmeneepkaedaaGreatDoorRows.lean that lists a variable, with what it lists TIED to the program's text (the seventh form; the later family's looks); each row that meets fmt, with fmt's text TOLD by the authors' own Lean function (tested against real Go, not proved from fmt's source: count such statements apart). THE CARD IS WHAT COUNTS. Prove the row's statement (the work); the ties are given (YthkmeneepkaedaaGreatDoorTie.lean); close each card by the builder's one call (the guide's Derived/Test/ToyasCard.lean, 'card_holds'). Laid BY PROGRAM, IN A SANDBOX (cutbox-door.mjs). By AI agents, Wed Nov 11 2026. No macro, syntax, notation, axiom, sorry.
-/
import Derived.Test.YthkmeneepkaedaaGreatDoorRows
import GoSem.ClaimSeven
namespace Go.Proofs.YthkmeneepkaedaaGreatDoor
namespace Rows

/-- THE TIED CARD OF 'laws.FnExactLogRight'. -/
def fnExactLogRightCard : Claim7 := { stood := { row := fnExactLogRightRow, standIns := [], harness := (true, "ed3b128de167e976fc6f699b0adb0913799403609457efe5c2427d34f7852856"), looks := true }, kinds := [], alts := [], laidByText := true, laidKinds := [.handle, .data, .data], laidTests := true, laidLooks := .later }
def FnExactLogRightCardSaid : Prop := Claim7.holds Tryz.pinned (.plain (OpenSpec.ofChange fnExactLogRightSpec)) fnExactLogRightCard

/-- THE TIED CARD OF 'laws.FnExactAnswerOf'. -/
def fnExactAnswerOfCard : Claim7 := { stood := { row := fnExactAnswerOfRow, standIns := [], harness := (true, "ed3b128de167e976fc6f699b0adb0913799403609457efe5c2427d34f7852856"), looks := true }, kinds := [], alts := [], laidByText := true, laidKinds := [.handle, .data, .data], laidTests := true, laidLooks := .later }
def FnExactAnswerOfCardSaid : Prop := Claim7.holds Tryz.pinned (.plain (OpenSpec.ofChange fnExactAnswerOfSpec)) fnExactAnswerOfCard

/-- THE TIED CARD OF 'laws.FnExactJudge'. -/
def fnExactJudgeCard : Claim7 := { stood := { row := fnExactJudgeRow, standIns := [], harness := (true, "ed3b128de167e976fc6f699b0adb0913799403609457efe5c2427d34f7852856"), looks := true }, kinds := [], alts := [], laidByText := true, laidKinds := [.handle, .data, .data], laidTests := true, laidLooks := .later }
def FnExactJudgeCardSaid : Prop := Claim7.holds Tryz.pinned (.plain (OpenSpec.ofChange fnExactJudgeSpec)) fnExactJudgeCard

/-- THE SECOND FORM's CARD OF 'laws.FnExactLogRight'. -/
def fnExactLogRightUptoCard : Claim7 := { stood := { row := fnExactLogRightUptoRow, standIns := [], harness := (true, "ed3b128de167e976fc6f699b0adb0913799403609457efe5c2427d34f7852856"), looks := true }, kinds := [], alts := [], laidByText := true, laidKinds := [.handle, .data, .data], laidTests := true, laidLooks := .later }
def FnExactLogRightUptoCardSaid : Prop := Claim7.holds Tryz.pinned (.plain (OpenSpec.upto fnExactLogRightSpec)) fnExactLogRightUptoCard

/-- THE SECOND FORM's CARD OF 'laws.FnExactAnswerOf'. -/
def fnExactAnswerOfUptoCard : Claim7 := { stood := { row := fnExactAnswerOfUptoRow, standIns := [], harness := (true, "ed3b128de167e976fc6f699b0adb0913799403609457efe5c2427d34f7852856"), looks := true }, kinds := [], alts := [], laidByText := true, laidKinds := [.handle, .data, .data], laidTests := true, laidLooks := .later }
def FnExactAnswerOfUptoCardSaid : Prop := Claim7.holds Tryz.pinned (.plain (OpenSpec.upto fnExactAnswerOfSpec)) fnExactAnswerOfUptoCard

/-- THE SECOND FORM's CARD OF 'laws.FnExactJudge'. -/
def fnExactJudgeUptoCard : Claim7 := { stood := { row := fnExactJudgeUptoRow, standIns := [], harness := (true, "ed3b128de167e976fc6f699b0adb0913799403609457efe5c2427d34f7852856"), looks := true }, kinds := [], alts := [], laidByText := true, laidKinds := [.handle, .data, .data], laidTests := true, laidLooks := .later }
def FnExactJudgeUptoCardSaid : Prop := Claim7.holds Tryz.pinned (.plain (OpenSpec.upto fnExactJudgeSpec)) fnExactJudgeUptoCard
end Rows
end Go.Proofs.YthkmeneepkaedaaGreatDoor
