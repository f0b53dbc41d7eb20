/-
  DERIVED. GIVEN WITH THE SEED: THE CARDS: each row of YtnppgldafhpchaaDoorRows.lean that lists a variable, with what it lists TIED to the program's text (the seventh form; the later family's looks); each row that meets fmt, with fmt's text TOLD by the authors' own Lean function (tested against real Go, not proved from fmt's source: count such statements apart). THE CARD IS WHAT COUNTS. Prove the row's statement (the work); the ties are given (YtnppgldafhpchaaDoorTie.lean); close each card by the builder's one call (the guide's Derived/Test/ToyasCard.lean, 'card_holds'). Laid BY PROGRAM, IN A SANDBOX (cutbox-door.mjs). By AI agents, Wed Nov 11 2026. No macro, syntax, notation, axiom, sorry.
-/
import Derived.Test.YtnppgldafhpchaaDoorRows
import GoSem.ClaimSeven
namespace Go.Proofs.YtnppgldafhpchaaDoor
namespace Rows

/-- THE TIED CARD OF 'laws.FnExactTraces'. -/
def fnExactTracesCard : Claim7 := { stood := { row := fnExactTracesRow, standIns := [], harness := (true, "c9888e4ae708818dd700aa7d225635f565e3577f2bf37363883638d38d20be74"), looks := false }, kinds := [], alts := [], laidByText := true, laidKinds := [.sentinel, .sentinel, .sentinel], laidTests := true, laidLooks := .later }
def FnExactTracesCardSaid : Prop := Claim7.holds Tryd.pinned (.plain (OpenSpec.ofChange fnExactTracesSpec)) fnExactTracesCard

/-- THE SECOND FORM's CARD OF 'laws.FnExactTraces'. -/
def fnExactTracesUptoCard : Claim7 := { stood := { row := fnExactTracesUptoRow, standIns := [], harness := (true, "c9888e4ae708818dd700aa7d225635f565e3577f2bf37363883638d38d20be74"), looks := false }, kinds := [], alts := [], laidByText := true, laidKinds := [.sentinel, .sentinel, .sentinel], laidTests := true, laidLooks := .later }
def FnExactTracesUptoCardSaid : Prop := Claim7.holds Tryd.pinned (.plain (OpenSpec.upto fnExactTracesSpec)) fnExactTracesUptoCard
end Rows
end Go.Proofs.YtnppgldafhpchaaDoor
