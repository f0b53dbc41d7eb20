/-
  DERIVED. GIVEN WITH THE SEED: THE CARDS: each row of YtnaonldkbaapeacDoorRows.lean that lists a variable, with what it lists TIED to the program's text (the seventh form; the later family's looks); each row that meets fmt, with fmt's text TOLD by the authors' own Lean function (tested against real Go, not proved from fmt's source: count such statements apart). THE CARD IS WHAT COUNTS. Prove the row's statement (the work); the ties are given (YtnaonldkbaapeacDoorTie.lean); close each card by the builder's one call (the guide's Derived/Test/ToyasCard.lean, 'card_holds'). Laid BY PROGRAM, IN A SANDBOX (cutbox-door.mjs). By AI agents, Wed Nov 11 2026. No macro, syntax, notation, axiom, sorry.
-/
import Derived.Test.YtnaonldkbaapeacDoorRows
import GoSem.ClaimSeven
namespace Go.Proofs.YtnaonldkbaapeacDoor
namespace Rows

/-- THE TIED CARD OF 'laws.FnExactProofGood'. -/
def fnExactProofGoodCard : Claim7 := { stood := { row := fnExactProofGoodRow, standIns := [], harness := (true, "993fac7fa0fdea0e72ed8576034ae3145d06da52f3953fc15067fffb2e0d7a3a"), looks := false }, kinds := [], alts := [], laidByText := true, laidKinds := [.data, .data], laidTests := true, laidLooks := .later }
def FnExactProofGoodCardSaid : Prop := Claim7.holds Tryd.pinned (.plain (OpenSpec.ofChange fnExactProofGoodSpec)) fnExactProofGoodCard

/-- THE SECOND FORM's CARD OF 'laws.FnExactProofGood'. -/
def fnExactProofGoodUptoCard : Claim7 := { stood := { row := fnExactProofGoodUptoRow, standIns := [], harness := (true, "993fac7fa0fdea0e72ed8576034ae3145d06da52f3953fc15067fffb2e0d7a3a"), looks := false }, kinds := [], alts := [], laidByText := true, laidKinds := [.data, .data], laidTests := true, laidLooks := .later }
def FnExactProofGoodUptoCardSaid : Prop := Claim7.holds Tryd.pinned (.plain (OpenSpec.upto fnExactProofGoodSpec)) fnExactProofGoodUptoCard
end Rows
end Go.Proofs.YtnaonldkbaapeacDoor
