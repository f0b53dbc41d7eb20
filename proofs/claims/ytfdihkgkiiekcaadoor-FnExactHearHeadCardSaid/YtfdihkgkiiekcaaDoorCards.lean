/-
  DERIVED. GIVEN WITH THE SEED: THE CARDS: each row of YtfdihkgkiiekcaaDoorRows.lean that lists a variable, with what it lists TIED to the program's text (the seventh form; the later family's looks); each row that meets fmt, with fmt's text TOLD by the authors' own Lean function (tested against real Go, not proved from fmt's source: count such statements apart). THE CARD IS WHAT COUNTS. Prove the row's statement (the work); the ties are given (YtfdihkgkiiekcaaDoorTie.lean); close each card by the builder's one call (the guide's Derived/Test/ToyasCard.lean, 'card_holds'). Laid BY PROGRAM, IN A SANDBOX (cutbox-door.mjs). By AI agents, Wed Nov 11 2026. No macro, syntax, notation, axiom, sorry.
-/
import Derived.Test.YtfdihkgkiiekcaaDoorRows
import GoSem.ClaimSeven
namespace Go.Proofs.YtfdihkgkiiekcaaDoor
namespace Rows

/-- THE TIED CARD OF 'laws.FnExactHearHead'. -/
def fnExactHearHeadCard : Claim7 := { stood := { row := fnExactHearHeadRow, standIns := [], harness := (true, "183a8cba052d75ba8f308f659765a9b3b4325fb3d84a6c4eafd6146a4d18c722"), looks := false }, kinds := [], alts := [], laidByText := true, laidKinds := [.data, .data], laidTests := true, laidLooks := .later }
def FnExactHearHeadCardSaid : Prop := Claim7.holds Tryd.pinned (.plain (OpenSpec.ofChange fnExactHearHeadSpec)) fnExactHearHeadCard

/-- THE TIED CARD OF 'laws.FnExactClash'. -/
def fnExactClashCard : Claim7 := { stood := { row := fnExactClashRow, standIns := [], harness := (true, "183a8cba052d75ba8f308f659765a9b3b4325fb3d84a6c4eafd6146a4d18c722"), looks := false }, kinds := [], alts := [], laidByText := true, laidKinds := [.data, .data], laidTests := true, laidLooks := .later }
def FnExactClashCardSaid : Prop := Claim7.holds Tryd.pinned (.plain (OpenSpec.ofChange fnExactClashSpec)) fnExactClashCard

/-- THE SECOND FORM's CARD OF 'laws.FnExactHearHead'. -/
def fnExactHearHeadUptoCard : Claim7 := { stood := { row := fnExactHearHeadUptoRow, standIns := [], harness := (true, "183a8cba052d75ba8f308f659765a9b3b4325fb3d84a6c4eafd6146a4d18c722"), looks := false }, kinds := [], alts := [], laidByText := true, laidKinds := [.data, .data], laidTests := true, laidLooks := .later }
def FnExactHearHeadUptoCardSaid : Prop := Claim7.holds Tryd.pinned (.plain (OpenSpec.upto fnExactHearHeadSpec)) fnExactHearHeadUptoCard

/-- THE SECOND FORM's CARD OF 'laws.FnExactClash'. -/
def fnExactClashUptoCard : Claim7 := { stood := { row := fnExactClashUptoRow, standIns := [], harness := (true, "183a8cba052d75ba8f308f659765a9b3b4325fb3d84a6c4eafd6146a4d18c722"), looks := false }, kinds := [], alts := [], laidByText := true, laidKinds := [.data, .data], laidTests := true, laidLooks := .later }
def FnExactClashUptoCardSaid : Prop := Claim7.holds Tryd.pinned (.plain (OpenSpec.upto fnExactClashSpec)) fnExactClashUptoCard
end Rows
end Go.Proofs.YtfdihkgkiiekcaaDoor
