/-
  DERIVED. GIVEN WITH THE SEED: THE CARDS: each row of YtjdgeiddbmmckaaDoorRows.lean that lists a variable, with what it lists TIED to the program's text (the seventh form; the later family's looks); each row that meets fmt, with fmt's text TOLD by the authors' own Lean function (tested against real Go, not proved from fmt's source: count such statements apart). THE CARD IS WHAT COUNTS. Prove the row's statement (the work); the ties are given (YtjdgeiddbmmckaaDoorTie.lean); close each card by the builder's one call (the guide's Derived/Test/ToyasCard.lean, 'card_holds'). Laid BY PROGRAM, IN A SANDBOX (cutbox-door.mjs). By AI agents, Wed Nov 11 2026. No macro, syntax, notation, axiom, sorry.
-/
import Derived.Test.YtjdgeiddbmmckaaDoorRows
import GoSem.ClaimSeven
namespace Go.Proofs.YtjdgeiddbmmckaaDoor
namespace Rows

/-- THE TIED CARD OF 'laws.FnNums'. -/
def fnNumsCard : Claim7 := { stood := { row := fnNumsRow, standIns := [], harness := (true, "a1e4bc5282a03c6f6f1261ffdd7434733c3b459adb1c52f7067133022af5ae9a"), looks := true }, kinds := [], alts := [], laidByText := true, laidKinds := [.handle], laidTests := true, laidLooks := .later }
def FnNumsCardSaid : Prop := Claim7.holds Tryd.pinned (.plain (OpenSpec.ofChange fnNumsSpec)) fnNumsCard

/-- THE TIED CARD OF 'laws.FnMac'. -/
def fnMacCard : Claim7 := { stood := { row := fnMacRow, standIns := [], harness := (true, "a1e4bc5282a03c6f6f1261ffdd7434733c3b459adb1c52f7067133022af5ae9a"), looks := true }, kinds := [], alts := [], laidByText := true, laidKinds := [.data, .data], laidTests := true, laidLooks := .later }
def FnMacCardSaid : Prop := Claim7.holds Tryd.pinned (.plain (OpenSpec.ofChange fnMacSpec)) fnMacCard

/-- THE SECOND FORM's CARD OF 'laws.FnNums'. -/
def fnNumsUptoCard : Claim7 := { stood := { row := fnNumsUptoRow, standIns := [], harness := (true, "a1e4bc5282a03c6f6f1261ffdd7434733c3b459adb1c52f7067133022af5ae9a"), looks := true }, kinds := [], alts := [], laidByText := true, laidKinds := [.handle], laidTests := true, laidLooks := .later }
def FnNumsUptoCardSaid : Prop := Claim7.holds Tryd.pinned (.plain (OpenSpec.upto fnNumsSpec)) fnNumsUptoCard

/-- THE SECOND FORM's CARD OF 'laws.FnMac'. -/
def fnMacUptoCard : Claim7 := { stood := { row := fnMacUptoRow, standIns := [], harness := (true, "a1e4bc5282a03c6f6f1261ffdd7434733c3b459adb1c52f7067133022af5ae9a"), looks := true }, kinds := [], alts := [], laidByText := true, laidKinds := [.data, .data], laidTests := true, laidLooks := .later }
def FnMacUptoCardSaid : Prop := Claim7.holds Tryd.pinned (.plain (OpenSpec.upto fnMacSpec)) fnMacUptoCard
end Rows
end Go.Proofs.YtjdgeiddbmmckaaDoor
