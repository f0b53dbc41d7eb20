/-
  DERIVED. GIVEN WITH THE SEED: THE CARDS: each row of YtclpccnppmbpcahDoorRows.lean that lists a variable, with what it lists TIED to the program's text (the seventh form; the later family's looks); each row that meets fmt, with fmt's text TOLD by the authors' own Lean function (tested against real Go, not proved from fmt's source: count such statements apart). THE CARD IS WHAT COUNTS. Prove the row's statement (the work); the ties are given (YtclpccnppmbpcahDoorTie.lean); close each card by the builder's one call (the guide's Derived/Test/ToyasCard.lean, 'card_holds'). Laid BY PROGRAM, IN A SANDBOX (cutbox-door.mjs). By AI agents, Wed Nov 11 2026. No macro, syntax, notation, axiom, sorry.
-/
import Derived.Test.YtclpccnppmbpcahDoorRows
import GoSem.ClaimSeven
namespace Go.Proofs.YtclpccnppmbpcahDoor
namespace Rows

/-- THE TIED CARD OF 'laws.FnExactIncluded'. -/
def fnExactIncludedCard : Claim7 := { stood := { row := fnExactIncludedRow, standIns := [], harness := (true, "23ba27c1349daa5a2d3e1b81e8fa0524b9ba0748638c71c9cafc1c22e4bae04f"), looks := false }, kinds := [], alts := [], laidByText := true, laidKinds := [.data, .data], laidTests := true, laidLooks := .later }
def FnExactIncludedCardSaid : Prop := Claim7.holds Tryd.pinned (.plain (OpenSpec.ofChange fnExactIncludedSpec)) fnExactIncludedCard

/-- THE TIED CARD OF 'laws.FnExactProofOf'. -/
def fnExactProofOfCard : Claim7 := { stood := { row := fnExactProofOfRow, standIns := [], harness := (true, "23ba27c1349daa5a2d3e1b81e8fa0524b9ba0748638c71c9cafc1c22e4bae04f"), looks := false }, kinds := [], alts := [], laidByText := true, laidKinds := [.data, .data], laidTests := true, laidLooks := .later }
def FnExactProofOfCardSaid : Prop := Claim7.holds Tryd.pinned (.plain (OpenSpec.ofChange fnExactProofOfSpec)) fnExactProofOfCard

/-- THE TIED CARD OF 'laws.FnExactConsistent'. -/
def fnExactConsistentCard : Claim7 := { stood := { row := fnExactConsistentRow, standIns := [], harness := (true, "23ba27c1349daa5a2d3e1b81e8fa0524b9ba0748638c71c9cafc1c22e4bae04f"), looks := false }, kinds := [], alts := [], laidByText := true, laidKinds := [.data, .data], laidTests := true, laidLooks := .later }
def FnExactConsistentCardSaid : Prop := Claim7.holds Tryd.pinned (.plain (OpenSpec.ofChange fnExactConsistentSpec)) fnExactConsistentCard

/-- THE TIED CARD OF 'laws.FnExactRangeAdd'. -/
def fnExactRangeAddCard : Claim7 := { stood := { row := fnExactRangeAddRow, standIns := [], harness := (true, "23ba27c1349daa5a2d3e1b81e8fa0524b9ba0748638c71c9cafc1c22e4bae04f"), looks := false }, kinds := [], alts := [], laidByText := true, laidKinds := [.data, .data], laidTests := true, laidLooks := .later }
def FnExactRangeAddCardSaid : Prop := Claim7.holds Tryd.pinned (.plain (OpenSpec.ofChange fnExactRangeAddSpec)) fnExactRangeAddCard

/-- THE TIED CARD OF 'laws.FnExactRangeRoot'. -/
def fnExactRangeRootCard : Claim7 := { stood := { row := fnExactRangeRootRow, standIns := [], harness := (true, "23ba27c1349daa5a2d3e1b81e8fa0524b9ba0748638c71c9cafc1c22e4bae04f"), looks := false }, kinds := [], alts := [], laidByText := true, laidKinds := [.data, .data], laidTests := true, laidLooks := .later }
def FnExactRangeRootCardSaid : Prop := Claim7.holds Tryd.pinned (.plain (OpenSpec.ofChange fnExactRangeRootSpec)) fnExactRangeRootCard

/-- THE SECOND FORM's CARD OF 'laws.FnExactIncluded'. -/
def fnExactIncludedUptoCard : Claim7 := { stood := { row := fnExactIncludedUptoRow, standIns := [], harness := (true, "23ba27c1349daa5a2d3e1b81e8fa0524b9ba0748638c71c9cafc1c22e4bae04f"), looks := false }, kinds := [], alts := [], laidByText := true, laidKinds := [.data, .data], laidTests := true, laidLooks := .later }
def FnExactIncludedUptoCardSaid : Prop := Claim7.holds Tryd.pinned (.plain (OpenSpec.upto fnExactIncludedSpec)) fnExactIncludedUptoCard

/-- THE SECOND FORM's CARD OF 'laws.FnExactProofOf'. -/
def fnExactProofOfUptoCard : Claim7 := { stood := { row := fnExactProofOfUptoRow, standIns := [], harness := (true, "23ba27c1349daa5a2d3e1b81e8fa0524b9ba0748638c71c9cafc1c22e4bae04f"), looks := false }, kinds := [], alts := [], laidByText := true, laidKinds := [.data, .data], laidTests := true, laidLooks := .later }
def FnExactProofOfUptoCardSaid : Prop := Claim7.holds Tryd.pinned (.plain (OpenSpec.upto fnExactProofOfSpec)) fnExactProofOfUptoCard

/-- THE SECOND FORM's CARD OF 'laws.FnExactConsistent'. -/
def fnExactConsistentUptoCard : Claim7 := { stood := { row := fnExactConsistentUptoRow, standIns := [], harness := (true, "23ba27c1349daa5a2d3e1b81e8fa0524b9ba0748638c71c9cafc1c22e4bae04f"), looks := false }, kinds := [], alts := [], laidByText := true, laidKinds := [.data, .data], laidTests := true, laidLooks := .later }
def FnExactConsistentUptoCardSaid : Prop := Claim7.holds Tryd.pinned (.plain (OpenSpec.upto fnExactConsistentSpec)) fnExactConsistentUptoCard

/-- THE SECOND FORM's CARD OF 'laws.FnExactRangeAdd'. -/
def fnExactRangeAddUptoCard : Claim7 := { stood := { row := fnExactRangeAddUptoRow, standIns := [], harness := (true, "23ba27c1349daa5a2d3e1b81e8fa0524b9ba0748638c71c9cafc1c22e4bae04f"), looks := false }, kinds := [], alts := [], laidByText := true, laidKinds := [.data, .data], laidTests := true, laidLooks := .later }
def FnExactRangeAddUptoCardSaid : Prop := Claim7.holds Tryd.pinned (.plain (OpenSpec.upto fnExactRangeAddSpec)) fnExactRangeAddUptoCard

/-- THE SECOND FORM's CARD OF 'laws.FnExactRangeRoot'. -/
def fnExactRangeRootUptoCard : Claim7 := { stood := { row := fnExactRangeRootUptoRow, standIns := [], harness := (true, "23ba27c1349daa5a2d3e1b81e8fa0524b9ba0748638c71c9cafc1c22e4bae04f"), looks := false }, kinds := [], alts := [], laidByText := true, laidKinds := [.data, .data], laidTests := true, laidLooks := .later }
def FnExactRangeRootUptoCardSaid : Prop := Claim7.holds Tryd.pinned (.plain (OpenSpec.upto fnExactRangeRootSpec)) fnExactRangeRootUptoCard
end Rows
end Go.Proofs.YtclpccnppmbpcahDoor
