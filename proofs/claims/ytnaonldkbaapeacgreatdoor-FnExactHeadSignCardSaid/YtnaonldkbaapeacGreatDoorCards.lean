/-
  DERIVED. GIVEN WITH THE SEED: THE CARDS: each row of YtnaonldkbaapeacGreatDoorRows.lean that lists a variable, with what it lists TIED to the program's text (the seventh form; the later family's looks); each row that meets fmt, with fmt's text TOLD by the authors' own Lean function (tested against real Go, not proved from fmt's source: count such statements apart). THE CARD IS WHAT COUNTS. Prove the row's statement (the work); the ties are given (YtnaonldkbaapeacGreatDoorTie.lean); close each card by the builder's one call (the guide's Derived/Test/ToyasCard.lean, 'card_holds'). Laid BY PROGRAM, IN A SANDBOX (cutbox-door.mjs). By AI agents, Wed Nov 11 2026. No macro, syntax, notation, axiom, sorry.
-/
import Derived.Test.YtnaonldkbaapeacGreatDoorRows
import GoSem.ClaimSeven
namespace Go.Proofs.YtnaonldkbaapeacGreatDoor
namespace Rows

/-- THE TIED CARD OF 'laws.FnExactHeadSign'. -/
def fnExactHeadSignCard : Claim7 := { stood := { row := fnExactHeadSignRow, standIns := [], harness := (true, "a4591f6031f7b49669a33cf551eb2881e3b431f6b50868d2ea2308072df22e5b"), looks := true }, kinds := [], alts := [], laidByText := true, laidKinds := [.handle, .data, .data], laidTests := true, laidLooks := .later }
def FnExactHeadSignCardSaid : Prop := Claim7.holds Tryz.pinned (.plain (OpenSpec.ofChange fnExactHeadSignSpec)) fnExactHeadSignCard

/-- THE TIED CARD OF 'laws.FnExactProofAt'. -/
def fnExactProofAtCard : Claim7 := { stood := { row := fnExactProofAtRow, standIns := [], harness := (true, "a4591f6031f7b49669a33cf551eb2881e3b431f6b50868d2ea2308072df22e5b"), looks := true }, kinds := [], alts := [], laidByText := true, laidKinds := [.handle, .data, .data], laidTests := true, laidLooks := .later }
def FnExactProofAtCardSaid : Prop := Claim7.holds Tryz.pinned (.plain (OpenSpec.ofChange fnExactProofAtSpec)) fnExactProofAtCard

/-- THE TIED CARD OF 'laws.FnExactExtend'. -/
def fnExactExtendCard : Claim7 := { stood := { row := fnExactExtendRow, standIns := [], harness := (true, "a4591f6031f7b49669a33cf551eb2881e3b431f6b50868d2ea2308072df22e5b"), looks := true }, kinds := [], alts := [], laidByText := true, laidKinds := [.handle, .data, .data], laidTests := true, laidLooks := .later }
def FnExactExtendCardSaid : Prop := Claim7.holds Tryz.pinned (.plain (OpenSpec.ofChange fnExactExtendSpec)) fnExactExtendCard

/-- THE SECOND FORM's CARD OF 'laws.FnExactHeadSign'. -/
def fnExactHeadSignUptoCard : Claim7 := { stood := { row := fnExactHeadSignUptoRow, standIns := [], harness := (true, "a4591f6031f7b49669a33cf551eb2881e3b431f6b50868d2ea2308072df22e5b"), looks := true }, kinds := [], alts := [], laidByText := true, laidKinds := [.handle, .data, .data], laidTests := true, laidLooks := .later }
def FnExactHeadSignUptoCardSaid : Prop := Claim7.holds Tryz.pinned (.plain (OpenSpec.upto fnExactHeadSignSpec)) fnExactHeadSignUptoCard

/-- THE SECOND FORM's CARD OF 'laws.FnExactProofAt'. -/
def fnExactProofAtUptoCard : Claim7 := { stood := { row := fnExactProofAtUptoRow, standIns := [], harness := (true, "a4591f6031f7b49669a33cf551eb2881e3b431f6b50868d2ea2308072df22e5b"), looks := true }, kinds := [], alts := [], laidByText := true, laidKinds := [.handle, .data, .data], laidTests := true, laidLooks := .later }
def FnExactProofAtUptoCardSaid : Prop := Claim7.holds Tryz.pinned (.plain (OpenSpec.upto fnExactProofAtSpec)) fnExactProofAtUptoCard

/-- THE SECOND FORM's CARD OF 'laws.FnExactExtend'. -/
def fnExactExtendUptoCard : Claim7 := { stood := { row := fnExactExtendUptoRow, standIns := [], harness := (true, "a4591f6031f7b49669a33cf551eb2881e3b431f6b50868d2ea2308072df22e5b"), looks := true }, kinds := [], alts := [], laidByText := true, laidKinds := [.handle, .data, .data], laidTests := true, laidLooks := .later }
def FnExactExtendUptoCardSaid : Prop := Claim7.holds Tryz.pinned (.plain (OpenSpec.upto fnExactExtendSpec)) fnExactExtendUptoCard
end Rows
end Go.Proofs.YtnaonldkbaapeacGreatDoor
