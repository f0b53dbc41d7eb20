/-
  NARROWER THAN 'FOR EVERY INPUT', by the rows' own cells (each row's printed sentence says how): FnExactTraces: ifaces, laid.
  DERIVED. THE GIVEN ROWS OF THIS SEAT. 1 by the template 'for every input the law returns true; each argument reads behind the call as it read before'; 0 by the template 'total and deterministic' (their statements: YtnppgldafhpchaaDoorTotals.lean).
  GIVEN WITH THE SEED: the statements are not yours to turn. If you find one false, say at which input.
  Laid BY PROGRAM, IN A SANDBOX (cutbox-rows.mjs): the forced cells as the released guide's own fill.sh prints them over the translation 43818e643f8afaa8… (all of the seat's roots in one cut). By AI agents, Wed Nov 11 2026. No macro, syntax, notation, axiom, sorry.
-/
import Derived.Test.YtnppgldafhpchaaDoorChecked
import GoSem.Claim
import GoSem.ClaimJoined
import GoSem.ClaimMapViews
import Derived.JoinedTies
import Derived.KernelRfl
namespace Go.Proofs.YtnppgldafhpchaaDoor
/- THE CELL 'sum', in the pinned program and in every row, IS THE sha256 OF THE DUMP (.gsa) THAT YtnppgldafhpchaaDoorProg.lean LOADS. Nothing in Lean hashes anything: it is a label: what it is worth is what the hold of that sum in a sandbox is worth. -/
noncomputable def Tryd.pinned : Pinned := { name := "ytnppgldafhpchaadoor", sum := "43818e643f8afaa8e01a4a69b1aea6050965369aaeec45e8186f4f8bf66e59f1", checked := Tryd.checked }
namespace Rows
def none {H : Type} : Left H := { results := [], args := [] }

/- WHAT THE LISTED PACKAGE-LEVEL VARIABLES READ AS WHEN THE CALL BEGINS. Each datum BY PROGRAM (the guide's laid-datum.mjs) off the statement by which the dump's own 'gosem.cut.vars' lays the variable. In a bare row this is a premise. The card (YtnppgldafhpchaaDoorCards.lean) ties it to the program's text. -/
def laid_loop_example_g00633_impl_errDiskForm {H : Type} : DataW H := .iface "*errors.errorString" (.ptr (.agg [.lit (.string [116, 104, 101, 32, 100, 105, 115, 107, 32, 105, 115, 32, 110, 111, 116, 32, 114, 105, 103, 104, 116])]))
def laid_loop_example_g00633_impl_errNoHead {H : Type} : DataW H := .iface "*errors.errorString" (.ptr (.agg [.lit (.string [110, 111, 32, 104, 101, 97, 100, 32, 116, 104, 97, 116, 32, 102, 105, 116, 115, 32, 116, 104, 101, 32, 100, 105, 115, 107])]))
def laid_loop_example_g00633_impl_errLacking {H : Type} : DataW H := .iface "*errors.errorString" (.ptr (.agg [.lit (.string [97, 32, 115, 101, 99, 116, 111, 114, 32, 111, 102, 32, 116, 104, 101, 32, 115, 105, 100, 101, 32, 104, 97, 115, 32, 102, 101, 119, 101, 114, 32, 98, 121, 116, 101, 115, 32, 116, 104, 97, 110, 32, 115, 116, 97, 110, 100, 32, 116, 104, 101, 114, 101, 32, 111, 102, 32, 116, 104, 101, 32, 116, 101, 120, 116])]))

/-- 'laws.FnExactTraces': WHATEVER THE INPUT: true; the input reads as it did. -/
def fnExactTracesSpec : ChangeSpec := { name := "fnExactTraces", vars := ["loop.example/g00633/impl.errDiskForm", "loop.example/g00633/impl.errNoHead", "loop.example/g00633/impl.errLacking"], fn := fun _ => fun
  | [d, g1, g2, g3] => { results := [.lit (.bool true)], args := [d], vars := [g1, g2, g3] }
  | _ => none }
def fnExactTracesRow : OpenClaim := { program := "ytnppgldafhpchaadoor", sum := "43818e643f8afaa8e01a4a69b1aea6050965369aaeec45e8186f4f8bf66e59f1", func := "loop.example/g00633/laws.FnExactTraces", spec := "fnExactTraces", unfollowed := true, recurses := true, named := ["loop.example/g00633/impl.errDiskForm", "loop.example/g00633/impl.errNoHead", "loop.example/g00633/impl.errLacking"], ifaces := true, apart := false, laid := [("loop.example/g00633/impl.errDiskForm", laid_loop_example_g00633_impl_errDiskForm), ("loop.example/g00633/impl.errNoHead", laid_loop_example_g00633_impl_errNoHead), ("loop.example/g00633/impl.errLacking", laid_loop_example_g00633_impl_errLacking)] }
def FnExactTracesSaid : Prop := fnExactTracesRow.holds Tryd.pinned (OpenSpec.ofChange fnExactTracesSpec)

/-- ITS FALSE NEIGHBOUR: 'it returns false'. Refute it at one input. -/
def fnExactTracesWrong : ChangeSpec := { name := "fnExactTraces", vars := ["loop.example/g00633/impl.errDiskForm", "loop.example/g00633/impl.errNoHead", "loop.example/g00633/impl.errLacking"], fn := fun _ => fun
  | [d, g1, g2, g3] => { results := [.lit (.bool false)], args := [d], vars := [g1, g2, g3] }
  | _ => none }
def FnExactTracesWrongFalsely : Prop := fnExactTracesRow.holds Tryd.pinned (OpenSpec.ofChange fnExactTracesWrong)

/- THE SECOND FORM. 'bulk': how many values and letters a reading holds, each counted each time it is reached (what is shared counts as often as it is met; a slice's spare places count too). A statement '..UptoSaid' is the law's where the arguments, and the package variables that the reading takes, are together of bulk at most 1048576: NARROWER than '..Said'. Prove '..Said' where nothing that the law and all that it calls make is longer than what came in: it says more and counts as full. Else prove '..UptoSaid'. A law counts once. -/
mutual
def uptoBulk {H : Type} : DataW H → Nat
  | .lit (.string bytes) => bytes.length + 1
  | .lit _ => 1
  | .nil => 1
  | .ptr d => uptoBulk d + 1
  | .slice elems spare => uptoBulkAll elems + uptoBulkAll spare + 1
  | .agg parts => uptoBulkAll parts + 1
  | .iface _ d => uptoBulk d + 1
  | .map entries => uptoBulkEntries entries + 1
  | .held _ => 1
def uptoBulkAll {H : Type} : List (DataW H) → Nat
  | [] => 0
  | d :: r => uptoBulk d + uptoBulkAll r
def uptoBulkEntries {H : Type} : List (Lit × DataW H) → Nat
  | [] => 0
  | x :: r => uptoBulkEntry x + uptoBulkEntries r
def uptoBulkEntry {H : Type} : Lit × DataW H → Nat
  | (.string bytes, d) => bytes.length + uptoBulk d + 1
  | (_, d) => uptoBulk d + 1
 end
def uptoSmall : (H : Type) → List (DataW H) → Bool := fun _ ds => decide (uptoBulkAll ds ≤ 1048576)
def OpenSpec.upto (s : _root_.Go.ChangeSpec) : _root_.Go.OpenSpec := { _root_.Go.OpenSpec.ofChange s with cond := some uptoSmall }

/-- 'laws.FnExactTraces', WHERE WHAT IT READS IS OF BULK AT MOST 1048576: true; the input reads as it did. -/
def fnExactTracesUptoRow : OpenClaim := { program := "ytnppgldafhpchaadoor", sum := "43818e643f8afaa8e01a4a69b1aea6050965369aaeec45e8186f4f8bf66e59f1", func := "loop.example/g00633/laws.FnExactTraces", spec := "fnExactTraces", unfollowed := true, recurses := true, named := ["loop.example/g00633/impl.errDiskForm", "loop.example/g00633/impl.errNoHead", "loop.example/g00633/impl.errLacking"], ifaces := true, apart := false, laid := [("loop.example/g00633/impl.errDiskForm", laid_loop_example_g00633_impl_errDiskForm), ("loop.example/g00633/impl.errNoHead", laid_loop_example_g00633_impl_errNoHead), ("loop.example/g00633/impl.errLacking", laid_loop_example_g00633_impl_errLacking)], narrowed := true }
def FnExactTracesUptoSaid : Prop := fnExactTracesUptoRow.holds Tryd.pinned (OpenSpec.upto fnExactTracesSpec)

end Rows
end Go.Proofs.YtnppgldafhpchaaDoor
