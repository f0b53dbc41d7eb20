/-
  No cell of these rows narrows 'for every input' (looked for: loops, veiled, ifaces, maps, wideKeys, modest, calm, conditions, laid).
  DERIVED. THE GIVEN ROWS OF THIS SEAT. 6 by the template 'for every input the law returns true; each argument reads behind the call as it read before'; 0 by the template 'total and deterministic' (their statements: YteehhpmmnpajmaaTotals.lean).
  GIVEN WITH THE SEED: the statements are not yours to turn. If you find one false, say at which input.
  Laid BY PROGRAM, IN A SANDBOX (cutbox-rows.mjs): the forced cells as the released guide's own fill.sh prints them over the translation 1654b216419165bf… (all of the seat's roots in one cut). By AI agents, Wed Nov 11 2026. No macro, syntax, notation, axiom, sorry.
-/
import Derived.Test.YteehhpmmnpajmaaChecked
import GoSem.Claim
import GoSem.ClaimJoined
import GoSem.ClaimMapViews
import Derived.JoinedTies
import Derived.KernelRfl
namespace Go.Proofs.Yteehhpmmnpajmaa
/- THE CELL 'sum', in the pinned program and in every row, IS THE sha256 OF THE DUMP (.gsa) THAT YteehhpmmnpajmaaProg.lean LOADS. Nothing in Lean hashes anything: it is a label: what it is worth is what the hold of that sum in a sandbox is worth. -/
noncomputable def Try.pinned : Pinned := { name := "yteehhpmmnpajmaa", sum := "1654b216419165bfb9a82f0e9c6c76be5eabdbbe224d62492df0737126f745b2", checked := Try.checked }
namespace Rows
def none {H : Type} : Left H := { results := [], args := [] }

/-- 'laws.FnPolicy': WHATEVER THE INPUT: true; the input reads as it did. -/
def fnPolicySpec : ChangeSpec := { name := "fnPolicy", fn := fun _ => fun
  | [d1, d2] => { results := [.lit (.bool true)], args := [d1, d2] }
  | _ => none }
def fnPolicyRow : OpenClaim := { program := "yteehhpmmnpajmaa", sum := "1654b216419165bfb9a82f0e9c6c76be5eabdbbe224d62492df0737126f745b2", func := "loop.example/g00633/laws.FnPolicy", spec := "fnPolicy", inPlace := ["slices.overlaps[loop.example/g00633/impl.Rule]", "slices.overlaps[int64]"], unfollowed := true, recurses := true, apart := false }
def FnPolicySaid : Prop := fnPolicyRow.holds Try.pinned (OpenSpec.ofChange fnPolicySpec)

/-- ITS FALSE NEIGHBOUR: 'it returns false'. Refute it at one input. -/
def fnPolicyWrong : ChangeSpec := { name := "fnPolicy", fn := fun _ => fun
  | [d1, d2] => { results := [.lit (.bool false)], args := [d1, d2] }
  | _ => none }
def FnPolicyWrongFalsely : Prop := fnPolicyRow.holds Try.pinned (OpenSpec.ofChange fnPolicyWrong)

/-- 'laws.FnExactPolicyRight': WHATEVER THE INPUT: true; the input reads as it did. -/
def fnExactPolicyRightSpec : ChangeSpec := { name := "fnExactPolicyRight", fn := fun _ => fun
  | [d] => { results := [.lit (.bool true)], args := [d] }
  | _ => none }
def fnExactPolicyRightRow : OpenClaim := { program := "yteehhpmmnpajmaa", sum := "1654b216419165bfb9a82f0e9c6c76be5eabdbbe224d62492df0737126f745b2", func := "loop.example/g00633/laws.FnExactPolicyRight", spec := "fnExactPolicyRight", apart := false }
def FnExactPolicyRightSaid : Prop := fnExactPolicyRightRow.holds Try.pinned (OpenSpec.ofChange fnExactPolicyRightSpec)

/-- ITS FALSE NEIGHBOUR: 'it returns false'. Refute it at one input. -/
def fnExactPolicyRightWrong : ChangeSpec := { name := "fnExactPolicyRight", fn := fun _ => fun
  | [d] => { results := [.lit (.bool false)], args := [d] }
  | _ => none }
def FnExactPolicyRightWrongFalsely : Prop := fnExactPolicyRightRow.holds Try.pinned (OpenSpec.ofChange fnExactPolicyRightWrong)

/-- 'laws.FnExactRulePut': WHATEVER THE INPUT: true; the input reads as it did. -/
def fnExactRulePutSpec : ChangeSpec := { name := "fnExactRulePut", fn := fun _ => fun
  | [d1, d2] => { results := [.lit (.bool true)], args := [d1, d2] }
  | _ => none }
def fnExactRulePutRow : OpenClaim := { program := "yteehhpmmnpajmaa", sum := "1654b216419165bfb9a82f0e9c6c76be5eabdbbe224d62492df0737126f745b2", func := "loop.example/g00633/laws.FnExactRulePut", spec := "fnExactRulePut", inPlace := ["slices.overlaps[loop.example/g00633/impl.Rule]"], unfollowed := true, recurses := true, apart := false }
def FnExactRulePutSaid : Prop := fnExactRulePutRow.holds Try.pinned (OpenSpec.ofChange fnExactRulePutSpec)

/-- ITS FALSE NEIGHBOUR: 'it returns false'. Refute it at one input. -/
def fnExactRulePutWrong : ChangeSpec := { name := "fnExactRulePut", fn := fun _ => fun
  | [d1, d2] => { results := [.lit (.bool false)], args := [d1, d2] }
  | _ => none }
def FnExactRulePutWrongFalsely : Prop := fnExactRulePutRow.holds Try.pinned (OpenSpec.ofChange fnExactRulePutWrong)

/-- 'laws.FnExactRuleDrop': WHATEVER THE INPUT: true; the input reads as it did. -/
def fnExactRuleDropSpec : ChangeSpec := { name := "fnExactRuleDrop", fn := fun _ => fun
  | [d1, d2, d3] => { results := [.lit (.bool true)], args := [d1, d2, d3] }
  | _ => none }
def fnExactRuleDropRow : OpenClaim := { program := "yteehhpmmnpajmaa", sum := "1654b216419165bfb9a82f0e9c6c76be5eabdbbe224d62492df0737126f745b2", func := "loop.example/g00633/laws.FnExactRuleDrop", spec := "fnExactRuleDrop", unfollowed := true, recurses := true, apart := false }
def FnExactRuleDropSaid : Prop := fnExactRuleDropRow.holds Try.pinned (OpenSpec.ofChange fnExactRuleDropSpec)

/-- ITS FALSE NEIGHBOUR: 'it returns false'. Refute it at one input. -/
def fnExactRuleDropWrong : ChangeSpec := { name := "fnExactRuleDrop", fn := fun _ => fun
  | [d1, d2, d3] => { results := [.lit (.bool false)], args := [d1, d2, d3] }
  | _ => none }
def FnExactRuleDropWrongFalsely : Prop := fnExactRuleDropRow.holds Try.pinned (OpenSpec.ofChange fnExactRuleDropWrong)

/-- 'laws.FnExactHold': WHATEVER THE INPUT: true; the input reads as it did. -/
def fnExactHoldSpec : ChangeSpec := { name := "fnExactHold", fn := fun _ => fun
  | [d1, d2] => { results := [.lit (.bool true)], args := [d1, d2] }
  | _ => none }
def fnExactHoldRow : OpenClaim := { program := "yteehhpmmnpajmaa", sum := "1654b216419165bfb9a82f0e9c6c76be5eabdbbe224d62492df0737126f745b2", func := "loop.example/g00633/laws.FnExactHold", spec := "fnExactHold", inPlace := ["slices.overlaps[int64]"], apart := false }
def FnExactHoldSaid : Prop := fnExactHoldRow.holds Try.pinned (OpenSpec.ofChange fnExactHoldSpec)

/-- ITS FALSE NEIGHBOUR: 'it returns false'. Refute it at one input. -/
def fnExactHoldWrong : ChangeSpec := { name := "fnExactHold", fn := fun _ => fun
  | [d1, d2] => { results := [.lit (.bool false)], args := [d1, d2] }
  | _ => none }
def FnExactHoldWrongFalsely : Prop := fnExactHoldRow.holds Try.pinned (OpenSpec.ofChange fnExactHoldWrong)

/-- 'laws.FnExactFree': WHATEVER THE INPUT: true; the input reads as it did. -/
def fnExactFreeSpec : ChangeSpec := { name := "fnExactFree", fn := fun _ => fun
  | [d1, d2] => { results := [.lit (.bool true)], args := [d1, d2] }
  | _ => none }
def fnExactFreeRow : OpenClaim := { program := "yteehhpmmnpajmaa", sum := "1654b216419165bfb9a82f0e9c6c76be5eabdbbe224d62492df0737126f745b2", func := "loop.example/g00633/laws.FnExactFree", spec := "fnExactFree", apart := false }
def FnExactFreeSaid : Prop := fnExactFreeRow.holds Try.pinned (OpenSpec.ofChange fnExactFreeSpec)

/-- ITS FALSE NEIGHBOUR: 'it returns false'. Refute it at one input. -/
def fnExactFreeWrong : ChangeSpec := { name := "fnExactFree", fn := fun _ => fun
  | [d1, d2] => { results := [.lit (.bool false)], args := [d1, d2] }
  | _ => none }
def FnExactFreeWrongFalsely : Prop := fnExactFreeRow.holds Try.pinned (OpenSpec.ofChange fnExactFreeWrong)

/- THE SECOND FORM. 'bulk': how many values and letters a reading holds, each counted each time it is reached (what is shared counts as often as it is met; a slice's spare places count too). A statement '..UptoSaid' is the law's where the arguments, and the package variables that the reading takes, are together of bulk at most 1048576: NARROWER than '..Said'. Prove '..Said' where nothing that the law and all that it calls make is longer than what came in: it says more and counts as full. Else prove '..UptoSaid'. A law counts once. -/
mutual
def uptoBulk {H : Type} : DataW H → Nat
  | .lit (.string bytes) => bytes.length + 1
  | .lit _ => 1
  | .nil => 1
  | .ptr d => uptoBulk d + 1
  | .slice elems spare => uptoBulkAll elems + uptoBulkAll spare + 1
  | .agg parts => uptoBulkAll parts + 1
  | .iface _ d => uptoBulk d + 1
  | .map entries => uptoBulkEntries entries + 1
  | .held _ => 1
def uptoBulkAll {H : Type} : List (DataW H) → Nat
  | [] => 0
  | d :: r => uptoBulk d + uptoBulkAll r
def uptoBulkEntries {H : Type} : List (Lit × DataW H) → Nat
  | [] => 0
  | x :: r => uptoBulkEntry x + uptoBulkEntries r
def uptoBulkEntry {H : Type} : Lit × DataW H → Nat
  | (.string bytes, d) => bytes.length + uptoBulk d + 1
  | (_, d) => uptoBulk d + 1
 end
def uptoSmall : (H : Type) → List (DataW H) → Bool := fun _ ds => decide (uptoBulkAll ds ≤ 1048576)
def OpenSpec.upto (s : _root_.Go.ChangeSpec) : _root_.Go.OpenSpec := { _root_.Go.OpenSpec.ofChange s with cond := some uptoSmall }

/-- 'laws.FnPolicy', WHERE WHAT IT READS IS OF BULK AT MOST 1048576: true; the input reads as it did. -/
def fnPolicyUptoRow : OpenClaim := { program := "yteehhpmmnpajmaa", sum := "1654b216419165bfb9a82f0e9c6c76be5eabdbbe224d62492df0737126f745b2", func := "loop.example/g00633/laws.FnPolicy", spec := "fnPolicy", inPlace := ["slices.overlaps[loop.example/g00633/impl.Rule]", "slices.overlaps[int64]"], unfollowed := true, recurses := true, apart := false, narrowed := true }
def FnPolicyUptoSaid : Prop := fnPolicyUptoRow.holds Try.pinned (OpenSpec.upto fnPolicySpec)

/-- 'laws.FnExactPolicyRight', WHERE WHAT IT READS IS OF BULK AT MOST 1048576: true; the input reads as it did. -/
def fnExactPolicyRightUptoRow : OpenClaim := { program := "yteehhpmmnpajmaa", sum := "1654b216419165bfb9a82f0e9c6c76be5eabdbbe224d62492df0737126f745b2", func := "loop.example/g00633/laws.FnExactPolicyRight", spec := "fnExactPolicyRight", apart := false, narrowed := true }
def FnExactPolicyRightUptoSaid : Prop := fnExactPolicyRightUptoRow.holds Try.pinned (OpenSpec.upto fnExactPolicyRightSpec)

/-- 'laws.FnExactRulePut', WHERE WHAT IT READS IS OF BULK AT MOST 1048576: true; the input reads as it did. -/
def fnExactRulePutUptoRow : OpenClaim := { program := "yteehhpmmnpajmaa", sum := "1654b216419165bfb9a82f0e9c6c76be5eabdbbe224d62492df0737126f745b2", func := "loop.example/g00633/laws.FnExactRulePut", spec := "fnExactRulePut", inPlace := ["slices.overlaps[loop.example/g00633/impl.Rule]"], unfollowed := true, recurses := true, apart := false, narrowed := true }
def FnExactRulePutUptoSaid : Prop := fnExactRulePutUptoRow.holds Try.pinned (OpenSpec.upto fnExactRulePutSpec)

/-- 'laws.FnExactRuleDrop', WHERE WHAT IT READS IS OF BULK AT MOST 1048576: true; the input reads as it did. -/
def fnExactRuleDropUptoRow : OpenClaim := { program := "yteehhpmmnpajmaa", sum := "1654b216419165bfb9a82f0e9c6c76be5eabdbbe224d62492df0737126f745b2", func := "loop.example/g00633/laws.FnExactRuleDrop", spec := "fnExactRuleDrop", unfollowed := true, recurses := true, apart := false, narrowed := true }
def FnExactRuleDropUptoSaid : Prop := fnExactRuleDropUptoRow.holds Try.pinned (OpenSpec.upto fnExactRuleDropSpec)

/-- 'laws.FnExactHold', WHERE WHAT IT READS IS OF BULK AT MOST 1048576: true; the input reads as it did. -/
def fnExactHoldUptoRow : OpenClaim := { program := "yteehhpmmnpajmaa", sum := "1654b216419165bfb9a82f0e9c6c76be5eabdbbe224d62492df0737126f745b2", func := "loop.example/g00633/laws.FnExactHold", spec := "fnExactHold", inPlace := ["slices.overlaps[int64]"], apart := false, narrowed := true }
def FnExactHoldUptoSaid : Prop := fnExactHoldUptoRow.holds Try.pinned (OpenSpec.upto fnExactHoldSpec)

/-- 'laws.FnExactFree', WHERE WHAT IT READS IS OF BULK AT MOST 1048576: true; the input reads as it did. -/
def fnExactFreeUptoRow : OpenClaim := { program := "yteehhpmmnpajmaa", sum := "1654b216419165bfb9a82f0e9c6c76be5eabdbbe224d62492df0737126f745b2", func := "loop.example/g00633/laws.FnExactFree", spec := "fnExactFree", apart := false, narrowed := true }
def FnExactFreeUptoSaid : Prop := fnExactFreeUptoRow.holds Try.pinned (OpenSpec.upto fnExactFreeSpec)

end Rows
end Go.Proofs.Yteehhpmmnpajmaa
