/-
  For every text the law FnExactHeadRead returns true: the program's HeadRead answers as the specification's, every field.
  Conditions: none of mine; the form's own reach.
-/
import Derived.Test.YtfdihkgkiiekcaaRows
import Derived.Test.YtfdihkgkiiekcaaBxK
import Derived.Test.YtfdihkgkiiekcaaAudMath
import Derived.Test.YtfdihkgkiiekcaaHdMath
import Derived.Test.YtfdihkgkiiekcaaHdS
import Derived.Test.YtfdihkgkiiekcaaHdI
import Derived.Test.YtfdihkgkiiekcaaLawAu
import Derived.WalkKit
import Derived.ProofKit
import Derived.OpenShut
import Derived.ShutString
import Derived.ChangeOld
import Derived.Below
namespace Go.Proofs.Ytfdihkgkiiekcaa.fnExactHeadRead
open Go.ChangeShapes Go.WideShapes Go.ChangeAt Go.RowKit
open Go.ChangeMaps (open_string shut_string)
set_option linter.unusedVariables false

theorem own : ownKnob Try.prog.godebug = none := by kernel_rfl
theorem laidOut : laidOutB Try.prog = true := by kernel_rfl

set_option maxHeartbeats 1000000 in
theorem walk (t : ByteArray) (w : World) (w0 : t.size ≤ maxLen) :
    Calls Try.prog 4 #[.string t] w fun e w' => e = .returned (.bool true) ∧ Below w.heap.size w w' := by
  have HS : Hid (∀ x, Calls Try.prog 9 #[.string t] x fun e w' => e = .returned (.agg #[.string ByteArray.empty, .int .i64 (heaS t), .string (heaR t), .int .i64 (heaC t)]) ∧ Below x.heap.size x w') := fun x => specHead_any t x w0
  have HI : Hid (∀ x, Calls Try.prog 10 #[.string t] x fun e w' => e = .returned (.agg #[.string ByteArray.empty, .int .i64 (heaS t), .string (heaR t), .int .i64 (heaC t)]) ∧ Below x.heap.size x w') := fun x => implHead_any t x w0
  have HQ : Hid (∀ x, Calls Try.prog 11 #[.agg #[.string ByteArray.empty, .int .i64 (heaS t), .string (heaR t), .int .i64 (heaC t)], .agg #[.string ByteArray.empty, .int .i64 (heaS t), .string (heaR t), .int .i64 (heaC t)]] x fun e w' => e = .returned (.bool true) ∧ Below x.heap.size x w') := fun x => eqAudO_same _ _ _ _ x
  generalize heaS t = S at *
  generalize heaR t = R at *
  generalize heaC t = C at *
  unfold maxLen at w0
  by_cases hl : 1048576 < t.size
  case pos =>
    have d1 : decide (1048576 < (t.size : Int)) = true := decide_eq_true (by omega)
    go_enter Try.func4, Try.ntmps4
    go_wp2_with fail
    go_ret
    exact ⟨rfl, Below.refl _ _⟩
  have d1 : decide (1048576 < (t.size : Int)) = false := decide_eq_false (by omega)
  go_enter Try.func4, Try.ntmps4
  go_wp2_with fail
  with_reducible refine (HS.out w).mono ?_
  rintro e y ⟨rfl, b1⟩
  have B1 : Hid (Below w.heap.size w (y.alloc (.cells #[.string ByteArray.empty, .int .i64 S, .string R, .int .i64 C] 30))) := alB b1 _
  have X1 : Hid (Bxs (y.alloc (.cells #[.string ByteArray.empty, .int .i64 S, .string R, .int .i64 C] 30)) y.heap.size 30 #[.string ByteArray.empty, .int .i64 S, .string R, .int .i64 C]) := Bxs.new _ _ _
  clear b1
  go_upto_region 4 with fail
  generalize y.heap.size = E at *
  generalize y.alloc (.cells #[.string ByteArray.empty, .int .i64 S, .string R, .int .i64 C] 30) = y1 at *
  go_wp2_with fail
  with_reducible refine (HI.out y1).mono ?_
  rintro e z ⟨rfl, b2⟩
  have B2 : Hid (Below w.heap.size w (z.alloc (.cells #[.string ByteArray.empty, .int .i64 S, .string R, .int .i64 C] 30))) := alB (chainB B1.out b2) _
  have X2 : Hid (Bxs (z.alloc (.cells #[.string ByteArray.empty, .int .i64 S, .string R, .int .i64 C] 30)) z.heap.size 30 #[.string ByteArray.empty, .int .i64 S, .string R, .int .i64 C]) := Bxs.new _ _ _
  have X3 : Hid (Bxs (z.alloc (.cells #[.string ByteArray.empty, .int .i64 S, .string R, .int .i64 C] 30)) E 30 #[.string ByteArray.empty, .int .i64 S, .string R, .int .i64 C]) := (X1.out.below b2).alloc _
  clear b2
  go_upto_region 5 with fail
  generalize z.heap.size = E2 at *
  generalize z.alloc (.cells #[.string ByteArray.empty, .int .i64 S, .string R, .int .i64 C] 30) = z1 at *
  obtain ⟨x0, x1, x2, x3⟩ := X2.out.four
  obtain ⟨u0, u1, u2, u3⟩ := X3.out.four
  have hQ := HQ.out z1
  go_wp2_with fail
  with_reducible refine hQ.mono ?_
  rintro e z2 ⟨rfl, b3⟩
  go_wp2_with fail
  go_ret
  exact ⟨rfl, chainB B2.out b3⟩

set_option maxRecDepth 100000 in
theorem lifted (os : Os) (started : os.Started) (H : Type) (enc : TypeId × Value → H) :
    ReturnsInHanded {} Try.checked os 4 .any (Rows.fnExactHeadReadSpec.pre6 enc Try.prog Try.f4 Rows.fnExactHeadReadRow.domain false) (Rows.fnExactHeadReadSpec.post enc Try.prog Try.f4 false true false false) := by
  refine returnsInHanded_of_change (C := Try.checked) own started (by kernel_rfl) Try.func4
    (ChangeSpec.witness6 (enc := enc) (C := Try.checked) false ⟨#[], #[.string ByteArray.empty], []⟩ 8 (by kernel_rfl) (by kernel_rfl) (by kernel_rfl) (by kernel_rfl)) ?_
  intro W base args ds gs before hval0 hW hcnd _
  have hval : ∀ (j : Nat) t v, Try.f4.params[j]? = some t → args[j]? = some v → Value.okWide Try.prog W .any base t v := hval0
  have hW' := hW
  obtain ⟨p, q, hA0, hV, rfl, hfz, hnd⟩ := hW
  have hA : DataW.TrodAll enc Try.prog W 0 (fun _ => true) true Try.f4.params.toList args.toList ds p := hA0
  rw [Try.params4] at hA hval
  obtain ⟨v0, vs0, d0, ds0, p0, q0, hargs, rfl, rfl, h0, r0⟩ := trodAll_cons hA
  obtain ⟨rfl, rfl, rfl⟩ := trodAll_nil r0
  obtain rfl : args = #[v0] := by cases args; simp_all
  obtain ⟨rfl, rfl⟩ := trodVars_none hV
  obtain ⟨a0, rfl, rfl, rfl, w0⟩ := open_string Try.underlying9 (hval 0 9 v0 rfl rfl) h0
  clear hA0 hval0
  simp only [List.append_nil] at hW'
  refine (walk a0 W w0).mono fun e W' ⟨he, hg⟩ => ?_
  subst he
  exact ⟨_, rfl, _, _, _, [], _, [], hW', (trodAll_cons_mk (shut_bool Try.underlying4 _) trodAll_mk0), (trodAll_cons_mk (shut_string Try.underlying9 w0) trodAll_mk0), rfl, hg.frame _, fun h => by cases h⟩

theorem over : Rows.fnExactHeadReadRow.holds Try.pinned (OpenSpec.ofChange Rows.fnExactHeadReadSpec) :=
  OpenClaim.holds_of_wide 4 Try.f4 rfl rfl rfl rfl rfl rfl rfl ⟨rfl, rfl, rfl, rfl, rfl⟩ rfl rfl rfl rfl rfl (by kernel_rfl) Try.func4 (by kernel_rfl)
    (of_decide_eq_true (by kernel_rfl)) (by unfold Func.isWrapper; first | (rw [if_pos (by decide +kernel)]; kernel_rfl) | (rw [if_neg (by decide +kernel)]; exact ⟨rfl, rfl⟩))
    (fun os started H enc _ => lifted os started H enc)

theorem proved : Rows.FnExactHeadReadSaid :=
  over
#print axioms proved
end Go.Proofs.Ytfdihkgkiiekcaa.fnExactHeadRead
