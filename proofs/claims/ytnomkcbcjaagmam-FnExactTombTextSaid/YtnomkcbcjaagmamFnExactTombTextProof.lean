/-
  For every Tomb the law FnExactTombText returns true: the program's TombText answers as the specification's.
  Conditions: none of mine; the form's own reach.
-/
import Derived.Test.YtnomkcbcjaagmamRows
import Derived.Test.YtnomkcbcjaagmamFldTb
import Derived.Test.YtnomkcbcjaagmamImplTb
import Derived.Test.YtnomkcbcjaagmamOpT
import Derived.Test.YtnomkcbcjaagmamExTo
import Derived.Test.YtnomkcbcjaagmamBxK
import Derived.WalkKit
import Derived.ProofKit
import Derived.OpenShut
import Derived.ShutString
import Derived.ChangeOld
import Derived.Below
namespace Go.Proofs.Ytnomkcbcjaagmam.fnExactTombText
open Go.ChangeShapes Go.WideShapes Go.ChangeAt Go.RowKit
open Go.ChangeMaps (open_string shut_string)
set_option linter.unusedVariables false

theorem own : ownKnob Try.prog.godebug = none := by kernel_rfl
theorem laidOut : laidOutB Try.prog = true := by kernel_rfl

set_option maxHeartbeats 1000000 in
theorem walk (T : Tmb) (w : World) (w0 : True) :
    Calls Try.prog 3 #[tmV T] w fun e w' => e = .returned (.bool true) ∧ Below w.heap.size w w' := by
  have hS := fun x => specTombText_any T x
  have hI := fun x => implTombText_any T x
  generalize tmT T = R at *
  obtain ⟨r, f, y, a⟩ := T
  have HS : Hid (∀ x, Calls Try.prog 4 #[.agg #[.int .i64 r, .int .i64 f, .int .i64 y, .int .i64 a]] x fun e w' => e = .returned (.string R) ∧ Below x.heap.size x w') := hS
  have HI : Hid (∀ x, Calls Try.prog 6 #[.agg #[.int .i64 r, .int .i64 f, .int .i64 y, .int .i64 a]] x fun e w' => e = .returned (.string R) ∧ Below x.heap.size x w') := hI
  have HT : Hid (∀ x, Calls Try.prog 5 #[.agg #[.int .i64 r, .int .i64 f, .int .i64 y, .int .i64 a]] x fun e w' => e = .returned (.agg #[.int .i64 r, .int .i64 f, .int .i64 y, .int .i64 a]) ∧ Below x.heap.size x w') := fun x => toTomb_any r f y a x
  show Calls Try.prog 3 #[.agg #[.int .i64 r, .int .i64 f, .int .i64 y, .int .i64 a]] w _
  obtain ⟨W1, hW1⟩ : ∃ W1, W1 = w.alloc (.cells #[.int .i64 r, .int .i64 f, .int .i64 y, .int .i64 a] 23) := ⟨_, rfl⟩
  have B0 : Hid (Below w.heap.size w W1) := by rw [hW1]; exact (Below.refl _ _).alloc (Nat.le_refl _) _
  have X0 : Hid (Bxs W1 w.heap.size 23 #[.int .i64 r, .int .i64 f, .int .i64 y, .int .i64 a]) := by rw [hW1]; exact Bxs.new _ _ _
  have HWA : Hid (W1 = w.alloc (.cells #[.int .i64 r, .int .i64 f, .int .i64 y, .int .i64 a] 23)) := hW1
  clear hW1 hS hI w0
  go_enter Try.func3, Try.ntmps3
  go_wp2_with fail
  rw [← HWA.out]
  refine (HT.out W1).mono ?_
  rintro e w2 ⟨rfl, b2⟩
  go_wp2_with fail
  refine (HS.out w2).mono ?_
  rintro e w3 ⟨rfl, b3⟩
  have b3 := chainB b2 b3
  obtain ⟨x0, x1, x2, x3⟩ := (X0.out.below b3).four
  go_wp2_with fail
  refine (HT.out w3).mono ?_
  rintro e w4 ⟨rfl, b4⟩
  have b4 := chainB b3 b4
  clear x0 x1 x2 x3
  go_wp2_with fail
  refine (HI.out w4).mono ?_
  rintro e w5 ⟨rfl, b5⟩
  have b5 := chainB b4 b5
  go_wp2_with fail
  go_ret
  exact ⟨rfl, chainB B0.out b5⟩

set_option maxRecDepth 100000 in
theorem lifted (os : Os) (started : os.Started) (H : Type) (enc : TypeId × Value → H) :
    ReturnsInHanded {} Try.checked os 3 .any (Rows.fnExactTombTextSpec.pre6 enc Try.prog Try.f3 Rows.fnExactTombTextRow.domain false) (Rows.fnExactTombTextSpec.post enc Try.prog Try.f3 false true false false) := by
  refine returnsInHanded_of_change (C := Try.checked) own started (by kernel_rfl) Try.func3
    (ChangeSpec.witness6 (enc := enc) (C := Try.checked) false ⟨#[], #[.agg #[.int .i64 0, .int .i64 0, .int .i64 0, .int .i64 0]], []⟩ 8 (by kernel_rfl) (by kernel_rfl) (by kernel_rfl) (by kernel_rfl)) ?_
  intro W base args ds gs before hval0 hW hcnd _
  have hval : ∀ (j : Nat) t v, Try.f3.params[j]? = some t → args[j]? = some v → Value.okWide Try.prog W .any base t v := hval0
  have hW' := hW
  obtain ⟨p, q, hA0, hV, rfl, hfz, hnd⟩ := hW
  have hA : DataW.TrodAll enc Try.prog W 0 (fun _ => true) true Try.f3.params.toList args.toList ds p := hA0
  rw [Try.params3] at hA hval
  obtain ⟨v0, vs0, d0, ds0, p0, q0, hargs, rfl, rfl, h0, r0⟩ := trodAll_cons hA
  obtain ⟨rfl, rfl, rfl⟩ := trodAll_nil r0
  obtain rfl : args = #[v0] := by cases args; simp_all
  obtain ⟨rfl, rfl⟩ := trodVars_none hV
  have k0 := h0
  have lt0 : ∀ x ∈ p0, x.block < W.heap.size := by obtain ⟨m, hm⟩ := k0; exact DataW.trod_lt m _ _ _ hm
  obtain ⟨T0, rfl⟩ := open_tomb (hval 0 23 v0 rfl rfl) h0
  have w0 : True := trivial
  clear hA0 hval0
  simp only [List.append_nil] at hW'
  refine (walk T0 W w0).mono fun e W' ⟨he, hg⟩ => ?_
  subst he
  exact ⟨_, rfl, _, _, _, [], _, [], hW', (trodAll_cons_mk (shut_bool Try.underlying4 _) trodAll_mk0), (trodAll_cons_mk (Below.trod laidOut (by kernel_rfl) (of_decide_eq_true (by kernel_rfl)) k0 hg lt0) trodAll_mk0), rfl, hg.frame _, fun h => by cases h⟩

theorem over : Rows.fnExactTombTextRow.holds Try.pinned (OpenSpec.ofChange Rows.fnExactTombTextSpec) :=
  OpenClaim.holds_of_wide 3 Try.f3 rfl rfl rfl rfl rfl rfl rfl ⟨rfl, rfl, rfl, rfl, rfl⟩ rfl rfl rfl rfl rfl (by kernel_rfl) Try.func3 (by kernel_rfl)
    (of_decide_eq_true (by kernel_rfl)) (by unfold Func.isWrapper; first | (rw [if_pos (by decide +kernel)]; kernel_rfl) | (rw [if_neg (by decide +kernel)]; exact ⟨rfl, rfl⟩))
    (fun os started H enc _ => lifted os started H enc)

theorem proved : Rows.FnExactTombTextSaid :=
  over
#print axioms proved
end Go.Proofs.Ytnomkcbcjaagmam.fnExactTombText
