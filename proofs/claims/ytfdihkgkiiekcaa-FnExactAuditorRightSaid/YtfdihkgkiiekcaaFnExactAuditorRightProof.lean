/-
  For every Auditor the law FnExactAuditorRight returns true: the program's AuditorRight answers as the specification's.
  Conditions: none of mine; the form's own reach.
-/
import Derived.Test.YtfdihkgkiiekcaaRows
import Derived.Test.YtfdihkgkiiekcaaBxK
import Derived.Test.YtfdihkgkiiekcaaAudMath
import Derived.Test.YtfdihkgkiiekcaaAudS
import Derived.Test.YtfdihkgkiiekcaaAudI
import Derived.Test.YtfdihkgkiiekcaaLawAu
import Derived.Test.YtfdihkgkiiekcaaOpAu
import Derived.WalkKit
import Derived.ProofKit
import Derived.OpenShut
import Derived.ShutString
import Derived.ChangeOld
import Derived.Below
namespace Go.Proofs.Ytfdihkgkiiekcaa.fnExactAuditorRight
open Go.ChangeShapes Go.WideShapes Go.ChangeAt Go.RowKit
open Go.ChangeMaps (open_string shut_string)
set_option linter.unusedVariables false

theorem own : ownKnob Try.prog.godebug = none := by kernel_rfl
theorem laidOut : laidOutB Try.prog = true := by kernel_rfl

set_option maxHeartbeats 1000000 in
theorem walk (k : ByteArray) (s : Int) (r : ByteArray) (w : World) (w0 : k.size ≤ maxLen ∧ r.size ≤ maxLen) :
    Calls Try.prog 3 #[.agg #[.string k, .int .i64 s, .string r]] w fun e w' => e = .returned (.bool true) ∧ Below w.heap.size w w' := by
  have HS : Hid (∀ x, Calls Try.prog 6 #[.agg #[.string k, .int .i64 s, .string r]] x fun e w' => e = .returned (.bool (audB k s r)) ∧ Below x.heap.size x w') := fun x => specAud_any k s r x
  have HI : Hid (∀ x, Calls Try.prog 8 #[.agg #[.string k, .int .i64 s, .string r]] x fun e w' => e = .returned (.bool (audB k s r)) ∧ Below x.heap.size x w') := fun x => implAud_any k s r x
  have HT : Hid (∀ x, Calls Try.prog 7 #[.agg #[.string k, .int .i64 s, .string r]] x fun e w' => e = .returned (.agg #[.string k, .int .i64 s, .string r]) ∧ Below x.heap.size x w') := fun x => toAud_any k s r x
  obtain ⟨W1, hW1⟩ : ∃ W1, W1 = w.alloc (.cells #[.string k, .int .i64 s, .string r] 23) := ⟨_, rfl⟩
  have B0 : Hid (Below w.heap.size w W1) := by rw [hW1]; exact (Below.refl _ _).alloc (Nat.le_refl _) _
  have X0 : Hid (Bxs W1 w.heap.size 23 #[.string k, .int .i64 s, .string r]) := by rw [hW1]; exact Bxs.new _ _ _
  have HX : Hid (∀ x, Below W1.heap.size W1 x → x.cell? ⟨w.heap.size, 0, none⟩ = some (.string k) ∧ x.cell? ⟨w.heap.size, 1, none⟩ = some (.int .i64 s) ∧ x.cell? ⟨w.heap.size, 2, none⟩ = some (.string r)) := fun x hb => ⟨(X0.out.below hb).cell 0, (X0.out.below hb).cell 1, (X0.out.below hb).cell 2⟩
  have HWA : Hid (W1 = w.alloc (.cells #[.string k, .int .i64 s, .string r] 23)) := hW1
  have hZ := szAud_any k s r 1048576 (by omega) (by omega) W1 w0.1 w0.2
  generalize audB k s r = R at *
  clear hW1 w0
  go_enter Try.func3, Try.ntmps3
  go_wp2_with fail
  rw [← HWA.out]
  with_reducible refine hZ.mono ?_
  rintro e w2 ⟨⟨m, rfl, hm⟩, b2⟩
  rcases hm with rfl | ⟨m0, m1, _, _⟩
  · go_wp2_with fail
    go_ret
    exact ⟨rfl, chainB B0.out b2⟩
  have d1 : decide (m < 0) = false := decide_eq_false (by omega)
  obtain ⟨x0, x1, x2⟩ := HX.out w2 b2
  go_wp2_with fail
  with_reducible refine (HT.out w2).mono ?_
  rintro e w3 ⟨rfl, b3⟩
  have b3 := chainB b2 b3
  go_wp2_with fail
  with_reducible refine (HS.out w3).mono ?_
  rintro e w4 ⟨rfl, b4⟩
  have b4 := chainB b3 b4
  clear x0 x1 x2
  obtain ⟨x0, x1, x2⟩ := HX.out w4 b4
  go_wp2_with fail
  with_reducible refine (HT.out w4).mono ?_
  rintro e w5 ⟨rfl, b5⟩
  have b5 := chainB b4 b5
  go_wp2_with fail
  with_reducible refine (HI.out w5).mono ?_
  rintro e w6 ⟨rfl, b6⟩
  have b6 := chainB b5 b6
  go_wp2_with fail
  go_ret
  exact ⟨rfl, chainB B0.out b6⟩

set_option maxRecDepth 100000 in
theorem lifted (os : Os) (started : os.Started) (H : Type) (enc : TypeId × Value → H) :
    ReturnsInHanded {} Try.checked os 3 .any (Rows.fnExactAuditorRightSpec.pre6 enc Try.prog Try.f3 Rows.fnExactAuditorRightRow.domain false) (Rows.fnExactAuditorRightSpec.post enc Try.prog Try.f3 false true false false) := by
  refine returnsInHanded_of_change (C := Try.checked) own started (by kernel_rfl) Try.func3
    (ChangeSpec.witness6 (enc := enc) (C := Try.checked) false ⟨#[], #[.agg #[.string ByteArray.empty, .int .i64 0, .string ByteArray.empty]], []⟩ 8 (by kernel_rfl) (by kernel_rfl) (by kernel_rfl) (by kernel_rfl)) ?_
  intro W base args ds gs before hval0 hW hcnd _
  have hval : ∀ (j : Nat) t v, Try.f3.params[j]? = some t → args[j]? = some v → Value.okWide Try.prog W .any base t v := hval0
  have hW' := hW
  obtain ⟨p, q, hA0, hV, rfl, hfz, hnd⟩ := hW
  have hA : DataW.TrodAll enc Try.prog W 0 (fun _ => true) true Try.f3.params.toList args.toList ds p := hA0
  rw [Try.params3] at hA hval
  obtain ⟨v0, vs0, d0, ds0, p0, q0, hargs, rfl, rfl, h0, r0⟩ := trodAll_cons hA
  obtain ⟨rfl, rfl, rfl⟩ := trodAll_nil r0
  obtain rfl : args = #[v0] := by cases args; simp_all
  obtain ⟨rfl, rfl⟩ := trodVars_none hV
  have k0 := h0
  have lt0 : ∀ x ∈ p0, x.block < W.heap.size := by obtain ⟨m, hm⟩ := k0; exact DataW.trod_lt m _ _ _ hm
  obtain ⟨ak0, as0, ar0, rfl, z0, w0⟩ := open_auditor (hval 0 23 v0 rfl rfl) h0
  clear hA0 hval0
  simp only [List.append_nil] at hW'
  refine (walk ak0 as0 ar0 W w0).mono fun e W' ⟨he, hg⟩ => ?_
  subst he
  exact ⟨_, rfl, _, _, _, [], _, [], hW', (trodAll_cons_mk (shut_bool Try.underlying4 _) trodAll_mk0), (trodAll_cons_mk (Below.trod laidOut (by kernel_rfl) (of_decide_eq_true (by kernel_rfl)) k0 hg lt0) trodAll_mk0), rfl, hg.frame _, fun h => by cases h⟩

theorem over : Rows.fnExactAuditorRightRow.holds Try.pinned (OpenSpec.ofChange Rows.fnExactAuditorRightSpec) :=
  OpenClaim.holds_of_wide 3 Try.f3 rfl rfl rfl rfl rfl rfl rfl ⟨rfl, rfl, rfl, rfl, rfl⟩ rfl rfl rfl rfl rfl (by kernel_rfl) Try.func3 (by kernel_rfl)
    (of_decide_eq_true (by kernel_rfl)) (by unfold Func.isWrapper; first | (rw [if_pos (by decide +kernel)]; kernel_rfl) | (rw [if_neg (by decide +kernel)]; exact ⟨rfl, rfl⟩))
    (fun os started H enc _ => lifted os started H enc)

theorem proved : Rows.FnExactAuditorRightSaid :=
  over
#print axioms proved
end Go.Proofs.Ytfdihkgkiiekcaa.fnExactAuditorRight
