/-
  For every policy the law FnExactPolicyRight returns true: the program's PolicyRight answers as the specification's, and writes into no argument.
  Conditions: none of mine; the form's own reach. The statement speaks of the pruned copy of the project that the seat names.
-/
import Derived.Test.YteehhpmmnpajmaaRows
import Derived.Test.YteehhpmmnpajmaaBytes
import Derived.Test.YteehhpmmnpajmaaSlA
import Derived.Test.YteehhpmmnpajmaaBxK
import Derived.Test.YteehhpmmnpajmaaOwnS
import Derived.Test.YteehhpmmnpajmaaRulMath
import Derived.Test.YteehhpmmnpajmaaPolMath
import Derived.Test.YteehhpmmnpajmaaIntK
import Derived.Test.YteehhpmmnpajmaaRulBlk
import Derived.Test.YteehhpmmnpajmaaLawRl
import Derived.Test.YteehhpmmnpajmaaLawI
import Derived.Test.YteehhpmmnpajmaaLawPo
import Derived.Test.YteehhpmmnpajmaaPolS
import Derived.Test.YteehhpmmnpajmaaPolI
import Derived.Test.YteehhpmmnpajmaaOpP
import Derived.WalkKit
import Derived.ProofKit
import Derived.OpenShut
import Derived.ShutString
import Derived.ChangeOld
import Derived.Below
import Derived.Deep.RegionWith
import Derived.Deep.Cut
import Derived.Deep.CutRange
import Derived.Handy
import Derived.WalkSpells
namespace Go.Proofs.Yteehhpmmnpajmaa.fnExactPolicyRight
open Go.ChangeShapes Go.WideShapes Go.ChangeAt Go.RowKit
open Go.ChangeMaps (open_string shut_string)
set_option linter.unusedVariables false

theorem own : ownKnob Try.prog.godebug = none := by kernel_rfl
theorem laidOut : laidOutB Try.prog = true := by kernel_rfl

set_option maxRecDepth 20000 in
set_option maxHeartbeats 4000000 in
theorem walk (a0 : Option Addr) (len0 cap0 : Nat) (ss : List Rul) (b0 : Option Addr) (lenb capb : Nat) (ps : List Int) (w : World) (w0 : IsRuls w a0 len0 cap0 ss ∧ IsIntsP w b0 lenb capb ps) :
    Calls Try.prog 4 #[.agg #[.slice a0 len0 cap0, .slice b0 lenb capb]] w fun e w' => e = .returned (.bool true) ∧ Below w.heap.size w w' := by
  obtain ⟨⟨rfl, hp, hcap, hm, hsz⟩, ⟨rfl, hq, hcap2, hm2⟩⟩ := w0
  have P1 : Hid (RulAt w a0 ss) := hp
  have P2 : Hid (IntAt w b0 ps) := hq
  have Z1 : Hid (RulsLe ss) := hsz
  clear hp hq hsz
  unfold maxLen at hm hm2
  obtain ⟨W1, hW1⟩ : ∃ W1, W1 = w.alloc (.cells #[.slice a0 ss.length cap0, .slice b0 ps.length capb] 45) := ⟨_, rfl⟩
  have HW1 : Hid (W1 = w.alloc (.cells #[.slice a0 ss.length cap0, .slice b0 ps.length capb] 45)) := hW1
  have b1 : Below w.heap.size w W1 := by rw [hW1]; exact (Below.refl _ _).alloc (Nat.le_refl _) _
  have A1 : Hid (Bxs W1 w.heap.size 45 #[.slice a0 ss.length cap0, .slice b0 ps.length capb]) := by rw [hW1]; exact Bxs.new _ _ _
  have B1 : Hid (Below w.heap.size w W1) := b1
  clear hW1 b1
  go_enter Try.func4, Try.ntmps4
  go_wp2_with fail
  rw [← HW1.out]
  refine (szPolicy_any 1048576 (by omega) (by omega) a0 b0 cap0 capb ss ps W1 (P1.out.below B1.out) (by omega) (by omega) hcap (fun x hx => by have := Z1.out x hx; unfold maxLen at this; exact this)).mono ?_
  rintro e w2 ⟨⟨r, rfl, hr⟩, b2⟩
  have A2 : Hid (Bxs w2 w.heap.size 45 #[.slice a0 ss.length cap0, .slice b0 ps.length capb]) := A1.out.below b2
  have B2 := chainB B1.out b2
  rcases hr with rfl | ⟨hr0, hr1, l1, l2⟩
  · go_wp2_with fail
    go_ret
    exact ⟨rfl, B2⟩
  have dr : decide (r < 0) = false := decide_eq_false (by omega)
  clear A1 b2
  have y0 : w2.cell? ⟨w.heap.size, 0, none⟩ = some (.slice a0 ss.length cap0) := A2.out.cell 0
  have y1 : w2.cell? ⟨w.heap.size, 1, none⟩ = some (.slice b0 ps.length capb) := A2.out.cell 1
  go_wp2_with fail
  refine (toPolicy_any a0 b0 cap0 capb ss ps w2 (P1.out.below B2) (P2.out.below B2) l1 l2 hcap hcap2).mono ?_
  rintro e w3 ⟨g1, g2, hg1, hg2, rfl, k1, k2, b3⟩
  have A3 : Hid (Bxs w3 w.heap.size 45 #[.slice a0 ss.length cap0, .slice b0 ps.length capb]) := A2.out.below b3
  have B3' := chainB B2 b3
  have hS := specPolicyRight_any (some ⟨g1, 0, none⟩) (some ⟨g2, 0, none⟩) ss.length ps.length ss ps w3 k1.at k2.int l1 l2 (Nat.le_refl _) (Nat.le_refl _) Z1.out
  have hI := fun x q1 c1 q2 c2 h1 h2 m1 m2 => implPolicyRight_any q1 q2 c1 c2 ss ps x h1 h2 l1 l2 m1 m2 Z1.out
  generalize polB ss ps = V at *
  clear y0 y1 A2 b3 k1 k2
  go_wp2_with fail
  refine hS.mono ?_
  rintro e w4 ⟨rfl, b4⟩
  have A4 : Hid (Bxs w4 w.heap.size 45 #[.slice a0 ss.length cap0, .slice b0 ps.length capb]) := A3.out.below b4
  have B4 := chainB B3' b4
  have y0 : w4.cell? ⟨w.heap.size, 0, none⟩ = some (.slice a0 ss.length cap0) := A4.out.cell 0
  have y1 : w4.cell? ⟨w.heap.size, 1, none⟩ = some (.slice b0 ps.length capb) := A4.out.cell 1
  clear hS b4 A3
  go_wp2_with fail
  refine (toPolicy_any a0 b0 cap0 capb ss ps w4 (P1.out.below B4) (P2.out.below B4) l1 l2 hcap hcap2).mono ?_
  rintro e w5 ⟨g3, g4, hg3, hg4, rfl, k3, k4, b5⟩
  obtain ⟨W6, hW6⟩ : ∃ W6, W6 = w5.alloc (.cells #[.slice (some ⟨g3, 0, none⟩) ss.length ss.length, .slice (some ⟨g4, 0, none⟩) ps.length ps.length] 26) := ⟨_, rfl⟩
  have HW6 : Hid (W6 = w5.alloc (.cells #[.slice (some ⟨g3, 0, none⟩) ss.length ss.length, .slice (some ⟨g4, 0, none⟩) ps.length ps.length] 26)) := hW6
  have ba : Below w5.heap.size w5 W6 := by rw [hW6]; exact (Below.refl _ _).alloc (Nat.le_refl _) _
  have A6 : Hid (Bxs W6 w.heap.size 45 #[.slice a0 ss.length cap0, .slice b0 ps.length capb]) := (A4.out.below b5).below ba
  have X6 : Hid (Bxs W6 w5.heap.size 26 #[.slice (some ⟨g3, 0, none⟩) ss.length ss.length, .slice (some ⟨g4, 0, none⟩) ps.length ps.length]) := by rw [hW6]; exact Bxs.new _ _ _
  have T3 : Hid (RulAt W6 (some ⟨g3, 0, none⟩) ss) := k3.at.below ba
  have T4 : Hid (IntAt W6 (some ⟨g4, 0, none⟩) ps) := k4.int.below ba
  have B6 := chainB (chainB B4 b5) ba
  have hV := hI W6 _ ss.length _ ps.length T3.out T4.out (Nat.le_refl _) (Nat.le_refl _)
  clear hW6 ba b5 k3 k4 A4 y0 y1 hI
  go_wp2_with fail
  rw [← HW6.out]
  refine hV.mono ?_
  rintro e w7 ⟨rfl, b7⟩
  have A7 : Hid (Bxs w7 w.heap.size 45 #[.slice a0 ss.length cap0, .slice b0 ps.length capb]) := A6.out.below b7
  have X7 : Hid (Bxs w7 w5.heap.size 26 #[.slice (some ⟨g3, 0, none⟩) ss.length ss.length, .slice (some ⟨g4, 0, none⟩) ps.length ps.length]) := X6.out.below b7
  have T5 : Hid (RulAt w7 (some ⟨g3, 0, none⟩) ss) := T3.out.below b7
  have T6 : Hid (IntAt w7 (some ⟨g4, 0, none⟩) ps) := T4.out.below b7
  have B7 : Hid (Below w.heap.size w w7) := chainB B6 b7
  have y0 : w7.cell? ⟨w.heap.size, 0, none⟩ = some (.slice a0 ss.length cap0) := A7.out.cell 0
  have y1 : w7.cell? ⟨w.heap.size, 1, none⟩ = some (.slice b0 ps.length capb) := A7.out.cell 1
  have v0 : w7.cell? ⟨w5.heap.size, 0, none⟩ = some (.slice (some ⟨g3, 0, none⟩) ss.length ss.length) := X7.out.cell 0
  have v1 : w7.cell? ⟨w5.heap.size, 1, none⟩ = some (.slice (some ⟨g4, 0, none⟩) ps.length ps.length) := X7.out.cell 1
  have QT : Hid (∀ x, Below w7.heap.size w7 x → Calls Try.prog 25 #[.agg #[.slice a0 ss.length cap0, .slice b0 ps.length capb]] x fun e x1 => ∃ g5 g6, e = .returned (.agg #[.slice (some ⟨g5, 0, none⟩) ss.length ss.length, .slice (some ⟨g6, 0, none⟩) ps.length ps.length]) ∧ RulAt x1 (some ⟨g5, 0, none⟩) ss ∧ IntAt x1 (some ⟨g6, 0, none⟩) ps ∧ Below w7.heap.size w7 x1) := fun x hb => (toPolicy_any a0 b0 cap0 capb ss ps x (P1.out.below (chainB B7.out hb)) (P2.out.below (chainB B7.out hb)) l1 l2 hcap hcap2).mono (by
    rintro e x1 ⟨g5, g6, _, _, rfl, j1, j2, y⟩
    exact ⟨g5, g6, rfl, j1.at, j2.int, chainB hb y⟩)
  have QE : Hid (∀ x g5 g6, Below w7.heap.size w7 x → RulAt x (some ⟨g5, 0, none⟩) ss → IntAt x (some ⟨g6, 0, none⟩) ps → Calls Try.prog 26 #[.agg #[.slice (some ⟨g3, 0, none⟩) ss.length ss.length, .slice (some ⟨g4, 0, none⟩) ps.length ps.length], .agg #[.slice (some ⟨g5, 0, none⟩) ss.length ss.length, .slice (some ⟨g6, 0, none⟩) ps.length ps.length]] x fun e x1 => e = .returned (.bool true) ∧ Below w7.heap.size w7 x1) := fun x g5 g6 hb h1 h2 => (eqPolicy_any _ _ _ _ _ _ _ _ ss ps x (T5.out.below hb) (T6.out.below hb) h1 h2 l1 l2 (Nat.le_refl _) (Nat.le_refl _) (Nat.le_refl _) (Nat.le_refl _)).mono (by
    rintro e x1 ⟨rfl, y⟩
    exact ⟨rfl, chainB hb y⟩)
  have HX : Hid (∀ x, Below w7.heap.size w7 x → x.cell? ⟨w5.heap.size, 0, none⟩ = some (.slice (some ⟨g3, 0, none⟩) ss.length ss.length) ∧ x.cell? ⟨w5.heap.size, 1, none⟩ = some (.slice (some ⟨g4, 0, none⟩) ps.length ps.length)) := fun x hb => ⟨(X7.out.below hb).cell 0, (X7.out.below hb).cell 1⟩
  have HR7 : Hid (Below w7.heap.size w7 w7) := Below.refl _ _
  clear hV b7 A6 X6 T3 T4 B6 A7 X7 T5 T6
  go_wp2_with fail
  go_region_with (first
    | (go_at_call 25; refine (QT.out _ (by first | exact HR7.out | exact HR7.out.drew)).mono ?_; rintro e x1 ⟨g5, g6, rfl, j1, j2, z1⟩; obtain ⟨u0, u1⟩ := HX.out _ z1)
    | (go_at_call 26; refine (QE.out _ g5 g6 (by first | exact z1 | exact z1.drew) (by first | exact j1 | exact j1.below (Below.refl _ _).drew) (by first | exact j2 | exact j2.below (Below.refl _ _).drew)).mono ?_; rintro e x2 ⟨rfl, z2⟩))
  all_goals
    have z3 := chainB B7.out z2
    go_wp2_with fail
    go_ret
    exact ⟨rfl, z3⟩

set_option maxRecDepth 100000 in
theorem lifted (os : Os) (started : os.Started) (H : Type) (enc : TypeId × Value → H) :
    ReturnsInHanded {} Try.checked os 4 .any (Rows.fnExactPolicyRightSpec.pre6 enc Try.prog Try.f4 Rows.fnExactPolicyRightRow.domain false) (Rows.fnExactPolicyRightSpec.post enc Try.prog Try.f4 false true false false) := by
  refine returnsInHanded_of_change (C := Try.checked) own started (by kernel_rfl) Try.func4
    (ChangeSpec.witness6 (enc := enc) (C := Try.checked) false ⟨#[], #[.agg #[.slice none 0 0, .slice none 0 0]], []⟩ 8 (by kernel_rfl) (by kernel_rfl) (by kernel_rfl) (by kernel_rfl)) ?_
  intro W base args ds gs before hval0 hW hcnd _
  have hval : ∀ (j : Nat) t v, Try.f4.params[j]? = some t → args[j]? = some v → Value.okWide Try.prog W .any base t v := hval0
  have hW' := hW
  obtain ⟨p, q, hA0, hV, rfl, hfz, hnd⟩ := hW
  have hA : DataW.TrodAll enc Try.prog W 0 (fun _ => true) true Try.f4.params.toList args.toList ds p := hA0
  rw [Try.params4] at hA hval
  obtain ⟨v0, vs0, d0, ds0, p0, q0, hargs, rfl, rfl, h0, r0⟩ := trodAll_cons hA
  obtain ⟨rfl, rfl, rfl⟩ := trodAll_nil r0
  obtain rfl : args = #[v0] := by cases args; simp_all
  obtain ⟨rfl, rfl⟩ := trodVars_none hV
  have k0 := h0
  have lt0 : ∀ x ∈ p0, x.block < W.heap.size := by obtain ⟨m, hm⟩ := k0; exact DataW.trod_lt m _ _ _ hm
  obtain ⟨a0, len0, cap0, b0, lenb0, capb0, rfl, ⟨ss0, wa0⟩, ⟨ts0, wb0⟩⟩ := open_policy (hval 0 45 v0 rfl rfl) h0
  have w0 := And.intro wa0 wb0
  clear hA0 hval0
  simp only [List.append_nil] at hW'
  refine (walk a0 len0 cap0 ss0 b0 lenb0 capb0 ts0 W w0).mono fun e W' ⟨he, hg⟩ => ?_
  subst he
  exact ⟨_, rfl, _, _, _, [], _, [], hW', (trodAll_cons_mk (shut_bool Try.underlying4 _) trodAll_mk0), (trodAll_cons_mk (Below.trod laidOut (by kernel_rfl) (of_decide_eq_true (by kernel_rfl)) k0 hg lt0) trodAll_mk0), rfl, hg.frame _, fun h => by cases h⟩

theorem over : Rows.fnExactPolicyRightRow.holds Try.pinned (OpenSpec.ofChange Rows.fnExactPolicyRightSpec) :=
  OpenClaim.holds_of_wide 4 Try.f4 rfl rfl rfl rfl rfl rfl rfl ⟨rfl, rfl, rfl, rfl, rfl⟩ rfl rfl rfl rfl rfl (by kernel_rfl) Try.func4 (by kernel_rfl)
    (of_decide_eq_true (by kernel_rfl)) (by unfold Func.isWrapper; first | (rw [if_pos (by decide +kernel)]; kernel_rfl) | (rw [if_neg (by decide +kernel)]; exact ⟨rfl, rfl⟩))
    (fun os started H enc _ => lifted os started H enc)

theorem proved : Rows.FnExactPolicyRightSaid :=
  over
#print axioms proved
end Go.Proofs.Yteehhpmmnpajmaa.fnExactPolicyRight
