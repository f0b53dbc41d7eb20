/-
  For every policy and two texts the law FnExactRuleDrop returns true: the program's RuleDrop answers as the specification's, writes into no argument, and its answer owns its memory.
  Conditions: none of mine; the form's own reach. The statement speaks of the pruned copy of the project that the seat names.
-/
import Derived.Test.YteehhpmmnpajmaaRows
import Derived.Test.YteehhpmmnpajmaaBytes
import Derived.Test.YteehhpmmnpajmaaSlA
import Derived.Test.YteehhpmmnpajmaaOwnS
import Derived.Test.YteehhpmmnpajmaaBxK
import Derived.Test.YteehhpmmnpajmaaIntK
import Derived.Test.YteehhpmmnpajmaaRulMath
import Derived.Test.YteehhpmmnpajmaaRulBlk
import Derived.Test.YteehhpmmnpajmaaPolMath
import Derived.Test.YteehhpmmnpajmaaLawRl
import Derived.Test.YteehhpmmnpajmaaLawI
import Derived.Test.YteehhpmmnpajmaaLawIm
import Derived.Test.YteehhpmmnpajmaaLawRm
import Derived.Test.YteehhpmmnpajmaaPolO
import Derived.Test.YteehhpmmnpajmaaPolAns
import Derived.Test.YteehhpmmnpajmaaSpecHe
import Derived.Test.YteehhpmmnpajmaaImplRd
import Derived.Test.YteehhpmmnpajmaaSpecRd
import Derived.Test.YteehhpmmnpajmaaLawPo
import Derived.Test.YteehhpmmnpajmaaLawPoM
import Derived.Test.YteehhpmmnpajmaaGrTwo
import Derived.Test.YteehhpmmnpajmaaLawPoG
import Derived.Test.YteehhpmmnpajmaaOpP
import Derived.WalkKit
import Derived.ProofKit
import Derived.OpenShut
import Derived.ShutString
import Derived.ChangeOld
import Derived.Below
import Derived.Deep.RegionWith
import Derived.Deep.Cut
import Derived.Deep.CutRange
import Derived.Handy
import Derived.WalkSpells
namespace Go.Proofs.Yteehhpmmnpajmaa.fnExactRuleDrop
open Go.ChangeShapes Go.WideShapes Go.ChangeAt Go.RowKit
open Go.ChangeMaps (open_string shut_string)
set_option linter.unusedVariables false

theorem own : ownKnob Try.prog.godebug = none := by kernel_rfl
theorem laidOut : laidOutB Try.prog = true := by kernel_rfl

theorem ite_le {α : Type} (c : Prop) [Decidable c] (l : List α) (h : l.length ≤ 1048576) : (if c then l else []).length ≤ 1048576 := by
  split
  · exact h
  · simp
set_option maxRecDepth 20000 in
set_option maxHeartbeats 8000000 in
theorem walk (a0 : Option Addr) (len0 cap0 : Nat) (ss : List Rul) (b0 : Option Addr) (lenb capb : Nat) (ps : List Int) (kd fd : ByteArray) (w : World) (w0 : IsRuls w a0 len0 cap0 ss ∧ IsIntsP w b0 lenb capb ps) (hwk : kd.size ≤ maxLen) (hwf : fd.size ≤ maxLen) :
    Calls Try.prog 6 #[.agg #[.slice a0 len0 cap0, .slice b0 lenb capb], .string kd, .string fd] w fun e w' => e = .returned (.bool true) ∧ Below w.heap.size w w' := by
  obtain ⟨⟨rfl, hp, hcap, hm, hsz⟩, ⟨rfl, hq, hcap2, hm2⟩⟩ := w0
  have P1 : Hid (RulAt w a0 ss) := hp
  have P2 : Hid (IntAt w b0 ps) := hq
  have Z1 : Hid (RulsLe ss) := hsz
  clear hp hq hsz
  unfold maxLen at hm hm2 hwk hwf
  obtain ⟨W1, hW1⟩ : ∃ W1, W1 = w.alloc (.cells #[.slice a0 ss.length cap0, .slice b0 ps.length capb] 45) := ⟨_, rfl⟩
  have HW1 : Hid (W1 = w.alloc (.cells #[.slice a0 ss.length cap0, .slice b0 ps.length capb] 45)) := hW1
  have b1 : Below w.heap.size w W1 := by rw [hW1]; exact (Below.refl _ _).alloc (Nat.le_refl _) _
  have A1 : Hid (Bxs W1 w.heap.size 45 #[.slice a0 ss.length cap0, .slice b0 ps.length capb]) := by rw [hW1]; exact Bxs.new _ _ _
  by_cases hbkd : 1048576 < kd.size
  · have d1 : decide (1048576 < (kd.size : Int)) = true := decide_eq_true (by omega)
    rw [hW1] at b1
    clear hW1 A1 HW1
    go_enter Try.func6, Try.ntmps6
    go_wp2_with fail
    go_ret
    exact ⟨rfl, b1⟩
  have d1 : decide (1048576 < (kd.size : Int)) = false := decide_eq_false (by omega)
  by_cases hbfd : 1048576 < fd.size
  · have d2 : decide (1048576 < (fd.size : Int)) = true := decide_eq_true (by omega)
    rw [hW1] at b1
    clear hW1 A1 HW1
    go_enter Try.func6, Try.ntmps6
    go_wp2_with fail
    go_ret
    exact ⟨rfl, b1⟩
  have d2 : decide (1048576 < (fd.size : Int)) = false := decide_eq_false (by omega)
  have B1 : Hid (Below w.heap.size w W1) := b1
  have S1 := A1.out.lt
  clear hW1 b1
  go_enter Try.func6, Try.ntmps6
  go_wp2_with fail
  rw [← HW1.out]
  refine (szPolicy_any 1048576 (by omega) (by omega) a0 b0 cap0 capb ss ps W1 (P1.out.below B1.out) (by omega) (by omega) hcap (fun x hx => by have := Z1.out x hx; unfold maxLen at this; exact this)).mono ?_
  rintro e w2 ⟨⟨r, rfl, hr⟩, b2⟩
  have A2 : Hid (Bxs w2 w.heap.size 45 #[.slice a0 ss.length cap0, .slice b0 ps.length capb]) := A1.out.below b2
  have S2 := b2.size
  have B2 := chainB B1.out b2
  rcases hr with rfl | ⟨hr0, hr1, l1, l2⟩
  · go_wp2_with fail
    go_ret
    exact ⟨rfl, B2⟩
  have dr : decide (r < 0) = false := decide_eq_false (by omega)
  clear A1 b2 B1
  obtain ⟨RS, hRS⟩ : ∃ RS, RS = rdR ss ps kd fd := ⟨_, rfl⟩
  obtain ⟨RP, hRP⟩ : ∃ RP, RP = rdH ss ps kd fd := ⟨_, rfl⟩
  obtain ⟨C0, hC0⟩ : ∃ C0, C0 = rdC ss ps kd fd := ⟨_, rfl⟩
  have L1 : RS.length ≤ 1048576 := by
    rw [hRS]
    exact by unfold rdR; split; (· simp; omega); (· simp)
  have L2 : RP.length ≤ 1048576 := by
    rw [hRP]
    exact ite_le _ ps l2
  have hS : Hid (∀ x q1 c1 q2 c2, RulAt x q1 ss → IntAt x q2 ps → ss.length ≤ c1 → ps.length ≤ c2 → AdOk q1 ss.length c1 → AdOk q2 ps.length c2 → Calls Try.prog 18 #[.agg #[.slice q1 ss.length c1, .slice q2 ps.length c2], .string kd, .string fd] x fun e x' => ∃ v1 v2, e = .returned (.agg #[v1, v2, .int .i64 C0]) ∧ PolO x.heap.size RS RP v1 v2 x' ∧ Below x.heap.size x x') := by
    intro x q1 c1 q2 c2 h1 h2 m1 m2 a1 a2
    rw [hRS, hRP, hC0]
    exact specRuleDrop_any q1 q2 c1 c2 ss ps kd fd x h1 h2 l1 l2 m1 m2 Z1.out (by omega) (by omega)
  have hI : Hid (∀ x q1 c1 q2 c2, RulAt x q1 ss → IntAt x q2 ps → ss.length ≤ c1 → ps.length ≤ c2 → AdOk q1 ss.length c1 → AdOk q2 ps.length c2 → Calls Try.prog 17 #[.agg #[.slice q1 ss.length c1, .slice q2 ps.length c2], .string kd, .string fd] x fun e x' => ∃ v1 v2, e = .returned (.agg #[v1, v2, .int .i64 C0]) ∧ PolO x.heap.size RS RP v1 v2 x' ∧ Below x.heap.size x x') := by
    intro x q1 c1 q2 c2 h1 h2 m1 m2 a1 a2
    rw [hRS, hRP, hC0]
    exact implRuleDrop_any q1 q2 c1 c2 ss ps kd fd x h1 h2 l1 l2 m1 m2 Z1.out (by omega) (by omega)
  clear hRS hRP hC0 Z1
  obtain ⟨y0, y1⟩ := A2.out.two
  go_wp2_with fail
  refine (toPolicy_any a0 b0 cap0 capb ss ps w2 (P1.out.below B2) (P2.out.below B2) l1 l2 hcap hcap2).mono ?_
  rintro e w3 ⟨g1, g2, hg1, hg2, rfl, k1, k2, b3⟩
  have A3 : Hid (Bxs w3 w.heap.size 45 #[.slice a0 ss.length cap0, .slice b0 ps.length capb]) := A2.out.below b3
  have S3 := b3.size
  have B3 := chainB B2 b3
  have h4 := hS.out w3 _ ss.length _ ps.length k1.at k2.int (Nat.le_refl _) (Nat.le_refl _) (AdOk.new _ _ _ _) (AdOk.new _ _ _ _)
  clear y0 y1 A2 b3 k1 k2 hS hg1 hg2
  go_wp2_with fail
  refine h4.mono ?_
  rintro e w4 ⟨vw1, vw2, rfl, oW, b4⟩
  obtain ⟨pw1, cw1, pw2, cw2, rfl, rfl, mw1, mw2⟩ := oW.form
  have IW : Hid (In2 (.slice pw1 RS.length cw1) (.slice pw2 RP.length cw2) w3.heap.size w4.heap.size) := oW.in2
  obtain ⟨W5, hW5⟩ : ∃ W5, W5 = w4.alloc (.cells #[.slice pw1 RS.length cw1, .slice pw2 RP.length cw2, .int .i64 C0] 32) := ⟨_, rfl⟩
  have HW5 : Hid (W5 = w4.alloc (.cells #[.slice pw1 RS.length cw1, .slice pw2 RP.length cw2, .int .i64 C0] 32)) := hW5
  have b5 : Below w4.heap.size w4 W5 := by rw [hW5]; exact (Below.refl _ _).alloc (Nat.le_refl _) _
  have E5 : Hid (Bxs W5 w4.heap.size 32 #[.slice pw1 RS.length cw1, .slice pw2 RP.length cw2, .int .i64 C0]) := by rw [hW5]; exact Bxs.new _ _ _
  have A5 : Hid (Bxs W5 w.heap.size 45 #[.slice a0 ss.length cap0, .slice b0 ps.length capb]) := (A3.out.below b4).below b5
  have OW5 : Hid (PolO w3.heap.size RS RP (.slice pw1 RS.length cw1) (.slice pw2 RP.length cw2) W5) := oW.below b5
  have S4 := b4.size
  have S5 := E5.out.lt
  have B5 := chainB (chainB B3 b4) b5
  obtain ⟨y0, y1⟩ := A5.out.two
  rw [hW5] at y0 y1
  clear hW5 b4 b5 oW A3 h4
  go_wp2_with fail
  rw [← HW5.out] at y0 y1 ⊢
  refine (toPolicy_any a0 b0 cap0 capb ss ps W5 (P1.out.below B5) (P2.out.below B5) l1 l2 hcap hcap2).mono ?_
  rintro e w6 ⟨g6, g7, hg6, hg7, rfl, k6, k7, b6⟩
  obtain ⟨W7, hW7⟩ : ∃ W7, W7 = w6.alloc (.cells #[.slice (some ⟨g6, 0, none⟩) ss.length ss.length, .slice (some ⟨g7, 0, none⟩) ps.length ps.length] 26) := ⟨_, rfl⟩
  have HW7 : Hid (W7 = w6.alloc (.cells #[.slice (some ⟨g6, 0, none⟩) ss.length ss.length, .slice (some ⟨g7, 0, none⟩) ps.length ps.length] 26)) := hW7
  have b7 : Below w6.heap.size w6 W7 := by rw [hW7]; exact (Below.refl _ _).alloc (Nat.le_refl _) _
  have X7 : Hid (Bxs W7 w6.heap.size 26 #[.slice (some ⟨g6, 0, none⟩) ss.length ss.length, .slice (some ⟨g7, 0, none⟩) ps.length ps.length]) := by rw [hW7]; exact Bxs.new _ _ _
  have S6 := b6.size
  have hg7s := k7.lt
  have S7 := X7.out.lt
  have K6 : Hid (BlkU W7 g6 ss) := k6.below b7
  have K7 : Hid (BlkI W7 g7 ps) := k7.below b7 k7.lt
  have b67 := chainB b6 b7
  have A7 : Hid (Bxs W7 w.heap.size 45 #[.slice a0 ss.length cap0, .slice b0 ps.length capb]) := A5.out.below b67
  have E7 : Hid (Bxs W7 w4.heap.size 32 #[.slice pw1 RS.length cw1, .slice pw2 RP.length cw2, .int .i64 C0]) := E5.out.below b67
  have OW7 : Hid (PolO w3.heap.size RS RP (.slice pw1 RS.length cw1) (.slice pw2 RP.length cw2) W7) := OW5.out.below b67
  have B7 := chainB B5 b67
  have h8 := hI.out W7 _ ss.length _ ps.length K6.out.at K7.out.int (Nat.le_refl _) (Nat.le_refl _) (AdOk.new _ _ _ _) (AdOk.new _ _ _ _)
  clear y0 y1 hW7 b7 b67 k6 k7 b6 A5 E5 OW5
  go_wp2_with fail
  rw [← HW7.out]
  refine h8.mono ?_
  rintro e w8 ⟨vg1, vg2, rfl, oG, b8⟩
  obtain ⟨pg1, cg1, pg2, cg2, rfl, rfl, mg1, mg2⟩ := oG.form
  have IG : Hid (In2 (.slice pg1 RS.length cg1) (.slice pg2 RP.length cg2) W7.heap.size w8.heap.size) := oG.in2
  obtain ⟨W9, hW9⟩ : ∃ W9, W9 = w8.alloc (.cells #[.slice pg1 RS.length cg1, .slice pg2 RP.length cg2, .int .i64 C0] 32) := ⟨_, rfl⟩
  have HW9 : Hid (W9 = w8.alloc (.cells #[.slice pg1 RS.length cg1, .slice pg2 RP.length cg2, .int .i64 C0] 32)) := hW9
  have b9 : Below w8.heap.size w8 W9 := by rw [hW9]; exact (Below.refl _ _).alloc (Nat.le_refl _) _
  have G9 : Hid (Bxs W9 w8.heap.size 32 #[.slice pg1 RS.length cg1, .slice pg2 RP.length cg2, .int .i64 C0]) := by rw [hW9]; exact Bxs.new _ _ _
  have S8 := b8.size
  have S9 := G9.out.lt
  have b89 := chainB b8 b9
  have A9 : Hid (Bxs W9 w.heap.size 45 #[.slice a0 ss.length cap0, .slice b0 ps.length capb]) := A7.out.below b89
  have E9 : Hid (Bxs W9 w4.heap.size 32 #[.slice pw1 RS.length cw1, .slice pw2 RP.length cw2, .int .i64 C0]) := E7.out.below b89
  have X9 : Hid (Bxs W9 w6.heap.size 26 #[.slice (some ⟨g6, 0, none⟩) ss.length ss.length, .slice (some ⟨g7, 0, none⟩) ps.length ps.length]) := X7.out.below b89
  have K9 : Hid (BlkU W9 g6 ss) := K6.out.below b89
  have J9 : Hid (BlkI W9 g7 ps) := K7.out.below b89 K7.out.lt
  have OW9 : Hid (PolO w3.heap.size RS RP (.slice pw1 RS.length cw1) (.slice pw2 RP.length cw2) W9) := OW7.out.below b89
  have OG9 : Hid (PolO W7.heap.size RS RP (.slice pg1 RS.length cg1) (.slice pg2 RP.length cg2) W9) := oG.below b9
  have B9 := chainB B7 b89
  obtain ⟨y0, y1, y2⟩ := E9.out.three
  rw [hW9] at y0 y1 y2
  have HEQ : Hid (∀ x, PolO W7.heap.size RS RP (.slice pg1 RS.length cg1) (.slice pg2 RP.length cg2) x → PolO w3.heap.size RS RP (.slice pw1 RS.length cw1) (.slice pw2 RP.length cw2) x → Calls Try.prog 29 #[.agg #[.slice pg1 RS.length cg1, .slice pg2 RP.length cg2, .int .i64 C0], .agg #[.slice pw1 RS.length cw1, .slice pw2 RP.length cw2, .int .i64 C0]] x fun e x' => e = .returned (.bool true) ∧ Below x.heap.size x x') := fun x h1 h2 => eqPolicyOut_any C0 _ _ _ _ _ _ _ _ RS RP x h1.read.1 h1.read.2 h2.read.1 h2.read.2 L1 L2 mg1 mg2 mw1 mw2
  clear hW9 b8 b9 b89 oG A7 E7 X7 K6 K7 OW7 h8
  go_wp2_with fail
  rw [← HW9.out] at y0 y1 y2 ⊢
  refine (HEQ.out _ OG9.out OW9.out).mono ?_
  rintro e w10 ⟨rfl, b10⟩
  have A10 : Hid (Bxs w10 w.heap.size 45 #[.slice a0 ss.length cap0, .slice b0 ps.length capb]) := A9.out.below b10
  have E10 : Hid (Bxs w10 w4.heap.size 32 #[.slice pw1 RS.length cw1, .slice pw2 RP.length cw2, .int .i64 C0]) := E9.out.below b10
  have X10 : Hid (Bxs w10 w6.heap.size 26 #[.slice (some ⟨g6, 0, none⟩) ss.length ss.length, .slice (some ⟨g7, 0, none⟩) ps.length ps.length]) := X9.out.below b10
  have G10 : Hid (Bxs w10 w8.heap.size 32 #[.slice pg1 RS.length cg1, .slice pg2 RP.length cg2, .int .i64 C0]) := G9.out.below b10
  have K10 : Hid (BlkU w10 g6 ss) := K9.out.below b10
  have J10 : Hid (BlkI w10 g7 ps) := J9.out.below b10 J9.out.lt
  have OW10 : Hid (PolO w3.heap.size RS RP (.slice pw1 RS.length cw1) (.slice pw2 RP.length cw2) w10) := OW9.out.below b10
  have OG10 : Hid (PolO W7.heap.size RS RP (.slice pg1 RS.length cg1) (.slice pg2 RP.length cg2) w10) := OG9.out.below b10
  have S10 := b10.size
  have B10 := chainB B9 b10
  clear y0 y1 y2 b10 A9 E9 X9 G9 K9 J9 OW9 OG9
  obtain ⟨x0, x1⟩ := A10.out.two
  obtain ⟨y0, y1⟩ := X10.out.two
  have QT : Hid (∀ x, Below w10.heap.size w10 x → Calls Try.prog 25 #[.agg #[.slice a0 ss.length cap0, .slice b0 ps.length capb]] x fun e x1 => ∃ g8 g9, e = .returned (.agg #[.slice (some ⟨g8, 0, none⟩) ss.length ss.length, .slice (some ⟨g9, 0, none⟩) ps.length ps.length]) ∧ RulAt x1 (some ⟨g8, 0, none⟩) ss ∧ IntAt x1 (some ⟨g9, 0, none⟩) ps ∧ Below w10.heap.size w10 x1) := fun x hb => (toPolicy_any a0 b0 cap0 capb ss ps x (P1.out.below (chainB B10 hb)) (P2.out.below (chainB B10 hb)) l1 l2 hcap hcap2).mono (by
    rintro e x1 ⟨g8, g9, _, _, rfl, j1, j2, y⟩
    exact ⟨g8, g9, rfl, j1.at, j2.int, chainB hb y⟩)
  have QE : Hid (∀ x g8 g9, Below w10.heap.size w10 x → RulAt x (some ⟨g8, 0, none⟩) ss → IntAt x (some ⟨g9, 0, none⟩) ps → Calls Try.prog 26 #[.agg #[.slice (some ⟨g6, 0, none⟩) ss.length ss.length, .slice (some ⟨g7, 0, none⟩) ps.length ps.length], .agg #[.slice (some ⟨g8, 0, none⟩) ss.length ss.length, .slice (some ⟨g9, 0, none⟩) ps.length ps.length]] x fun e x1 => e = .returned (.bool true) ∧ Below w10.heap.size w10 x1) := fun x g8 g9 hb h1 h2 => (eqPolicy_any _ _ _ _ _ _ _ _ ss ps x (K10.out.at.below hb) (J10.out.int.below hb) h1 h2 l1 l2 (Nat.le_refl _) (Nat.le_refl _) (Nat.le_refl _) (Nat.le_refl _)).mono (by
    rintro e x1 ⟨rfl, y⟩
    exact ⟨rfl, chainB hb y⟩)
  have HX10 : Hid (∀ x, Below w10.heap.size w10 x → x.cell? ⟨w6.heap.size, 0, none⟩ = some (.slice (some ⟨g6, 0, none⟩) ss.length ss.length) ∧ x.cell? ⟨w6.heap.size, 1, none⟩ = some (.slice (some ⟨g7, 0, none⟩) ps.length ps.length)) := fun x hb => (X10.out.below hb).two
  have HR10 : Hid (Below w10.heap.size w10 w10) := Below.refl _ _
  go_upto_region 14 with fail
  go_cut [45] from 41 to 45 (fun s35 wx => s35 = .bool false ∧ Hid (Below w10.heap.size w10 wx))
  case first =>
    go_region_with (first
      | (go_at_call 25; refine (QT.out _ (by first | exact HR10.out | exact HR10.out.drew)).mono ?_; rintro e z1 ⟨g8, g9, rfl, j1, j2, z2⟩; obtain ⟨u0, u1⟩ := HX10.out _ z2)
      | (go_at_call 26; refine (QE.out _ g8 g9 (by first | exact z2 | exact z2.drew) (by first | exact j1 | exact j1.below (Below.refl _ _).drew) (by first | exact j2 | exact j2.below (Below.refl _ _).drew)).mono ?_; rintro e z3 ⟨rfl, z4⟩))
    all_goals (go_wp2_with fail; go_meet; exact ⟨rfl, z4⟩)
  case rest =>
  obtain ⟨rfl, hc⟩ := hcut
  have b12 := hc.out
  rename World => w12
  have A12 : Hid (Bxs w12 w.heap.size 45 #[.slice a0 ss.length cap0, .slice b0 ps.length capb]) := A10.out.below b12
  have E12 : Hid (Bxs w12 w4.heap.size 32 #[.slice pw1 RS.length cw1, .slice pw2 RP.length cw2, .int .i64 C0]) := E10.out.below b12
  have X12 : Hid (Bxs w12 w6.heap.size 26 #[.slice (some ⟨g6, 0, none⟩) ss.length ss.length, .slice (some ⟨g7, 0, none⟩) ps.length ps.length]) := X10.out.below b12
  have G12 : Hid (Bxs w12 w8.heap.size 32 #[.slice pg1 RS.length cg1, .slice pg2 RP.length cg2, .int .i64 C0]) := G10.out.below b12
  have K12 : Hid (BlkU w12 g6 ss) := K10.out.below b12
  have J12 : Hid (BlkI w12 g7 ps) := J10.out.below b12 J10.out.lt
  have OW12 : Hid (PolO w3.heap.size RS RP (.slice pw1 RS.length cw1) (.slice pw2 RP.length cw2) w12) := OW10.out.below b12
  have OG12 : Hid (PolO W7.heap.size RS RP (.slice pg1 RS.length cg1) (.slice pg2 RP.length cg2) w12) := OG10.out.below b12
  have S12 := b12.size
  have B12 := chainB B10 b12
  have hm12 := markPolicy_any W5.heap.size _ _ ss.length ps.length ss ps w12 (K12.out.own W5.heap.size hg6 (by unfold maxLen; omega)) (J12.out.own W5.heap.size (by omega) (by unfold maxLen; omega)) (.inr (fun h => by simp [Value.ownBlock] at h; omega)) l1 l2
  clear x0 x1 y0 y1 b12 hc A10 E10 X10 G10 K10 J10 OW10 OG10 QT QE HX10 HR10
  obtain ⟨y0, y1⟩ := X12.out.two
  go_wp2_with fail
  refine hm12.mono ?_
  rintro e w13 ⟨rfl, -, -, wm, gm1, gm2⟩
  have gr := Gr2.mk2 gm1 gm2
  have A13 : Hid (Bxs w13 w.heap.size 45 #[.slice a0 ss.length cap0, .slice b0 ps.length capb]) := A12.out.gr2 gr (fun h => by simp [Value.ownBlock] at h; omega) (fun h => by simp [Value.ownBlock] at h; omega)
  have E13 : Hid (Bxs w13 w4.heap.size 32 #[.slice pw1 RS.length cw1, .slice pw2 RP.length cw2, .int .i64 C0]) := E12.out.gr2 gr (fun h => by simp [Value.ownBlock] at h; omega) (fun h => by simp [Value.ownBlock] at h; omega)
  have G13 : Hid (Bxs w13 w8.heap.size 32 #[.slice pg1 RS.length cg1, .slice pg2 RP.length cg2, .int .i64 C0]) := G12.out.gr2 gr (fun h => by simp [Value.ownBlock] at h; omega) (fun h => by simp [Value.ownBlock] at h; omega)
  have OW13 : Hid (PolO w3.heap.size RS RP (.slice pw1 RS.length cw1) (.slice pw2 RP.length cw2) w13) := OW12.out.gr2 gr ⟨fun j hj => by have := IW.out.1 j hj; exact ⟨fun h => by simp [Value.ownBlock] at h; omega, fun h => by simp [Value.ownBlock] at h; omega⟩, fun j hj => by have := IW.out.2 j hj; exact ⟨fun h => by simp [Value.ownBlock] at h; omega, fun h => by simp [Value.ownBlock] at h; omega⟩⟩
  have OG13 : Hid (PolO W7.heap.size RS RP (.slice pg1 RS.length cg1) (.slice pg2 RP.length cg2) w13) := OG12.out.gr2 gr ⟨fun j hj => by have := IG.out.1 j hj; exact ⟨fun h => by simp [Value.ownBlock] at h; omega, fun h => by simp [Value.ownBlock] at h; omega⟩, fun j hj => by have := IG.out.2 j hj; exact ⟨fun h => by simp [Value.ownBlock] at h; omega, fun h => by simp [Value.ownBlock] at h; omega⟩⟩
  have B13 : Below w.heap.size w w13 := below_gr2 B12 gr B12.size (fun k h => by simp [Value.ownBlock] at h; omega) (fun k h => by simp [Value.ownBlock] at h; omega)
  have S13 := gr.size
  clear y0 y1 hm12 gm1 gm2 gr A12 E12 X12 G12 K12 J12 OW12 OG12
  obtain ⟨y0, y1, y2⟩ := E13.out.three
  obtain ⟨z0, z1, z2⟩ := G13.out.three
  have d9 : decide ((ps.length : Int) + (4 * (ss.length : Int) + 1) < 0) = false := decide_eq_false (by omega)
  go_wp2_with fail
  refine (HEQ.out _ OG13.out OW13.out).mono ?_
  rintro e w14 ⟨rfl, b14⟩
  have A14 : Hid (Bxs w14 w.heap.size 45 #[.slice a0 ss.length cap0, .slice b0 ps.length capb]) := A13.out.below b14
  have E14 : Hid (Bxs w14 w4.heap.size 32 #[.slice pw1 RS.length cw1, .slice pw2 RP.length cw2, .int .i64 C0]) := E13.out.below b14
  have G14 : Hid (Bxs w14 w8.heap.size 32 #[.slice pg1 RS.length cg1, .slice pg2 RP.length cg2, .int .i64 C0]) := G13.out.below b14
  have OW14 : Hid (PolO w3.heap.size RS RP (.slice pw1 RS.length cw1) (.slice pw2 RP.length cw2) w14) := OW13.out.below b14
  have OG14 : Hid (PolO W7.heap.size RS RP (.slice pg1 RS.length cg1) (.slice pg2 RP.length cg2) w14) := OG13.out.below b14
  have S14 := b14.size
  have B14 := chainB B13 b14
  have hm14 := markPolicyOut_any C0 W7.heap.size _ _ cg1 cg2 RS RP w14 OG14.out.own1 OG14.out.own2 OG14.out.ne L1 L2
  clear y0 y1 y2 z0 z1 z2 b14 A13 E13 G13 OW13 OG13
  obtain ⟨z0, z1, z2⟩ := G14.out.three
  go_wp2_with fail
  refine hm14.mono ?_
  rintro e w15 ⟨rfl, oM1, oM2, wm, gm1, gm2⟩
  have gr := Gr2.mk2 gm1 gm2
  have A15 : Hid (Bxs w15 w.heap.size 45 #[.slice a0 ss.length cap0, .slice b0 ps.length capb]) := A14.out.gr2 gr (IG.out.off (.inl (by omega))).1 (IG.out.off (.inl (by omega))).2
  have E15 : Hid (Bxs w15 w4.heap.size 32 #[.slice pw1 RS.length cw1, .slice pw2 RP.length cw2, .int .i64 C0]) := E14.out.gr2 gr (IG.out.off (.inl (by omega))).1 (IG.out.off (.inl (by omega))).2
  have G15 : Hid (Bxs w15 w8.heap.size 32 #[.slice pg1 RS.length cg1, .slice pg2 RP.length cg2, .int .i64 C0]) := G14.out.gr2 gr (IG.out.off (.inr (by omega))).1 (IG.out.off (.inr (by omega))).2
  have OW15 : Hid (PolO w3.heap.size RS RP (.slice pw1 RS.length cw1) (.slice pw2 RP.length cw2) w15) := OW14.out.gr2 gr (IW.out.apart IG.out (.inl (by omega)))
  have B15 : Below w.heap.size w w15 := below_gr2 B14 gr B14.size (fun k h => by have := IG.out.1 k h; omega) (fun k h => by have := IG.out.2 k h; omega)
  have S15 := gr.size
  have hN1 : (muN 1 RS.length).length = RS.length := muN_len 1 RS.length
  have hN2 := miN_len (4 * RS.length + 1) RP.length
  have M15 : Hid (PolO W7.heap.size (muN 1 RS.length) (miN (4 * RS.length + 1) RP.length) (.slice pg1 RS.length cg1) (.slice pg2 RP.length cg2) w15) := ⟨by rw [hN1]; exact oM1, by rw [hN2]; exact oM2, OG14.out.ne⟩
  have HM : Hid (∀ x, PolO W7.heap.size (muN 1 RS.length) (miN (4 * RS.length + 1) RP.length) (.slice pg1 RS.length cg1) (.slice pg2 RP.length cg2) x → Calls Try.prog 32 #[.agg #[.slice pg1 RS.length cg1, .slice pg2 RP.length cg2, .int .i64 C0], .int .i64 1] x fun e x' => e = .returned (.int .i64 ((RP.length : Int) + (4 * (RS.length : Int) + 1))) ∧ Below x.heap.size x x') := fun x h => by
    have h' : PolO W7.heap.size (muN 1 RS.length) (miN (4 * RS.length + 1) RP.length) (.slice pg1 (muN 1 RS.length).length cg1) (.slice pg2 (miN (4 * RS.length + 1) RP.length).length cg2) x := by rw [hN1, hN2]; exact h
    exact heldPolicyOut_any C0 pg1 pg2 cg1 cg2 RS.length RP.length x h'.read.1 h'.read.2 L1 L2 mg1 mg2
  clear z0 z1 z2 hm14 gm1 gm2 gr A14 E14 G14 OW14 OG14 oM1 oM2 hN1 hN2
  obtain ⟨z0, z1, z2⟩ := G15.out.three
  have d10 : decide ((RP.length : Int) + (4 * (RS.length : Int) + 1) < 0) = false := decide_eq_false (by omega)
  go_wp2_with fail
  refine (HM.out _ M15.out).mono ?_
  rintro e w16 ⟨rfl, b16⟩
  have A16 : Hid (Bxs w16 w.heap.size 45 #[.slice a0 ss.length cap0, .slice b0 ps.length capb]) := A15.out.below b16
  have E16 : Hid (Bxs w16 w4.heap.size 32 #[.slice pw1 RS.length cw1, .slice pw2 RP.length cw2, .int .i64 C0]) := E15.out.below b16
  have G16 : Hid (Bxs w16 w8.heap.size 32 #[.slice pg1 RS.length cg1, .slice pg2 RP.length cg2, .int .i64 C0]) := G15.out.below b16
  have OW16 : Hid (PolO w3.heap.size RS RP (.slice pw1 RS.length cw1) (.slice pw2 RP.length cw2) w16) := OW15.out.below b16
  have M16 : Hid (PolO W7.heap.size (muN 1 RS.length) (miN (4 * RS.length + 1) RP.length) (.slice pg1 RS.length cg1) (.slice pg2 RP.length cg2) w16) := M15.out.below b16
  have B16 := chainB B15 b16
  clear z0 z1 z2 b16 A15 E15 G15 OW15 M15
  obtain ⟨x0, x1⟩ := A16.out.two
  go_wp2_with fail
  refine (toPolicy_any a0 b0 cap0 capb ss ps w16 (P1.out.below B16) (P2.out.below B16) l1 l2 hcap hcap2).mono ?_
  rintro e w17 ⟨g17, g18, hg17, hg18, rfl, k17, k18, b17⟩
  have h17 := hI.out w17 _ ss.length _ ps.length k17.at k18.int (Nat.le_refl _) (Nat.le_refl _) (AdOk.new _ _ _ _) (AdOk.new _ _ _ _)
  clear x0 x1 A16
  go_wp2_with fail
  refine h17.mono ?_
  rintro e w18 ⟨vh1, vh2, rfl, oH, b18⟩
  obtain ⟨ph1, ch1, ph2, ch2, rfl, rfl, mh1, mh2⟩ := oH.form
  obtain ⟨W19, hW19⟩ : ∃ W19, W19 = w18.alloc (.cells #[.slice ph1 RS.length ch1, .slice ph2 RP.length ch2, .int .i64 C0] 32) := ⟨_, rfl⟩
  have HW19 : Hid (W19 = w18.alloc (.cells #[.slice ph1 RS.length ch1, .slice ph2 RP.length ch2, .int .i64 C0] 32)) := hW19
  have b19 : Below w18.heap.size w18 W19 := by rw [hW19]; exact (Below.refl _ _).alloc (Nat.le_refl _) _
  have b169 := chainB (chainB b17 b18) b19
  have E19 := E16.out.below b169
  have G19 : Hid (Bxs W19 w8.heap.size 32 #[.slice pg1 RS.length cg1, .slice pg2 RP.length cg2, .int .i64 C0]) := G16.out.below b169
  have OW19 := OW16.out.below b169
  have M19 : Hid (PolO W7.heap.size (muN 1 RS.length) (miN (4 * RS.length + 1) RP.length) (.slice pg1 RS.length cg1) (.slice pg2 RP.length cg2) W19) := M16.out.below b169
  have OH19 := oH.below b19
  have B19 := chainB B16 b169
  obtain ⟨y0, y1, y2⟩ := E19.three
  rw [hW19] at y0 y1 y2
  have q19 := eqPolicyOut_any C0 ph1 ph2 pw1 pw2 ch1 ch2 cw1 cw2 RS RP W19 OH19.read.1 OH19.read.2 OW19.read.1 OW19.read.2 L1 L2 mh1 mh2 mw1 mw2
  clear hW19 b17 b18 b19 b169 E16 G16 OW16 M16 oH OH19 OW19 E19 k17 k18 hg17 hg18 h17
  go_wp2_with fail
  rw [← HW19.out] at y0 y1 y2 ⊢
  refine q19.mono ?_
  rintro e w20 ⟨rfl, b20⟩
  have G20 := G19.out.below b20
  have h20 := HM.out _ (M19.out.below b20)
  have B20 := chainB B19 b20
  clear y0 y1 y2 q19 b20 G19 M19
  obtain ⟨z0, z1, z2⟩ := G20.three
  go_wp2_with fail
  refine h20.mono ?_
  rintro e w21 ⟨rfl, b21⟩
  have B21 := chainB B20 b21
  clear z0 z1 z2 h20 G20
  go_wp2_with fail
  go_ret
  exact ⟨rfl, B21⟩

set_option maxRecDepth 100000 in
theorem lifted (os : Os) (started : os.Started) (H : Type) (enc : TypeId × Value → H) :
    ReturnsInHanded {} Try.checked os 6 .any (Rows.fnExactRuleDropSpec.pre6 enc Try.prog Try.f6 Rows.fnExactRuleDropRow.domain false) (Rows.fnExactRuleDropSpec.post enc Try.prog Try.f6 false true false false) := by
  refine returnsInHanded_of_change (C := Try.checked) own started (by kernel_rfl) Try.func6
    (ChangeSpec.witness6 (enc := enc) (C := Try.checked) false ⟨#[], #[.agg #[.slice none 0 0, .slice none 0 0], .string ByteArray.empty, .string ByteArray.empty], []⟩ 8 (by kernel_rfl) (by kernel_rfl) (by kernel_rfl) (by kernel_rfl)) ?_
  intro W base args ds gs before hval0 hW hcnd _
  have hval : ∀ (j : Nat) t v, Try.f6.params[j]? = some t → args[j]? = some v → Value.okWide Try.prog W .any base t v := hval0
  have hW' := hW
  obtain ⟨p, q, hA0, hV, rfl, hfz, hnd⟩ := hW
  have hA : DataW.TrodAll enc Try.prog W 0 (fun _ => true) true Try.f6.params.toList args.toList ds p := hA0
  rw [Try.params6] at hA hval
  obtain ⟨v0, vs0, d0, ds0, p0, q0, hargs, rfl, rfl, h0, r0⟩ := trodAll_cons hA
  obtain ⟨v1, vs1, d1, ds1, p1, q1, rfl, rfl, rfl, h1, r1⟩ := trodAll_cons r0
  obtain ⟨v2, vs2, d2, ds2, p2, q2, rfl, rfl, rfl, h2, r2⟩ := trodAll_cons r1
  obtain ⟨rfl, rfl, rfl⟩ := trodAll_nil r2
  obtain rfl : args = #[v0, v1, v2] := by cases args; simp_all
  obtain ⟨rfl, rfl⟩ := trodVars_none hV
  have k0 := h0
  have lt0 : ∀ x ∈ p0, x.block < W.heap.size := by obtain ⟨m, hm⟩ := k0; exact DataW.trod_lt m _ _ _ hm
  obtain ⟨a0, len0, cap0, b0, lenb0, capb0, rfl, ⟨ss0, wa0⟩, ⟨ts0, wb0⟩⟩ := open_policy (hval 0 45 v0 rfl rfl) h0
  have w0 := And.intro wa0 wb0
  obtain ⟨a1, rfl, rfl, rfl, w1⟩ := open_string Try.underlying9 (hval 1 9 v1 rfl rfl) h1
  obtain ⟨a2, rfl, rfl, rfl, w2⟩ := open_string Try.underlying9 (hval 2 9 v2 rfl rfl) h2
  clear hA0 hval0
  simp only [List.append_nil] at hW'
  refine (walk a0 len0 cap0 ss0 b0 lenb0 capb0 ts0 a1 a2 W w0 w1 w2).mono fun e W' ⟨he, hg⟩ => ?_
  subst he
  exact ⟨_, rfl, _, _, _, [], _, [], hW', (trodAll_cons_mk (shut_bool Try.underlying4 _) trodAll_mk0), (trodAll_cons_mk (Below.trod laidOut (by kernel_rfl) (of_decide_eq_true (by kernel_rfl)) k0 hg lt0) (trodAll_cons_mk (shut_string Try.underlying9 w1) (trodAll_cons_mk (shut_string Try.underlying9 w2) trodAll_mk0))), rfl, hg.frame _, fun h => by cases h⟩

theorem over : Rows.fnExactRuleDropRow.holds Try.pinned (OpenSpec.ofChange Rows.fnExactRuleDropSpec) :=
  OpenClaim.holds_of_wide 6 Try.f6 rfl rfl rfl rfl rfl rfl rfl ⟨rfl, rfl, rfl, rfl, rfl⟩ rfl rfl rfl rfl rfl (by kernel_rfl) Try.func6 (by kernel_rfl)
    (of_decide_eq_true (by kernel_rfl)) (by unfold Func.isWrapper; first | (rw [if_pos (by decide +kernel)]; kernel_rfl) | (rw [if_neg (by decide +kernel)]; exact ⟨rfl, rfl⟩))
    (fun os started H enc _ => lifted os started H enc)

theorem proved : Rows.FnExactRuleDropSaid :=
  over
#print axioms proved
end Go.Proofs.Yteehhpmmnpajmaa.fnExactRuleDrop
