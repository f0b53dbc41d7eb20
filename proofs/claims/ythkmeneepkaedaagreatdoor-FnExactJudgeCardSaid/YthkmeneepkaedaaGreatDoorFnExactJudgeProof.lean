/-
  For every auditor, row, field and answer the law FnExactJudge returns true: the program's Judge answers as the specification's, writes into no argument and keeps nothing of one; the card ties the listed variables, errors.errorType and the two tables firstState and roundNums, to the program's text.
  Conditions: none of mine; the form's own reach; the listed variables as the program's text lays them (the given tie). The card speaks of the pruned copy of the project that the seat names.
-/
import Derived.Test.YthkmeneepkaedaaGreatDoorCards
import Derived.Test.YthkmeneepkaedaaGreatDoorTie
import Derived.Test.YthkmeneepkaedaaGreatDoorJdSaid
import Derived.Test.YthkmeneepkaedaaGreatDoorTreeMathSlASlBBxKOwnS
import Derived.Test.YthkmeneepkaedaaGreatDoorTimeBPutMathPutNumJoinedPutTextFldMath
import Derived.Test.YthkmeneepkaedaaGreatDoorFldGShwKFldHTakesAudMathLawAuOpAuFldRiseScanMath
import Derived.Test.YthkmeneepkaedaaGreatDoorLawAn
import Derived.Test.YthkmeneepkaedaaGreatDoorLogRITreeHImplRtPrfLsAnMath
import Derived.Test.YthkmeneepkaedaaGreatDoorJdMathAudS
import Derived.Test.YthkmeneepkaedaaGreatDoorJdS
import Derived.Test.YthkmeneepkaedaaGreatDoorJdI
import Derived.Test.YthkmeneepkaedaaGreatDoorJdV
import Derived.Test.YthkmeneepkaedaaGreatDoorJdW
import Derived.Test.YthkmeneepkaedaaGreatDoorLawJd
import Derived.Test.YthkmeneepkaedaaGreatDoorOpSh
import Derived.Test.YthkmeneepkaedaaGreatDoorOpAn
import Derived.Test.YthkmeneepkaedaaGreatDoorTabsOfTabEt
import Derived.WalkKit
import Derived.ProofKit
import Derived.OpenShut
import Derived.OpenVars
import Derived.ShutString
import Derived.LaidHandle
import Derived.LaidLaws
import Derived.LaidMore
import Derived.Deep.DeepHandedRow
import Derived.ChangeOld
import Derived.Below
namespace Go.Proofs.YthkmeneepkaedaaGreatDoor.fnExactJudge
open Go.ChangeShapes Go.WideShapes Go.ChangeAt Go.RowKit
open Go.ChangeMaps (open_string shut_string)
set_option linter.unusedVariables false
set_option maxRecDepth 100000

theorem own : ownKnob Tryz.prog.godebug = none := by kernel_rfl
theorem laidOut : laidOutB Tryz.prog = true := by kernel_rfl

theorem int_bd {k : Int} (h : (Lit.int .i64 k).wf = true) : -9223372036854775808 ≤ k ∧ k ≤ 9223372036854775807 := by simpa [Lit.wf, IntKind.min, IntKind.max, IntKind.signed, IntKind.bits] using h
set_option maxHeartbeats 16000000 in
theorem walk (k : ByteArray) (s : Int) (r : ByteArray) (row field : Int) (o : Ans) (p1 : Option Addr) (c1 : Nat) (p2 : Option Addr) (c2 : Nat) (p3 : Option Addr) (c3 : Nat) (p4 : Option Addr) (c4 : Nat) (w : World) (w0 : (Lit.int .i64 s).wf = true ∧ k.size ≤ maxLen ∧ r.size ≤ maxLen) (w1 : (Lit.int .i64 row).wf = true) (w2 : (Lit.int .i64 field).wf = true) (w3 : IsAns w o p1 c1 p2 c2 p3 c3 p4 c4) (hT : Tabs w) (hg : Laid w) :
    Calls Tryz.prog 5 #[.agg #[.string k, .int .i64 s, .string r], .int .i64 row, .int .i64 field, .agg #[.string o.l1, .int .i64 o.i1, .int .i64 o.s1, .slice p1 o.p1.length c1, .string o.sh.k, .int .i64 o.sh.at_, .slice p2 o.sh.ns.length c2, .slice p3 o.sh.cs.length c3, .int .i64 o.sh.ix, .string o.sh.s, .string o.sh.v, .string o.l2, .int .i64 o.i2, .int .i64 o.s2, .slice p4 o.p2.length c4]] w fun e w' => e = .returned (.bool true) ∧ Below w.heap.size w w' := by
  obtain ⟨vs, hk, hr⟩ := w0
  have HIn : Hid (∀ x, Below w.heap.size w x → AnIn o p1 c1 p2 c2 p3 c3 p4 c4 x) := fun x hb => w3.i.below hb
  have HSI : Hid (-9223372036854775808 ≤ s ∧ s ≤ 9223372036854775807) := int_bd vs
  have HW3 : Hid (IsAns w o p1 c1 p2 c2 p3 c3 p4 c4) := w3
  have HT : Hid (∀ x, Below w.heap.size w x → Tabs x ∧ Laid x) := fun x hb => ⟨hT.to hb, hg.below hb⟩
  obtain ⟨W2, hW2⟩ : ∃ W2, W2 = (w.alloc (.cells #[.string k, .int .i64 s, .string r] 46)).alloc (.cells #[.string o.l1, .int .i64 o.i1, .int .i64 o.s1, .slice p1 o.p1.length c1, .string o.sh.k, .int .i64 o.sh.at_, .slice p2 o.sh.ns.length c2, .slice p3 o.sh.cs.length c3, .int .i64 o.sh.ix, .string o.sh.s, .string o.sh.v, .string o.l2, .int .i64 o.i2, .int .i64 o.s2, .slice p4 o.p2.length c4] 50) := ⟨_, rfl⟩
  have HW2 : Hid (W2 = (w.alloc (.cells #[.string k, .int .i64 s, .string r] 46)).alloc (.cells #[.string o.l1, .int .i64 o.i1, .int .i64 o.s1, .slice p1 o.p1.length c1, .string o.sh.k, .int .i64 o.sh.at_, .slice p2 o.sh.ns.length c2, .slice p3 o.sh.cs.length c3, .int .i64 o.sh.ix, .string o.sh.s, .string o.sh.v, .string o.l2, .int .i64 o.i2, .int .i64 o.s2, .slice p4 o.p2.length c4] 50)) := hW2
  have H2 : Hid (Below w.heap.size w W2 ∧ Bxs W2 w.heap.size 46 #[.string k, .int .i64 s, .string r] ∧ Bxs W2 (w.heap.size + 1) 50 #[.string o.l1, .int .i64 o.i1, .int .i64 o.s1, .slice p1 o.p1.length c1, .string o.sh.k, .int .i64 o.sh.at_, .slice p2 o.sh.ns.length c2, .slice p3 o.sh.cs.length c3, .int .i64 o.sh.ix, .string o.sh.s, .string o.sh.v, .string o.l2, .int .i64 o.i2, .int .i64 o.s2, .slice p4 o.p2.length c4]) := by
    rw [hW2]
    have h := Bxs.new (w.alloc (.cells #[.string k, .int .i64 s, .string r] 46)) 50 #[.string o.l1, .int .i64 o.i1, .int .i64 o.s1, .slice p1 o.p1.length c1, .string o.sh.k, .int .i64 o.sh.at_, .slice p2 o.sh.ns.length c2, .slice p3 o.sh.cs.length c3, .int .i64 o.sh.ix, .string o.sh.s, .string o.sh.v, .string o.l2, .int .i64 o.i2, .int .i64 o.s2, .slice p4 o.p2.length c4]
    rw [szA] at h
    exact ⟨alB ((Below.refl _ _).alloc (Nat.le_refl _) _) _, (Bxs.new _ _ _).alloc _, h⟩
  have hSa := szAud_any k s r 1048576 (by omega) (by omega) W2 hk hr
  have HSz : Hid (∀ (l0 : Int) x, 0 ≤ l0 → l0 ≤ 1048576 → Below w.heap.size w x → Calls Tryz.prog 18 #[.agg #[.string o.l1, .int .i64 o.i1, .int .i64 o.s1, .slice p1 o.p1.length c1, .string o.sh.k, .int .i64 o.sh.at_, .slice p2 o.sh.ns.length c2, .slice p3 o.sh.cs.length c3, .int .i64 o.sh.ix, .string o.sh.s, .string o.sh.v, .string o.l2, .int .i64 o.i2, .int .i64 o.s2, .slice p4 o.p2.length c4], .int .i64 l0] x fun e w' => (∃ m : Int, e = .returned (.int .i64 m) ∧ (m = -1 ∨ (0 ≤ m ∧ m ≤ l0 ∧ o.l1.size ≤ 1048576 ∧ o.l2.size ≤ 1048576 ∧ o.p1.length ≤ 1048576 ∧ o.sh.ns.length ≤ 1048576 ∧ o.sh.cs.length ≤ 1048576 ∧ o.p2.length ≤ 1048576))) ∧ Below x.heap.size x w') := fun l0 x u v hb => by
    have h := HW3.out
    obtain ⟨e1, e2, e3, e4, e5⟩ := h.le
    have q1 := h.h1
    have q2 := h.h2
    have q3 := h.c
    have m1 := h.i.m1
    have m2 := h.i.m2
    have m3 := h.i.m3
    have m4 := h.i.m4
    have hz := h.z
    unfold maxLen at q1 q2 q3 e1 e2 e3 e4 e5 hz
    exact szAnswer_any l0 u v o p1 c1 p2 c2 p3 c3 p4 c4 x (HIn.out x hb) ⟨by omega, by omega, by omega, by omega, by omega, by omega, fun x hx => by have := hz.1 x hx; omega, by omega, fun x hx => by have := e2 x hx; omega, by omega, fun x hx => by have := e3 x hx; omega, by omega, fun x hx => by have := hz.2 x hx; omega⟩
  have HTa : Hid (∀ x, Calls Tryz.prog 20 #[.agg #[.string k, .int .i64 s, .string r]] x fun e w' => e = .returned (.agg #[.string k, .int .i64 s, .string r]) ∧ Below x.heap.size x w') := fun x => toAud_any k s r x
  clear hW2 hT hg w1 w2 w3 hk hr vs
  go_enter Tryz.func5, Tryz.ntmps5
  go_upto_region 1 with fail
  rw [← HW2.out]
  obtain ⟨q0, q1, q2⟩ := H2.out.2.1.three
  go_wp2_with fail
  refine hSa.mono ?_
  rintro e w4 ⟨⟨m, rfl, hm⟩, z⟩
  have H4 : Hid (Below w.heap.size w w4 ∧ Bxs w4 w.heap.size 46 #[.string k, .int .i64 s, .string r] ∧ Bxs w4 (w.heap.size + 1) 50 #[.string o.l1, .int .i64 o.i1, .int .i64 o.s1, .slice p1 o.p1.length c1, .string o.sh.k, .int .i64 o.sh.at_, .slice p2 o.sh.ns.length c2, .slice p3 o.sh.cs.length c3, .int .i64 o.sh.ix, .string o.sh.s, .string o.sh.v, .string o.l2, .int .i64 o.i2, .int .i64 o.s2, .slice p4 o.p2.length c4]) := ⟨chainB H2.out.1 z, H2.out.2.1.below z, H2.out.2.2.below z⟩
  clear hSa q0 q1 q2 z H2 HW2
  rcases hm with rfl | ⟨a1, a2, a3, a4⟩
  · go_wp2_with fail
    go_ret
    exact ⟨rfl, H4.out.1⟩
  have d1 : decide (m < 0) = false := decide_eq_false (by omega)
  have hSz := HSz.out m w4 a1 a2 H4.out.1
  obtain ⟨r0, r1, r2, r3, r4, r5, r6, r7, r8, r9, r10, r11, r12, r13, r14⟩ := box15 H4.out.2.2
  go_wp2_with fail
  refine hSz.mono ?_
  rintro e w5 ⟨⟨m2, rfl, hm⟩, z⟩
  have H5 : Hid (Below w.heap.size w w5 ∧ Bxs w5 w.heap.size 46 #[.string k, .int .i64 s, .string r] ∧ Bxs w5 (w.heap.size + 1) 50 #[.string o.l1, .int .i64 o.i1, .int .i64 o.s1, .slice p1 o.p1.length c1, .string o.sh.k, .int .i64 o.sh.at_, .slice p2 o.sh.ns.length c2, .slice p3 o.sh.cs.length c3, .int .i64 o.sh.ix, .string o.sh.s, .string o.sh.v, .string o.l2, .int .i64 o.i2, .int .i64 o.s2, .slice p4 o.p2.length c4]) := ⟨chainB H4.out.1 z, H4.out.2.1.below z, H4.out.2.2.below z⟩
  clear hSz r0 r1 r2 r3 r4 r5 r6 r7 r8 r9 r10 r11 r12 r13 r14 z H4 HSz d1
  rcases hm with rfl | ⟨b1, b2, b3, b4, b5, b6, b7, b8⟩
  · go_wp2_with fail
    go_ret
    exact ⟨rfl, H5.out.1⟩
  have d1 : decide (m2 < 0) = false := decide_eq_false (by omega)
  have HBd : Hid (AnBd o) := ⟨b5, b6, b7, b8, b3, b4, HW3.out.le, int_bd HW3.out.a.1, int_bd HW3.out.a.2.1, int_bd HW3.out.a.2.2.1, int_bd HW3.out.a.2.2.2⟩
  have HRt : Hid (r.size ≤ 1048576) := a4
  have HTo : Hid (∀ x, Below w.heap.size w x → Calls Tryz.prog 21 #[.agg #[.string o.l1, .int .i64 o.i1, .int .i64 o.s1, .slice p1 o.p1.length c1, .string o.sh.k, .int .i64 o.sh.at_, .slice p2 o.sh.ns.length c2, .slice p3 o.sh.cs.length c3, .int .i64 o.sh.ix, .string o.sh.s, .string o.sh.v, .string o.l2, .int .i64 o.i2, .int .i64 o.s2, .slice p4 o.p2.length c4]] x fun e w' => ∃ g1 g2 g3 g4, e = .returned (.agg #[.string o.l1, .int .i64 o.i1, .int .i64 o.s1, .slice (some ⟨g1, 0, none⟩) o.p1.length o.p1.length, .string o.sh.k, .int .i64 o.sh.at_, .slice (some ⟨g2, 0, none⟩) o.sh.ns.length o.sh.ns.length, .slice (some ⟨g3, 0, none⟩) o.sh.cs.length o.sh.cs.length, .int .i64 o.sh.ix, .string o.sh.s, .string o.sh.v, .string o.l2, .int .i64 o.i2, .int .i64 o.s2, .slice (some ⟨g4, 0, none⟩) o.p2.length o.p2.length]) ∧ AnIn o (some ⟨g1, 0, none⟩) o.p1.length (some ⟨g2, 0, none⟩) o.sh.ns.length (some ⟨g3, 0, none⟩) o.sh.cs.length (some ⟨g4, 0, none⟩) o.p2.length w' ∧ Below x.heap.size x w') := fun x hb => toAnswer_any o p1 c1 p2 c2 p3 c3 p4 c4 x (HIn.out x hb) ⟨HBd.out.z1, HBd.out.z2, HBd.out.z3, HBd.out.z4⟩
  obtain ⟨V, hV⟩ : ∃ V, V = jdV k s r row field o := ⟨_, rfl⟩
  have HS : Hid (∀ g1 g2 g3 g4 x, AnIn o (some ⟨g1, 0, none⟩) o.p1.length (some ⟨g2, 0, none⟩) o.sh.ns.length (some ⟨g3, 0, none⟩) o.sh.cs.length (some ⟨g4, 0, none⟩) o.p2.length x → Calls Tryz.prog 19 #[.agg #[.string k, .int .i64 s, .string r], .int .i64 row, .int .i64 field, .agg #[.string o.l1, .int .i64 o.i1, .int .i64 o.s1, .slice (some ⟨g1, 0, none⟩) o.p1.length o.p1.length, .string o.sh.k, .int .i64 o.sh.at_, .slice (some ⟨g2, 0, none⟩) o.sh.ns.length o.sh.ns.length, .slice (some ⟨g3, 0, none⟩) o.sh.cs.length o.sh.cs.length, .int .i64 o.sh.ix, .string o.sh.s, .string o.sh.v, .string o.l2, .int .i64 o.i2, .int .i64 o.s2, .slice (some ⟨g4, 0, none⟩) o.p2.length o.p2.length]] x fun e w' => e = .returned (.int .i64 V) ∧ Below x.heap.size x w') := fun g1 g2 g3 g4 x h => by rw [hV]; exact specJudge_any k s r row field o (some ⟨g1, 0, none⟩) o.p1.length (some ⟨g2, 0, none⟩) o.sh.ns.length (some ⟨g3, 0, none⟩) o.sh.cs.length (some ⟨g4, 0, none⟩) o.p2.length x h HBd.out HRt.out
  have HI : Hid (∀ g1 g2 g3 g4 x, Below w.heap.size w x → AnIn o (some ⟨g1, 0, none⟩) o.p1.length (some ⟨g2, 0, none⟩) o.sh.ns.length (some ⟨g3, 0, none⟩) o.sh.cs.length (some ⟨g4, 0, none⟩) o.p2.length x → Calls Tryz.prog 22 #[.agg #[.string k, .int .i64 s, .string r], .int .i64 row, .int .i64 field, .agg #[.string o.l1, .int .i64 o.i1, .int .i64 o.s1, .slice (some ⟨g1, 0, none⟩) o.p1.length o.p1.length, .string o.sh.k, .int .i64 o.sh.at_, .slice (some ⟨g2, 0, none⟩) o.sh.ns.length o.sh.ns.length, .slice (some ⟨g3, 0, none⟩) o.sh.cs.length o.sh.cs.length, .int .i64 o.sh.ix, .string o.sh.s, .string o.sh.v, .string o.l2, .int .i64 o.i2, .int .i64 o.s2, .slice (some ⟨g4, 0, none⟩) o.p2.length o.p2.length]] x fun e w' => e = .returned (.int .i64 V) ∧ Below x.heap.size x w') := fun g1 g2 g3 g4 x hb h => by rw [hV]; exact implJudge_any k s r row field o (some ⟨g1, 0, none⟩) o.p1.length (some ⟨g2, 0, none⟩) o.sh.ns.length (some ⟨g3, 0, none⟩) o.sh.cs.length (some ⟨g4, 0, none⟩) o.p2.length x (HT.out x hb).1 (HT.out x hb).2 HSI.out h HBd.out HRt.out
  have HEq : Hid (∀ g1 g2 g3 g4 h1 h2 h3 h4 x, AnIn o (some ⟨g1, 0, none⟩) o.p1.length (some ⟨g2, 0, none⟩) o.sh.ns.length (some ⟨g3, 0, none⟩) o.sh.cs.length (some ⟨g4, 0, none⟩) o.p2.length x → AnIn o (some ⟨h1, 0, none⟩) o.p1.length (some ⟨h2, 0, none⟩) o.sh.ns.length (some ⟨h3, 0, none⟩) o.sh.cs.length (some ⟨h4, 0, none⟩) o.p2.length x → Calls Tryz.prog 13 #[.agg #[.string o.l1, .int .i64 o.i1, .int .i64 o.s1, .slice (some ⟨g1, 0, none⟩) o.p1.length o.p1.length, .string o.sh.k, .int .i64 o.sh.at_, .slice (some ⟨g2, 0, none⟩) o.sh.ns.length o.sh.ns.length, .slice (some ⟨g3, 0, none⟩) o.sh.cs.length o.sh.cs.length, .int .i64 o.sh.ix, .string o.sh.s, .string o.sh.v, .string o.l2, .int .i64 o.i2, .int .i64 o.s2, .slice (some ⟨g4, 0, none⟩) o.p2.length o.p2.length], .agg #[.string o.l1, .int .i64 o.i1, .int .i64 o.s1, .slice (some ⟨h1, 0, none⟩) o.p1.length o.p1.length, .string o.sh.k, .int .i64 o.sh.at_, .slice (some ⟨h2, 0, none⟩) o.sh.ns.length o.sh.ns.length, .slice (some ⟨h3, 0, none⟩) o.sh.cs.length o.sh.cs.length, .int .i64 o.sh.ix, .string o.sh.s, .string o.sh.v, .string o.l2, .int .i64 o.i2, .int .i64 o.s2, .slice (some ⟨h4, 0, none⟩) o.p2.length o.p2.length]] x fun e w' => e = .returned (.bool true) ∧ Below x.heap.size x w') := fun g1 g2 g3 g4 h1 h2 h3 h4 x u v => eqAnswerI_any o _ _ _ _ _ _ _ _ _ _ _ _ _ _ _ _ x u v ⟨HBd.out.z1, HBd.out.z2, HBd.out.z3, HBd.out.z4⟩
  clear hV a1 a2 a3 a4 b1 b2 b3 b4 b5 b6 b7 b8 HT HSI HIn HW3 HBd HRt
  have HX : Hid (∀ x, Below w5.heap.size w5 x → (x.cell? ⟨w.heap.size, 0, none⟩ = some (.string k) ∧ x.cell? ⟨w.heap.size, 1, none⟩ = some (.int .i64 s) ∧ x.cell? ⟨w.heap.size, 2, none⟩ = some (.string r)) ∧ (x.cell? ⟨w.heap.size + 1, 0, none⟩ = some (.string o.l1) ∧ x.cell? ⟨w.heap.size + 1, 1, none⟩ = some (.int .i64 o.i1) ∧ x.cell? ⟨w.heap.size + 1, 2, none⟩ = some (.int .i64 o.s1) ∧ x.cell? ⟨w.heap.size + 1, 3, none⟩ = some (.slice p1 o.p1.length c1) ∧ x.cell? ⟨w.heap.size + 1, 4, none⟩ = some (.string o.sh.k) ∧ x.cell? ⟨w.heap.size + 1, 5, none⟩ = some (.int .i64 o.sh.at_) ∧ x.cell? ⟨w.heap.size + 1, 6, none⟩ = some (.slice p2 o.sh.ns.length c2) ∧ x.cell? ⟨w.heap.size + 1, 7, none⟩ = some (.slice p3 o.sh.cs.length c3) ∧ x.cell? ⟨w.heap.size + 1, 8, none⟩ = some (.int .i64 o.sh.ix) ∧ x.cell? ⟨w.heap.size + 1, 9, none⟩ = some (.string o.sh.s) ∧ x.cell? ⟨w.heap.size + 1, 10, none⟩ = some (.string o.sh.v) ∧ x.cell? ⟨w.heap.size + 1, 11, none⟩ = some (.string o.l2) ∧ x.cell? ⟨w.heap.size + 1, 12, none⟩ = some (.int .i64 o.i2) ∧ x.cell? ⟨w.heap.size + 1, 13, none⟩ = some (.int .i64 o.s2) ∧ x.cell? ⟨w.heap.size + 1, 14, none⟩ = some (.slice p4 o.p2.length c4))) := fun x hb => ⟨(H5.out.2.1.below hb).three, box15 (H5.out.2.2.below hb)⟩
  have BR : Hid (Below w5.heap.size w5 w5.drew) := (Below.refl _ _).drew
  go_upto_region 8 with fail
  refine wp_region_held_drew (S := fun w' => (w'.cell? ⟨w.heap.size, 0, none⟩ = some (.string k) ∧ w'.cell? ⟨w.heap.size, 1, none⟩ = some (.int .i64 s) ∧ w'.cell? ⟨w.heap.size, 2, none⟩ = some (.string r)) ∧ (w'.cell? ⟨w.heap.size + 1, 0, none⟩ = some (.string o.l1) ∧ w'.cell? ⟨w.heap.size + 1, 1, none⟩ = some (.int .i64 o.i1) ∧ w'.cell? ⟨w.heap.size + 1, 2, none⟩ = some (.int .i64 o.s1) ∧ w'.cell? ⟨w.heap.size + 1, 3, none⟩ = some (.slice p1 o.p1.length c1) ∧ w'.cell? ⟨w.heap.size + 1, 4, none⟩ = some (.string o.sh.k) ∧ w'.cell? ⟨w.heap.size + 1, 5, none⟩ = some (.int .i64 o.sh.at_) ∧ w'.cell? ⟨w.heap.size + 1, 6, none⟩ = some (.slice p2 o.sh.ns.length c2) ∧ w'.cell? ⟨w.heap.size + 1, 7, none⟩ = some (.slice p3 o.sh.cs.length c3) ∧ w'.cell? ⟨w.heap.size + 1, 8, none⟩ = some (.int .i64 o.sh.ix) ∧ w'.cell? ⟨w.heap.size + 1, 9, none⟩ = some (.string o.sh.s) ∧ w'.cell? ⟨w.heap.size + 1, 10, none⟩ = some (.string o.sh.v) ∧ w'.cell? ⟨w.heap.size + 1, 11, none⟩ = some (.string o.l2) ∧ w'.cell? ⟨w.heap.size + 1, 12, none⟩ = some (.int .i64 o.i2) ∧ w'.cell? ⟨w.heap.size + 1, 13, none⟩ = some (.int .i64 o.s2) ∧ w'.cell? ⟨w.heap.size + 1, 14, none⟩ = some (.slice p4 o.p2.length c4))) (by kernel_rfl) (HX.out _ BR.out) (fun hHeld => ?_)
  refine take_at 0 (v := ?_) rfl (by kernel_rfl) (by kernel_rfl) (by kernel_rfl) (fun _ _ _ h => h) hHeld (Or.inl ⟨by rfl, ?_⟩) ?_
  rotate_left
  · (intro w hSw; (try dsimp only at hSw); go_simp; try with_reducible rfl)
  simp only [Act.put, List.setIfInBounds_toArray, List.set_cons_zero, List.set_cons_succ]
  refine take_at 2 (v := ?_) rfl (by kernel_rfl) (by kernel_rfl) (by kernel_rfl) (fun _ _ _ h => h) hHeld (Or.inl ⟨by rfl, ?_⟩) ?_
  rotate_left
  · (intro w hSw; (try dsimp only at hSw); go_simp; try with_reducible rfl)
  simp only [Act.put, List.setIfInBounds_toArray, List.set_cons_zero, List.set_cons_succ]
  refine take_at 3 (v := ?_) rfl (by kernel_rfl) (by kernel_rfl) (by kernel_rfl) (fun _ _ _ h => h) hHeld (Or.inl ⟨by rfl, ?_⟩) ?_
  rotate_left
  · (intro w hSw; (try dsimp only at hSw); go_simp; try with_reducible rfl)
  simp only [Act.put, List.setIfInBounds_toArray, List.set_cons_zero, List.set_cons_succ]
  refine take_at 4 (v := ?_) rfl (by kernel_rfl) (by kernel_rfl) (by kernel_rfl) (fun _ _ _ h => h) hHeld (Or.inl ⟨by rfl, ?_⟩) ?_
  rotate_left
  · (intro w hSw; (try dsimp only at hSw); go_simp; try with_reducible rfl)
  simp only [Act.put, List.setIfInBounds_toArray, List.set_cons_zero, List.set_cons_succ]
  refine ready_at 1 rfl (by kernel_rfl) (fun K hK => ?_)
  go_simp
  (go_at_call 20; refine (HTa.out _).mono ?_; rintro e t1 ⟨rfl, z1⟩; have q1 : Below w5.heap.size w5 t1 := chainB BR.out z1)
  refine hK.out _ _ (HX.out _ q1) (fun hHeld => ?_)
  clear hK K
  try simp only [Act.put, List.setIfInBounds_toArray, List.set_cons_zero, List.set_cons_succ]
  refine ready_at 5 rfl (by kernel_rfl) (fun K hK => ?_)
  go_simp
  (go_at_call 21; refine (HTo.out _ (chainB H5.out.1 q1)).mono ?_; rintro e t2 ⟨g1, g2, g3, g4, rfl, jn, z2⟩; have q2 : Below w5.heap.size w5 t2 := chainB q1 z2)
  refine hK.out _ _ (HX.out _ q2) (fun hHeld => ?_)
  clear hK K
  try simp only [Act.put, List.setIfInBounds_toArray, List.set_cons_zero, List.set_cons_succ]
  refine ready_at 6 rfl (by kernel_rfl) (fun K hK => ?_)
  go_simp
  (go_at_call 19; refine (HS.out g1 g2 g3 g4 _ jn).mono ?_; rintro e t3 ⟨rfl, z3⟩; have q3 : Below w5.heap.size w5 t3 := chainB q2 z3)
  refine hK.out _ _ (HX.out _ q3) (fun hHeld => ?_)
  clear hK K
  try simp only [Act.put, List.setIfInBounds_toArray, List.set_cons_zero, List.set_cons_succ]
  refine take_at 7 (v := ?_) rfl (by kernel_rfl) (by kernel_rfl) (by kernel_rfl) (fun _ _ _ h => h) hHeld (Or.inl ⟨by rfl, ?_⟩) ?_
  rotate_left
  · (intro w hSw; (try dsimp only at hSw); go_simp; try with_reducible rfl)
  simp only [Act.put, List.setIfInBounds_toArray, List.set_cons_zero, List.set_cons_succ]
  refine wpAnyH_done (by kernel_rfl) ?_ _
  have H9 : Hid (Below w.heap.size w t3 ∧ Bxs t3 w.heap.size 46 #[.string k, .int .i64 s, .string r] ∧ Bxs t3 (w.heap.size + 1) 50 #[.string o.l1, .int .i64 o.i1, .int .i64 o.s1, .slice p1 o.p1.length c1, .string o.sh.k, .int .i64 o.sh.at_, .slice p2 o.sh.ns.length c2, .slice p3 o.sh.cs.length c3, .int .i64 o.sh.ix, .string o.sh.s, .string o.sh.v, .string o.l2, .int .i64 o.i2, .int .i64 o.s2, .slice p4 o.p2.length c4]) := ⟨chainB H5.out.1 q3, H5.out.2.1.below q3, H5.out.2.2.below q3⟩
  clear q1 q2 q3 jn HX BR H5 HS z1 z2 z3
  obtain ⟨r0, r1, r2, r3, r4, r5, r6, r7, r8, r9, r10, r11, r12, r13, r14⟩ := box15 H9.out.2.2
  have hTo := HTo.out t3 H9.out.1
  go_wp2_with fail
  refine hTo.mono ?_
  rintro e w6 ⟨g1, g2, g3, g4, rfl, ji, z⟩
  have hal : Below w6.heap.size w6 (w6.alloc (.cells #[.string o.l1, .int .i64 o.i1, .int .i64 o.s1, .slice (some ⟨g1, 0, none⟩) o.p1.length o.p1.length, .string o.sh.k, .int .i64 o.sh.at_, .slice (some ⟨g2, 0, none⟩) o.sh.ns.length o.sh.ns.length, .slice (some ⟨g3, 0, none⟩) o.sh.cs.length o.sh.cs.length, .int .i64 o.sh.ix, .string o.sh.s, .string o.sh.v, .string o.l2, .int .i64 o.i2, .int .i64 o.s2, .slice (some ⟨g4, 0, none⟩) o.p2.length o.p2.length] 39)) := (Below.refl _ _).alloc (Nat.le_refl _) _
  have b69 := chainB z hal
  have H10 : Hid (Below w.heap.size w (w6.alloc (.cells #[.string o.l1, .int .i64 o.i1, .int .i64 o.s1, .slice (some ⟨g1, 0, none⟩) o.p1.length o.p1.length, .string o.sh.k, .int .i64 o.sh.at_, .slice (some ⟨g2, 0, none⟩) o.sh.ns.length o.sh.ns.length, .slice (some ⟨g3, 0, none⟩) o.sh.cs.length o.sh.cs.length, .int .i64 o.sh.ix, .string o.sh.s, .string o.sh.v, .string o.l2, .int .i64 o.i2, .int .i64 o.s2, .slice (some ⟨g4, 0, none⟩) o.p2.length o.p2.length] 39)) ∧ Bxs (w6.alloc (.cells #[.string o.l1, .int .i64 o.i1, .int .i64 o.s1, .slice (some ⟨g1, 0, none⟩) o.p1.length o.p1.length, .string o.sh.k, .int .i64 o.sh.at_, .slice (some ⟨g2, 0, none⟩) o.sh.ns.length o.sh.ns.length, .slice (some ⟨g3, 0, none⟩) o.sh.cs.length o.sh.cs.length, .int .i64 o.sh.ix, .string o.sh.s, .string o.sh.v, .string o.l2, .int .i64 o.i2, .int .i64 o.s2, .slice (some ⟨g4, 0, none⟩) o.p2.length o.p2.length] 39)) w.heap.size 46 #[.string k, .int .i64 s, .string r] ∧ Bxs (w6.alloc (.cells #[.string o.l1, .int .i64 o.i1, .int .i64 o.s1, .slice (some ⟨g1, 0, none⟩) o.p1.length o.p1.length, .string o.sh.k, .int .i64 o.sh.at_, .slice (some ⟨g2, 0, none⟩) o.sh.ns.length o.sh.ns.length, .slice (some ⟨g3, 0, none⟩) o.sh.cs.length o.sh.cs.length, .int .i64 o.sh.ix, .string o.sh.s, .string o.sh.v, .string o.l2, .int .i64 o.i2, .int .i64 o.s2, .slice (some ⟨g4, 0, none⟩) o.p2.length o.p2.length] 39)) (w.heap.size + 1) 50 #[.string o.l1, .int .i64 o.i1, .int .i64 o.s1, .slice p1 o.p1.length c1, .string o.sh.k, .int .i64 o.sh.at_, .slice p2 o.sh.ns.length c2, .slice p3 o.sh.cs.length c3, .int .i64 o.sh.ix, .string o.sh.s, .string o.sh.v, .string o.l2, .int .i64 o.i2, .int .i64 o.s2, .slice p4 o.p2.length c4]) := ⟨chainB H9.out.1 b69, H9.out.2.1.below b69, H9.out.2.2.below b69⟩
  have K10 : Hid (Bxs (w6.alloc (.cells #[.string o.l1, .int .i64 o.i1, .int .i64 o.s1, .slice (some ⟨g1, 0, none⟩) o.p1.length o.p1.length, .string o.sh.k, .int .i64 o.sh.at_, .slice (some ⟨g2, 0, none⟩) o.sh.ns.length o.sh.ns.length, .slice (some ⟨g3, 0, none⟩) o.sh.cs.length o.sh.cs.length, .int .i64 o.sh.ix, .string o.sh.s, .string o.sh.v, .string o.l2, .int .i64 o.i2, .int .i64 o.s2, .slice (some ⟨g4, 0, none⟩) o.p2.length o.p2.length] 39)) w6.heap.size 39 #[.string o.l1, .int .i64 o.i1, .int .i64 o.s1, .slice (some ⟨g1, 0, none⟩) o.p1.length o.p1.length, .string o.sh.k, .int .i64 o.sh.at_, .slice (some ⟨g2, 0, none⟩) o.sh.ns.length o.sh.ns.length, .slice (some ⟨g3, 0, none⟩) o.sh.cs.length o.sh.cs.length, .int .i64 o.sh.ix, .string o.sh.s, .string o.sh.v, .string o.l2, .int .i64 o.i2, .int .i64 o.s2, .slice (some ⟨g4, 0, none⟩) o.p2.length o.p2.length]) := Bxs.new _ _ _
  have J10 : Hid (AnIn o (some ⟨g1, 0, none⟩) o.p1.length (some ⟨g2, 0, none⟩) o.sh.ns.length (some ⟨g3, 0, none⟩) o.sh.cs.length (some ⟨g4, 0, none⟩) o.p2.length (w6.alloc (.cells #[.string o.l1, .int .i64 o.i1, .int .i64 o.s1, .slice (some ⟨g1, 0, none⟩) o.p1.length o.p1.length, .string o.sh.k, .int .i64 o.sh.at_, .slice (some ⟨g2, 0, none⟩) o.sh.ns.length o.sh.ns.length, .slice (some ⟨g3, 0, none⟩) o.sh.cs.length o.sh.cs.length, .int .i64 o.sh.ix, .string o.sh.s, .string o.sh.v, .string o.l2, .int .i64 o.i2, .int .i64 o.s2, .slice (some ⟨g4, 0, none⟩) o.p2.length o.p2.length] 39))) := ji.below hal
  clear hTo r0 r1 r2 r3 r4 r5 r6 r7 r8 r9 r10 r11 r12 r13 r14 z hal b69 ji H9
  go_upto_region 10 with fail
  generalize w6.heap.size = E at *
  generalize w6.alloc (.cells #[.string o.l1, .int .i64 o.i1, .int .i64 o.s1, .slice (some ⟨g1, 0, none⟩) o.p1.length o.p1.length, .string o.sh.k, .int .i64 o.sh.at_, .slice (some ⟨g2, 0, none⟩) o.sh.ns.length o.sh.ns.length, .slice (some ⟨g3, 0, none⟩) o.sh.cs.length o.sh.cs.length, .int .i64 o.sh.ix, .string o.sh.s, .string o.sh.v, .string o.l2, .int .i64 o.i2, .int .i64 o.s2, .slice (some ⟨g4, 0, none⟩) o.p2.length o.p2.length] 39) = w7 at *
  have HX : Hid (∀ x, Below w7.heap.size w7 x → (x.cell? ⟨w.heap.size, 0, none⟩ = some (.string k) ∧ x.cell? ⟨w.heap.size, 1, none⟩ = some (.int .i64 s) ∧ x.cell? ⟨w.heap.size, 2, none⟩ = some (.string r)) ∧ (x.cell? ⟨w.heap.size + 1, 0, none⟩ = some (.string o.l1) ∧ x.cell? ⟨w.heap.size + 1, 1, none⟩ = some (.int .i64 o.i1) ∧ x.cell? ⟨w.heap.size + 1, 2, none⟩ = some (.int .i64 o.s1) ∧ x.cell? ⟨w.heap.size + 1, 3, none⟩ = some (.slice p1 o.p1.length c1) ∧ x.cell? ⟨w.heap.size + 1, 4, none⟩ = some (.string o.sh.k) ∧ x.cell? ⟨w.heap.size + 1, 5, none⟩ = some (.int .i64 o.sh.at_) ∧ x.cell? ⟨w.heap.size + 1, 6, none⟩ = some (.slice p2 o.sh.ns.length c2) ∧ x.cell? ⟨w.heap.size + 1, 7, none⟩ = some (.slice p3 o.sh.cs.length c3) ∧ x.cell? ⟨w.heap.size + 1, 8, none⟩ = some (.int .i64 o.sh.ix) ∧ x.cell? ⟨w.heap.size + 1, 9, none⟩ = some (.string o.sh.s) ∧ x.cell? ⟨w.heap.size + 1, 10, none⟩ = some (.string o.sh.v) ∧ x.cell? ⟨w.heap.size + 1, 11, none⟩ = some (.string o.l2) ∧ x.cell? ⟨w.heap.size + 1, 12, none⟩ = some (.int .i64 o.i2) ∧ x.cell? ⟨w.heap.size + 1, 13, none⟩ = some (.int .i64 o.s2) ∧ x.cell? ⟨w.heap.size + 1, 14, none⟩ = some (.slice p4 o.p2.length c4)) ∧ (x.cell? ⟨E, 0, none⟩ = some (.string o.l1) ∧ x.cell? ⟨E, 1, none⟩ = some (.int .i64 o.i1) ∧ x.cell? ⟨E, 2, none⟩ = some (.int .i64 o.s1) ∧ x.cell? ⟨E, 3, none⟩ = some (.slice (some ⟨g1, 0, none⟩) o.p1.length o.p1.length) ∧ x.cell? ⟨E, 4, none⟩ = some (.string o.sh.k) ∧ x.cell? ⟨E, 5, none⟩ = some (.int .i64 o.sh.at_) ∧ x.cell? ⟨E, 6, none⟩ = some (.slice (some ⟨g2, 0, none⟩) o.sh.ns.length o.sh.ns.length) ∧ x.cell? ⟨E, 7, none⟩ = some (.slice (some ⟨g3, 0, none⟩) o.sh.cs.length o.sh.cs.length) ∧ x.cell? ⟨E, 8, none⟩ = some (.int .i64 o.sh.ix) ∧ x.cell? ⟨E, 9, none⟩ = some (.string o.sh.s) ∧ x.cell? ⟨E, 10, none⟩ = some (.string o.sh.v) ∧ x.cell? ⟨E, 11, none⟩ = some (.string o.l2) ∧ x.cell? ⟨E, 12, none⟩ = some (.int .i64 o.i2) ∧ x.cell? ⟨E, 13, none⟩ = some (.int .i64 o.s2) ∧ x.cell? ⟨E, 14, none⟩ = some (.slice (some ⟨g4, 0, none⟩) o.p2.length o.p2.length))) := fun x hb => ⟨(H10.out.2.1.below hb).three, box15 (H10.out.2.2.below hb), box15 (K10.out.below hb)⟩
  have BR : Hid (Below w7.heap.size w7 w7.drew) := (Below.refl _ _).drew
  refine wp_region_held_drew (S := fun w' => (w'.cell? ⟨w.heap.size, 0, none⟩ = some (.string k) ∧ w'.cell? ⟨w.heap.size, 1, none⟩ = some (.int .i64 s) ∧ w'.cell? ⟨w.heap.size, 2, none⟩ = some (.string r)) ∧ (w'.cell? ⟨w.heap.size + 1, 0, none⟩ = some (.string o.l1) ∧ w'.cell? ⟨w.heap.size + 1, 1, none⟩ = some (.int .i64 o.i1) ∧ w'.cell? ⟨w.heap.size + 1, 2, none⟩ = some (.int .i64 o.s1) ∧ w'.cell? ⟨w.heap.size + 1, 3, none⟩ = some (.slice p1 o.p1.length c1) ∧ w'.cell? ⟨w.heap.size + 1, 4, none⟩ = some (.string o.sh.k) ∧ w'.cell? ⟨w.heap.size + 1, 5, none⟩ = some (.int .i64 o.sh.at_) ∧ w'.cell? ⟨w.heap.size + 1, 6, none⟩ = some (.slice p2 o.sh.ns.length c2) ∧ w'.cell? ⟨w.heap.size + 1, 7, none⟩ = some (.slice p3 o.sh.cs.length c3) ∧ w'.cell? ⟨w.heap.size + 1, 8, none⟩ = some (.int .i64 o.sh.ix) ∧ w'.cell? ⟨w.heap.size + 1, 9, none⟩ = some (.string o.sh.s) ∧ w'.cell? ⟨w.heap.size + 1, 10, none⟩ = some (.string o.sh.v) ∧ w'.cell? ⟨w.heap.size + 1, 11, none⟩ = some (.string o.l2) ∧ w'.cell? ⟨w.heap.size + 1, 12, none⟩ = some (.int .i64 o.i2) ∧ w'.cell? ⟨w.heap.size + 1, 13, none⟩ = some (.int .i64 o.s2) ∧ w'.cell? ⟨w.heap.size + 1, 14, none⟩ = some (.slice p4 o.p2.length c4)) ∧ (w'.cell? ⟨E, 0, none⟩ = some (.string o.l1) ∧ w'.cell? ⟨E, 1, none⟩ = some (.int .i64 o.i1) ∧ w'.cell? ⟨E, 2, none⟩ = some (.int .i64 o.s1) ∧ w'.cell? ⟨E, 3, none⟩ = some (.slice (some ⟨g1, 0, none⟩) o.p1.length o.p1.length) ∧ w'.cell? ⟨E, 4, none⟩ = some (.string o.sh.k) ∧ w'.cell? ⟨E, 5, none⟩ = some (.int .i64 o.sh.at_) ∧ w'.cell? ⟨E, 6, none⟩ = some (.slice (some ⟨g2, 0, none⟩) o.sh.ns.length o.sh.ns.length) ∧ w'.cell? ⟨E, 7, none⟩ = some (.slice (some ⟨g3, 0, none⟩) o.sh.cs.length o.sh.cs.length) ∧ w'.cell? ⟨E, 8, none⟩ = some (.int .i64 o.sh.ix) ∧ w'.cell? ⟨E, 9, none⟩ = some (.string o.sh.s) ∧ w'.cell? ⟨E, 10, none⟩ = some (.string o.sh.v) ∧ w'.cell? ⟨E, 11, none⟩ = some (.string o.l2) ∧ w'.cell? ⟨E, 12, none⟩ = some (.int .i64 o.i2) ∧ w'.cell? ⟨E, 13, none⟩ = some (.int .i64 o.s2) ∧ w'.cell? ⟨E, 14, none⟩ = some (.slice (some ⟨g4, 0, none⟩) o.p2.length o.p2.length))) (by kernel_rfl) (HX.out _ BR.out) (fun hHeld => ?_)
  refine take_at 0 (v := ?_) rfl (by kernel_rfl) (by kernel_rfl) (by kernel_rfl) (fun _ _ _ h => h) hHeld (Or.inl ⟨by rfl, ?_⟩) ?_
  rotate_left
  · (intro w hSw; (try dsimp only at hSw); go_simp; try with_reducible rfl)
  simp only [Act.put, List.setIfInBounds_toArray, List.set_cons_zero, List.set_cons_succ]
  refine take_at 2 (v := ?_) rfl (by kernel_rfl) (by kernel_rfl) (by kernel_rfl) (fun _ _ _ h => h) hHeld (Or.inl ⟨by rfl, ?_⟩) ?_
  rotate_left
  · (intro w hSw; (try dsimp only at hSw); go_simp; try with_reducible rfl)
  simp only [Act.put, List.setIfInBounds_toArray, List.set_cons_zero, List.set_cons_succ]
  refine take_at 3 (v := ?_) rfl (by kernel_rfl) (by kernel_rfl) (by kernel_rfl) (fun _ _ _ h => h) hHeld (Or.inl ⟨by rfl, ?_⟩) ?_
  rotate_left
  · (intro w hSw; (try dsimp only at hSw); go_simp; try with_reducible rfl)
  simp only [Act.put, List.setIfInBounds_toArray, List.set_cons_zero, List.set_cons_succ]
  refine take_at 4 (v := ?_) rfl (by kernel_rfl) (by kernel_rfl) (by kernel_rfl) (fun _ _ _ h => h) hHeld (Or.inl ⟨by rfl, ?_⟩) ?_
  rotate_left
  · (intro w hSw; (try dsimp only at hSw); go_simp; try with_reducible rfl)
  simp only [Act.put, List.setIfInBounds_toArray, List.set_cons_zero, List.set_cons_succ]
  refine ready_at 1 rfl (by kernel_rfl) (fun K hK => ?_)
  go_simp
  (go_at_call 20; refine (HTa.out _).mono ?_; rintro e t1 ⟨rfl, z1⟩; have q1 : Below w7.heap.size w7 t1 := chainB BR.out z1)
  refine hK.out _ _ (HX.out _ q1) (fun hHeld => ?_)
  clear hK K
  try simp only [Act.put, List.setIfInBounds_toArray, List.set_cons_zero, List.set_cons_succ]
  refine ready_at 5 rfl (by kernel_rfl) (fun K hK => ?_)
  go_simp
  (go_at_call 22; refine (HI.out g1 g2 g3 g4 _ (chainB H10.out.1 q1) (J10.out.below q1)).mono ?_; rintro e t2 ⟨rfl, z2⟩; have q2 : Below w7.heap.size w7 t2 := chainB q1 z2)
  refine hK.out _ _ (HX.out _ q2) (fun hHeld => ?_)
  clear hK K
  try simp only [Act.put, List.setIfInBounds_toArray, List.set_cons_zero, List.set_cons_succ]
  refine take_at 6 (v := ?_) rfl (by kernel_rfl) (by kernel_rfl) (by kernel_rfl) (fun _ _ _ h => h) hHeld (Or.inl ⟨by rfl, ?_⟩) ?_
  rotate_left
  · (intro w hSw; (try dsimp only at hSw); go_simp; try with_reducible rfl)
  simp only [Act.put, List.setIfInBounds_toArray, List.set_cons_zero, List.set_cons_succ]
  refine wpAnyH_done (by kernel_rfl) ?_ _
  have H11 : Hid (Below w.heap.size w t2 ∧ Bxs t2 w.heap.size 46 #[.string k, .int .i64 s, .string r] ∧ Bxs t2 (w.heap.size + 1) 50 #[.string o.l1, .int .i64 o.i1, .int .i64 o.s1, .slice p1 o.p1.length c1, .string o.sh.k, .int .i64 o.sh.at_, .slice p2 o.sh.ns.length c2, .slice p3 o.sh.cs.length c3, .int .i64 o.sh.ix, .string o.sh.s, .string o.sh.v, .string o.l2, .int .i64 o.i2, .int .i64 o.s2, .slice p4 o.p2.length c4]) := ⟨chainB H10.out.1 q2, H10.out.2.1.below q2, H10.out.2.2.below q2⟩
  have K11 : Hid (Bxs t2 E 39 #[.string o.l1, .int .i64 o.i1, .int .i64 o.s1, .slice (some ⟨g1, 0, none⟩) o.p1.length o.p1.length, .string o.sh.k, .int .i64 o.sh.at_, .slice (some ⟨g2, 0, none⟩) o.sh.ns.length o.sh.ns.length, .slice (some ⟨g3, 0, none⟩) o.sh.cs.length o.sh.cs.length, .int .i64 o.sh.ix, .string o.sh.s, .string o.sh.v, .string o.l2, .int .i64 o.i2, .int .i64 o.s2, .slice (some ⟨g4, 0, none⟩) o.p2.length o.p2.length]) := K10.out.below q2
  have J11 : Hid (AnIn o (some ⟨g1, 0, none⟩) o.p1.length (some ⟨g2, 0, none⟩) o.sh.ns.length (some ⟨g3, 0, none⟩) o.sh.cs.length (some ⟨g4, 0, none⟩) o.p2.length t2) := J10.out.below q2
  clear q1 q2 HX BR H10 K10 J10 HI z1 z2
  have dv : (V != V) = false := by simp
  go_upto_region 13 with fail
  have HX : Hid (∀ x, Below t2.heap.size t2 x → (x.cell? ⟨w.heap.size, 0, none⟩ = some (.string k) ∧ x.cell? ⟨w.heap.size, 1, none⟩ = some (.int .i64 s) ∧ x.cell? ⟨w.heap.size, 2, none⟩ = some (.string r)) ∧ (x.cell? ⟨w.heap.size + 1, 0, none⟩ = some (.string o.l1) ∧ x.cell? ⟨w.heap.size + 1, 1, none⟩ = some (.int .i64 o.i1) ∧ x.cell? ⟨w.heap.size + 1, 2, none⟩ = some (.int .i64 o.s1) ∧ x.cell? ⟨w.heap.size + 1, 3, none⟩ = some (.slice p1 o.p1.length c1) ∧ x.cell? ⟨w.heap.size + 1, 4, none⟩ = some (.string o.sh.k) ∧ x.cell? ⟨w.heap.size + 1, 5, none⟩ = some (.int .i64 o.sh.at_) ∧ x.cell? ⟨w.heap.size + 1, 6, none⟩ = some (.slice p2 o.sh.ns.length c2) ∧ x.cell? ⟨w.heap.size + 1, 7, none⟩ = some (.slice p3 o.sh.cs.length c3) ∧ x.cell? ⟨w.heap.size + 1, 8, none⟩ = some (.int .i64 o.sh.ix) ∧ x.cell? ⟨w.heap.size + 1, 9, none⟩ = some (.string o.sh.s) ∧ x.cell? ⟨w.heap.size + 1, 10, none⟩ = some (.string o.sh.v) ∧ x.cell? ⟨w.heap.size + 1, 11, none⟩ = some (.string o.l2) ∧ x.cell? ⟨w.heap.size + 1, 12, none⟩ = some (.int .i64 o.i2) ∧ x.cell? ⟨w.heap.size + 1, 13, none⟩ = some (.int .i64 o.s2) ∧ x.cell? ⟨w.heap.size + 1, 14, none⟩ = some (.slice p4 o.p2.length c4)) ∧ (x.cell? ⟨E, 0, none⟩ = some (.string o.l1) ∧ x.cell? ⟨E, 1, none⟩ = some (.int .i64 o.i1) ∧ x.cell? ⟨E, 2, none⟩ = some (.int .i64 o.s1) ∧ x.cell? ⟨E, 3, none⟩ = some (.slice (some ⟨g1, 0, none⟩) o.p1.length o.p1.length) ∧ x.cell? ⟨E, 4, none⟩ = some (.string o.sh.k) ∧ x.cell? ⟨E, 5, none⟩ = some (.int .i64 o.sh.at_) ∧ x.cell? ⟨E, 6, none⟩ = some (.slice (some ⟨g2, 0, none⟩) o.sh.ns.length o.sh.ns.length) ∧ x.cell? ⟨E, 7, none⟩ = some (.slice (some ⟨g3, 0, none⟩) o.sh.cs.length o.sh.cs.length) ∧ x.cell? ⟨E, 8, none⟩ = some (.int .i64 o.sh.ix) ∧ x.cell? ⟨E, 9, none⟩ = some (.string o.sh.s) ∧ x.cell? ⟨E, 10, none⟩ = some (.string o.sh.v) ∧ x.cell? ⟨E, 11, none⟩ = some (.string o.l2) ∧ x.cell? ⟨E, 12, none⟩ = some (.int .i64 o.i2) ∧ x.cell? ⟨E, 13, none⟩ = some (.int .i64 o.s2) ∧ x.cell? ⟨E, 14, none⟩ = some (.slice (some ⟨g4, 0, none⟩) o.p2.length o.p2.length))) := fun x hb => ⟨(H11.out.2.1.below hb).three, box15 (H11.out.2.2.below hb), box15 (K11.out.below hb)⟩
  have BR : Hid (Below t2.heap.size t2 t2.drew) := (Below.refl _ _).drew
  refine wp_region_held_drew (S := fun w' => (w'.cell? ⟨w.heap.size, 0, none⟩ = some (.string k) ∧ w'.cell? ⟨w.heap.size, 1, none⟩ = some (.int .i64 s) ∧ w'.cell? ⟨w.heap.size, 2, none⟩ = some (.string r)) ∧ (w'.cell? ⟨w.heap.size + 1, 0, none⟩ = some (.string o.l1) ∧ w'.cell? ⟨w.heap.size + 1, 1, none⟩ = some (.int .i64 o.i1) ∧ w'.cell? ⟨w.heap.size + 1, 2, none⟩ = some (.int .i64 o.s1) ∧ w'.cell? ⟨w.heap.size + 1, 3, none⟩ = some (.slice p1 o.p1.length c1) ∧ w'.cell? ⟨w.heap.size + 1, 4, none⟩ = some (.string o.sh.k) ∧ w'.cell? ⟨w.heap.size + 1, 5, none⟩ = some (.int .i64 o.sh.at_) ∧ w'.cell? ⟨w.heap.size + 1, 6, none⟩ = some (.slice p2 o.sh.ns.length c2) ∧ w'.cell? ⟨w.heap.size + 1, 7, none⟩ = some (.slice p3 o.sh.cs.length c3) ∧ w'.cell? ⟨w.heap.size + 1, 8, none⟩ = some (.int .i64 o.sh.ix) ∧ w'.cell? ⟨w.heap.size + 1, 9, none⟩ = some (.string o.sh.s) ∧ w'.cell? ⟨w.heap.size + 1, 10, none⟩ = some (.string o.sh.v) ∧ w'.cell? ⟨w.heap.size + 1, 11, none⟩ = some (.string o.l2) ∧ w'.cell? ⟨w.heap.size + 1, 12, none⟩ = some (.int .i64 o.i2) ∧ w'.cell? ⟨w.heap.size + 1, 13, none⟩ = some (.int .i64 o.s2) ∧ w'.cell? ⟨w.heap.size + 1, 14, none⟩ = some (.slice p4 o.p2.length c4)) ∧ (w'.cell? ⟨E, 0, none⟩ = some (.string o.l1) ∧ w'.cell? ⟨E, 1, none⟩ = some (.int .i64 o.i1) ∧ w'.cell? ⟨E, 2, none⟩ = some (.int .i64 o.s1) ∧ w'.cell? ⟨E, 3, none⟩ = some (.slice (some ⟨g1, 0, none⟩) o.p1.length o.p1.length) ∧ w'.cell? ⟨E, 4, none⟩ = some (.string o.sh.k) ∧ w'.cell? ⟨E, 5, none⟩ = some (.int .i64 o.sh.at_) ∧ w'.cell? ⟨E, 6, none⟩ = some (.slice (some ⟨g2, 0, none⟩) o.sh.ns.length o.sh.ns.length) ∧ w'.cell? ⟨E, 7, none⟩ = some (.slice (some ⟨g3, 0, none⟩) o.sh.cs.length o.sh.cs.length) ∧ w'.cell? ⟨E, 8, none⟩ = some (.int .i64 o.sh.ix) ∧ w'.cell? ⟨E, 9, none⟩ = some (.string o.sh.s) ∧ w'.cell? ⟨E, 10, none⟩ = some (.string o.sh.v) ∧ w'.cell? ⟨E, 11, none⟩ = some (.string o.l2) ∧ w'.cell? ⟨E, 12, none⟩ = some (.int .i64 o.i2) ∧ w'.cell? ⟨E, 13, none⟩ = some (.int .i64 o.s2) ∧ w'.cell? ⟨E, 14, none⟩ = some (.slice (some ⟨g4, 0, none⟩) o.p2.length o.p2.length))) (by kernel_rfl) (HX.out _ BR.out) (fun hHeld => ?_)
  refine take_at 0 (v := ?_) rfl (by kernel_rfl) (by kernel_rfl) (by kernel_rfl) (fun _ _ _ h => h) hHeld (Or.inl ⟨by rfl, ?_⟩) ?_
  rotate_left
  · (intro w hSw; (try dsimp only at hSw); go_simp; try with_reducible rfl)
  simp only [Act.put, List.setIfInBounds_toArray, List.set_cons_zero, List.set_cons_succ]
  refine take_at 1 (v := ?_) rfl (by kernel_rfl) (by kernel_rfl) (by kernel_rfl) (fun _ _ _ h => h) hHeld (Or.inl ⟨by rfl, ?_⟩) ?_
  rotate_left
  · (intro w hSw; (try dsimp only at hSw); go_simp; try with_reducible rfl)
  simp only [Act.put, List.setIfInBounds_toArray, List.set_cons_zero, List.set_cons_succ]
  refine ready_at 2 rfl (by kernel_rfl) (fun K hK => ?_)
  go_simp
  (go_at_call 21; refine (HTo.out _ (chainB H11.out.1 BR.out)).mono ?_; rintro e t3 ⟨h1, h2, h3, h4, rfl, jn, z3⟩; have q3 : Below t2.heap.size t2 t3 := chainB BR.out z3)
  refine hK.out _ _ (HX.out _ q3) (fun hHeld => ?_)
  clear hK K
  try simp only [Act.put, List.setIfInBounds_toArray, List.set_cons_zero, List.set_cons_succ]
  refine ready_at 3 rfl (by kernel_rfl) (fun K hK => ?_)
  go_simp
  (go_at_call 13; refine (HEq.out g1 g2 g3 g4 h1 h2 h3 h4 _ (J11.out.below q3) jn).mono ?_; rintro e t4 ⟨rfl, z4⟩; have q4 : Below t2.heap.size t2 t4 := chainB q3 z4)
  refine hK.out _ _ (HX.out _ q4) (fun hHeld => ?_)
  clear hK K
  try simp only [Act.put, List.setIfInBounds_toArray, List.set_cons_zero, List.set_cons_succ]
  refine take_at 4 (v := ?_) rfl (by kernel_rfl) (by kernel_rfl) (by kernel_rfl) (fun _ _ _ h => h) hHeld (Or.inl ⟨by rfl, ?_⟩) ?_
  rotate_left
  · (intro w hSw; (try dsimp only at hSw); go_simp; try with_reducible rfl)
  simp only [Act.put, List.setIfInBounds_toArray, List.set_cons_zero, List.set_cons_succ]
  refine wpAnyH_done (by kernel_rfl) ?_ _
  go_wp2_with fail
  go_ret
  exact ⟨rfl, chainB H11.out.1 q4⟩

theorem contract (H : Type) (enc : TypeId × Value → H) (W : World) (base : Nat) (args : Array Value) (ds gs : List (DataW H)) (before : List MemPlace)
    (hval : ∀ (j : Nat) t v, Tryz.f5.params[j]? = some t → args[j]? = some v → Value.okWide Tryz.prog W .any base t v)
    (hW : DataW.Whole enc Tryz.prog Tryz.f5.params.toList Rows.fnExactJudgeSpec.vars false W args.toList ds gs before) (hL : laidMetH Tryz.prog Rows.fnExactJudgeRow.laid W) :
    Calls Tryz.prog 5 args W fun e W' => ∃ v, e = .returned v ∧ Rows.fnExactJudgeSpec.post enc Tryz.prog Tryz.f5 false true false false W args v W' := by
  have hW' := hW
  obtain ⟨p, q, hA0, hV, rfl, hfz, hnd⟩ := hW
  have hA : DataW.TrodAll enc Tryz.prog W 0 (fun _ => true) true Tryz.f5.params.toList args.toList ds p := hA0
  rw [Tryz.params5] at hA hval
  obtain ⟨v0, vs0, d0, ds0, p0, q0, hargs, rfl, rfl, h0, r0⟩ := trodAll_cons hA
  obtain ⟨v1, vs1, d1, ds1, p1, q1, rfl, rfl, rfl, h1, r1⟩ := trodAll_cons r0
  obtain ⟨v2, vs2, d2, ds2, p2, q2, rfl, rfl, rfl, h2, r2⟩ := trodAll_cons r1
  obtain ⟨v3, vs3, d3, ds3, p3, q3, rfl, rfl, rfl, h3, r3⟩ := trodAll_cons r2
  obtain ⟨rfl, rfl, rfl⟩ := trodAll_nil r3
  obtain rfl : args = #[v0, v1, v2, v3] := by cases args; simp_all
  have hV2 : DataW.TrodVars enc Tryz.prog W (fun _ => true) ["loop.example/g00633/impl.firstState", "loop.example/g00633/impl.roundNums"] gs q := hV
  obtain ⟨_, _, _, _, e0, _, _, _, _, _, e1, _, rfl, _⟩ := trodVars_two hV2
  have k0 := h0
  have lt0 : ∀ x ∈ p0, x.block < W.heap.size := by obtain ⟨m, hm⟩ := k0; exact DataW.trod_lt m _ _ _ hm
  obtain ⟨ak0, as0, ar0, rfl, zz0, ww0⟩ := open_auditor (hval 0 46 v0 rfl rfl) h0
  have w0 := And.intro zz0 ww0
  obtain ⟨a1, rfl, rfl, rfl, w1⟩ := open_int Tryz.underlying2 (hval 1 2 v1 rfl rfl) h1
  obtain ⟨a2, rfl, rfl, rfl, w2⟩ := open_int Tryz.underlying2 (hval 2 2 v2 rfl rfl) h2
  have k3 := h3
  have lt3 : ∀ x ∈ p3, x.block < W.heap.size := by obtain ⟨m, hm⟩ := k3; exact DataW.trod_lt m _ _ _ hm
  obtain ⟨o3, pa3, ca3, pb3, cb3, pc3, cc3, pd3, cd3, rfl, w3⟩ := open_answer (hval 3 50 v3 rfl rfl) h3
  clear hA0
  obtain ⟨hT, hLd⟩ := laid3_of hL
  refine (walk ak0 as0 ar0 a1 a2 o3 pa3 ca3 pb3 cb3 pc3 cc3 pd3 cd3 W w0 w1 w2 w3 hT hLd).mono fun e W' ⟨he, hg⟩ => ?_
  subst he
  exact ⟨_, rfl, _, _, _, [], _, _, hW', (trodAll_cons_mk (shut_bool Tryz.underlying4 _) trodAll_mk0), (trodAll_cons_mk (Below.trod laidOut (by kernel_rfl) (of_decide_eq_true (by kernel_rfl)) k0 hg lt0) (trodAll_cons_mk (shut_int Tryz.underlying2 w1) (trodAll_cons_mk (shut_int Tryz.underlying2 w2) (trodAll_cons_mk (Below.trod laidOut (by kernel_rfl) (of_decide_eq_true (by kernel_rfl)) k3 hg lt3) trodAll_mk0)))), Below.trodVars laidOut hg (by kernel_rfl) hV, hg.frame _, fun h => by cases h⟩

/-- A start in which the listed variables lie as the program's text lays them: what the door's own run leaves. -/
noncomputable def wit (os : Os) : World := World.doorLaid Tryz.prog 26 os
theorem laid_met (os : Os) : laidMetH Tryz.prog Rows.fnExactJudgeRow.laid ((wit os).forCall (fun _ _ => 0) ⟨#[], #[.agg #[.string ByteArray.empty, .int .i64 0, .string ByteArray.empty], .int .i64 0, .int .i64 0, .agg #[.string ByteArray.empty, .int .i64 0, .int .i64 0, .slice none 0 0, .string ByteArray.empty, .int .i64 0, .slice none 0 0, .slice none 0 0, .int .i64 0, .string ByteArray.empty, .string ByteArray.empty, .string ByteArray.empty, .int .i64 0, .int .i64 0, .slice none 0 0]], []⟩).memory :=
  laidMetH_of_parts3 (fuel := 8) (laidMet_of_run' 8 (by kernel_rfl) (by kernel_rfl)) (by kernel_rfl) (by kernel_rfl)
theorem reads (os : Os) {H : Type} (enc : TypeId × Value → H) : ∃ gs places, DataW.whole enc Tryz.prog ((wit os).forCall (fun _ _ => 0) ⟨#[], #[.agg #[.string ByteArray.empty, .int .i64 0, .string ByteArray.empty], .int .i64 0, .int .i64 0, .agg #[.string ByteArray.empty, .int .i64 0, .int .i64 0, .slice none 0 0, .string ByteArray.empty, .int .i64 0, .slice none 0 0, .slice none 0 0, .int .i64 0, .string ByteArray.empty, .string ByteArray.empty, .string ByteArray.empty, .int .i64 0, .int .i64 0, .slice none 0 0]], []⟩).memory Tryz.f5.params.toList Rows.fnExactJudgeSpec.vars false #[Value.agg #[.string ByteArray.empty, .int .i64 0, .string ByteArray.empty], Value.int .i64 0, Value.int .i64 0, Value.agg #[.string ByteArray.empty, .int .i64 0, .int .i64 0, .slice none 0 0, .string ByteArray.empty, .int .i64 0, .slice none 0 0, .slice none 0 0, .int .i64 0, .string ByteArray.empty, .string ByteArray.empty, .string ByteArray.empty, .int .i64 0, .int .i64 0, .slice none 0 0]].toList 8 = some ([.agg [.lit (.string []), .lit (.int .i64 0), .lit (.string [])], .lit (.int .i64 0), .lit (.int .i64 0), .agg [.agg [.lit (.string []), .lit (.int .i64 0), .lit (.int .i64 0), .nil], .agg [.lit (.string []), .lit (.int .i64 0), .nil, .nil, .lit (.int .i64 0), .lit (.string []), .lit (.string [])], .agg [.lit (.string []), .lit (.int .i64 0), .lit (.int .i64 0), .nil]]], gs, places) := by
  have h : (DataW.whole enc Tryz.prog ((wit os).forCall (fun _ _ => 0) ⟨#[], #[.agg #[.string ByteArray.empty, .int .i64 0, .string ByteArray.empty], .int .i64 0, .int .i64 0, .agg #[.string ByteArray.empty, .int .i64 0, .int .i64 0, .slice none 0 0, .string ByteArray.empty, .int .i64 0, .slice none 0 0, .slice none 0 0, .int .i64 0, .string ByteArray.empty, .string ByteArray.empty, .string ByteArray.empty, .int .i64 0, .int .i64 0, .slice none 0 0]], []⟩).memory Tryz.f5.params.toList Rows.fnExactJudgeSpec.vars false #[Value.agg #[.string ByteArray.empty, .int .i64 0, .string ByteArray.empty], Value.int .i64 0, Value.int .i64 0, Value.agg #[.string ByteArray.empty, .int .i64 0, .int .i64 0, .slice none 0 0, .string ByteArray.empty, .int .i64 0, .slice none 0 0, .slice none 0 0, .int .i64 0, .string ByteArray.empty, .string ByteArray.empty, .string ByteArray.empty, .int .i64 0, .int .i64 0, .slice none 0 0]].toList 8).map (fun x => x.1) = some [.agg [.lit (.string []), .lit (.int .i64 0), .lit (.string [])], .lit (.int .i64 0), .lit (.int .i64 0), .agg [.agg [.lit (.string []), .lit (.int .i64 0), .lit (.int .i64 0), .nil], .agg [.lit (.string []), .lit (.int .i64 0), .nil, .nil, .lit (.int .i64 0), .lit (.string []), .lit (.string [])], .agg [.lit (.string []), .lit (.int .i64 0), .lit (.int .i64 0), .nil]]] := by kernel_rfl
  obtain ⟨⟨a, b, c⟩, hx, hy⟩ := Option.map_eq_some_iff.1 h
  cases hy
  exact ⟨b, c, hx⟩

set_option maxRecDepth 100000 in
theorem lifted (os : Os) (started : os.Started) (H : Type) (enc : TypeId × Value → H) (F : Stop.Interp) :
    ReturnsInHanded {} Tryz.checked os 5 .any ((OpenSpec.ofChange Rows.fnExactJudgeSpec).preRow enc Tryz.prog Tryz.f5 Rows.fnExactJudgeRow.domain false Rows.fnExactJudgeRow.laid) (((OpenSpec.ofChange Rows.fnExactJudgeSpec).at F).post enc Tryz.prog Tryz.f5 false true false false) := by
  obtain ⟨gs, places, hx⟩ := reads os enc
  refine returnsInHanded_of_row (C := Tryz.checked) (s := OpenSpec.ofChange Rows.fnExactJudgeSpec) own started (by kernel_rfl) Tryz.func5
    (witness_row_at (enc := enc) (C := Tryz.checked) false (wit os) #[.agg #[.string ByteArray.empty, .int .i64 0, .string ByteArray.empty], .int .i64 0, .int .i64 0, .agg #[.string ByteArray.empty, .int .i64 0, .int .i64 0, .slice none 0 0, .string ByteArray.empty, .int .i64 0, .slice none 0 0, .slice none 0 0, .int .i64 0, .string ByteArray.empty, .string ByteArray.empty, .string ByteArray.empty, .int .i64 0, .int .i64 0, .slice none 0 0]] rfl (by kernel_rfl) (by kernel_rfl) (by kernel_rfl)
      (OpenSpec.preRow_of_cond 8 hx rfl (fun k hk => by cases hk) (by kernel_rfl) (laid_met os))) ?_
  intro W base args ds gs before hval hW _ _ _ hL _ _
  exact contract H enc W base args ds gs before hval hW hL

theorem said : Rows.FnExactJudgeSaid :=
  OpenClaim.holds_of_cond 5 Tryz.f5 rfl rfl rfl rfl rfl rfl rfl ⟨rfl, rfl, rfl, rfl, rfl⟩ rfl rfl rfl rfl rfl saidA Tryz.func5 saidB
    saidC saidD
    (fun os started H enc _ F => by rw [OpenClaim.pre_eq_preRow]; exact lifted os started H enc F)

theorem plain (f : FuncId) (fn : Func) (hf : Tryz.pinned.checked.prog.funcNamed "loop.example/g00633/laws.FnExactJudge" = some f) (hfn : Tryz.pinned.checked.prog.funcs[f]? = some fn) :
    Rows.fnExactJudgeCard.stood.looks = Tryz.pinned.checked.prog.looks [] ∧ ∀ (j : Nat) t, fn.params[j]? = some t → Tryz.pinned.checked.prog.wantsStandIn t = false := by
  obtain rfl : f = 5 := Option.some.inj ((show Tryz.prog.funcNamed "loop.example/g00633/laws.FnExactJudge" = some 5 by kernel_rfl).symm.trans hf) |>.symm
  obtain rfl : fn = Tryz.f5 := (Option.some.inj (Tryz.func5.symm.trans hfn)).symm
  refine ⟨by kernel_rfl, fun j t ht => ?_⟩
  rw [Tryz.params5] at ht
  have hm := Array.mem_of_getElem? ht
  have hl : t ∈ ([46, 2, 2, 50] : List TypeId) := by simpa using hm
  simp only [List.mem_cons, List.not_mem_nil, or_false] at hl
  rcases hl with rfl | rfl | rfl | rfl
  · exact (show Tryz.prog.wantsStandIn 46 = false by kernel_rfl)
  · exact (show Tryz.prog.wantsStandIn 2 = false by kernel_rfl)
  · exact (show Tryz.prog.wantsStandIn 2 = false by kernel_rfl)
  · exact (show Tryz.prog.wantsStandIn 50 = false by kernel_rfl)

theorem proved : Rows.FnExactJudgeCardSaid :=
  Claim7.holds_tied_plain_at .later [] _ _ _ _ said (fun _ h => by cases h) (by kernel_rfl) (fun _ h => by cases h) fnExactJudge_row_tie rfl ⟨rfl, rfl⟩ (by kernel_rfl) rfl plain (by kernel_rfl)
#print axioms proved
end Go.Proofs.YthkmeneepkaedaaGreatDoor.fnExactJudge
