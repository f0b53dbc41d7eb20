/-
  What the program's Judge answers: 'jdV'.
-/
import Derived.Test.YthkmeneepkaedaaGreatDoorRows
import Derived.Test.YthkmeneepkaedaaGreatDoorBytesDigMath
import Derived.Test.YthkmeneepkaedaaGreatDoorTreeMathSlASlBBxKOwnS
import Derived.Test.YthkmeneepkaedaaGreatDoorTimeBPutMathPutNumJoinedPutTextFldMath
import Derived.Test.YthkmeneepkaedaaGreatDoorFldGShwKFldHTakesAudMathLawAuOpAuFldRiseScanMath
import Derived.Test.YthkmeneepkaedaaGreatDoorFldV
import Derived.Test.YthkmeneepkaedaaGreatDoorGetValGetTxtNumMathFldRdNumFromTmbMathLgMath
import Derived.Test.YthkmeneepkaedaaGreatDoorAudI
import Derived.Test.YthkmeneepkaedaaGreatDoorProofG
import Derived.Test.YthkmeneepkaedaaGreatDoorLawLhLawLzLawLm
import Derived.Test.YthkmeneepkaedaaGreatDoorLawAn
import Derived.Test.YthkmeneepkaedaaGreatDoorLogRITreeHImplRtPrfLsAnMath
import Derived.Test.YthkmeneepkaedaaGreatDoorJdMathAudS
import Derived.Test.YthkmeneepkaedaaGreatDoorJdS
import Derived.Test.YthkmeneepkaedaaGreatDoorJdI
import Derived.Test.YthkmeneepkaedaaGreatDoorJdV
import Derived.Handy
import Derived.WalkSpells
import Derived.OwnWalk
import Derived.Deep.RegionHeld3
import Derived.Deep.Cut
namespace Go.Proofs.YthkmeneepkaedaaGreatDoor
open Go.RowKit Go.Lib
set_option linter.unusedVariables false
set_option maxRecDepth 20000

set_option maxHeartbeats 8000000 in
theorem implJudge_any (k : ByteArray) (s : Int) (r : ByteArray) (row field : Int) (o : Ans) (p1 : Option Addr) (c1 : Nat) (p2 : Option Addr) (c2 : Nat) (p3 : Option Addr) (c3 : Nat) (p4 : Option Addr) (c4 : Nat) (w : World) (hT : Tabs w) (hg : Laid w) (hS : -9223372036854775808 ≤ s ∧ s ≤ 9223372036854775807) (hin : AnIn o p1 c1 p2 c2 p3 c3 p4 c4 w) (hbd : AnBd o) (hrt : r.size ≤ 1048576) :
    Calls Tryz.prog 22 #[.agg #[.string k, .int .i64 s, .string r], .int .i64 row, .int .i64 field, .agg #[.string o.l1, .int .i64 o.i1, .int .i64 o.s1, .slice p1 o.p1.length c1, .string o.sh.k, .int .i64 o.sh.at_, .slice p2 o.sh.ns.length c2, .slice p3 o.sh.cs.length c3, .int .i64 o.sh.ix, .string o.sh.s, .string o.sh.v, .string o.l2, .int .i64 o.i2, .int .i64 o.s2, .slice p4 o.p2.length c4]] w fun e w' => e = .returned (.int .i64 (jdV k s r row field o)) ∧ Below w.heap.size w w' := by
  obtain ⟨W1, hW1⟩ : ∃ W1, W1 = (w.alloc (.cells #[.string k, .int .i64 s, .string r] 54)).alloc (.cells #[.string o.l1, .int .i64 o.i1, .int .i64 o.s1, .slice p1 o.p1.length c1, .string o.sh.k, .int .i64 o.sh.at_, .slice p2 o.sh.ns.length c2, .slice p3 o.sh.cs.length c3, .int .i64 o.sh.ix, .string o.sh.s, .string o.sh.v, .string o.l2, .int .i64 o.i2, .int .i64 o.s2, .slice p4 o.p2.length c4] 39) := ⟨_, rfl⟩
  have HW1 : Hid (W1 = (w.alloc (.cells #[.string k, .int .i64 s, .string r] 54)).alloc (.cells #[.string o.l1, .int .i64 o.i1, .int .i64 o.s1, .slice p1 o.p1.length c1, .string o.sh.k, .int .i64 o.sh.at_, .slice p2 o.sh.ns.length c2, .slice p3 o.sh.cs.length c3, .int .i64 o.sh.ix, .string o.sh.s, .string o.sh.v, .string o.l2, .int .i64 o.i2, .int .i64 o.s2, .slice p4 o.p2.length c4] 39)) := hW1
  have HJ : Hid (JdB w #[.string k, .int .i64 s, .string r] #[.string o.l1, .int .i64 o.i1, .int .i64 o.s1, .slice p1 o.p1.length c1, .string o.sh.k, .int .i64 o.sh.at_, .slice p2 o.sh.ns.length c2, .slice p3 o.sh.cs.length c3, .int .i64 o.sh.ix, .string o.sh.s, .string o.sh.v, .string o.l2, .int .i64 o.i2, .int .i64 o.s2, .slice p4 o.p2.length c4] W1) := by
    rw [hW1]
    have h := Bxs.new (w.alloc (.cells #[.string k, .int .i64 s, .string r] 54)) 39 #[.string o.l1, .int .i64 o.i1, .int .i64 o.s1, .slice p1 o.p1.length c1, .string o.sh.k, .int .i64 o.sh.at_, .slice p2 o.sh.ns.length c2, .slice p3 o.sh.cs.length c3, .int .i64 o.sh.ix, .string o.sh.s, .string o.sh.v, .string o.l2, .int .i64 o.i2, .int .i64 o.s2, .slice p4 o.p2.length c4]
    rw [szA] at h
    exact ⟨alB ((Below.refl _ _).alloc (Nat.le_refl _) _) _, (Bxs.new _ _ _).alloc _, h⟩
  have hA := implAud_any k s r W1
  have HV : Hid (∀ (P : Nat) x, Below w.heap.size w x → JdJ x P k s r row field 0 → Calls Tryz.prog 62 #[.pointer (some ⟨P, 0, none⟩), .agg #[.string o.l1, .int .i64 o.i1, .int .i64 o.s1, .slice p1 o.p1.length c1, .string o.sh.k, .int .i64 o.sh.at_, .slice p2 o.sh.ns.length c2, .slice p3 o.sh.cs.length c3, .int .i64 o.sh.ix, .string o.sh.s, .string o.sh.v, .string o.l2, .int .i64 o.i2, .int .i64 o.s2, .slice p4 o.p2.length c4]] x fun e w' => e = .returned (.int .i64 (jdI o.sh.ns.length (stB s r o.l1 o.i1 o.s1 o.p1 1) (stB s r o.l2 o.i2 o.s2 o.p2 2) (noT o.l2) (ntB row field o.l2) (shB field o.sh o.l1))) ∧ But (fun q => q = P) x w') := fun P x hb hj => verdictOn_any P k s r row field o p1 c1 p2 c2 p3 c3 p4 c4 x (hT.to hb) (hg.below hb) hj hS (hin.below hb) hbd hrt
  have HNo : Hid (audB k s r = false ∨ s = 0 → jdV k s r row field o = 0) := jdV_no row field o
  have HYes : Hid (audB k s r = true → s ≠ 0 → jdV k s r row field o = jdI o.sh.ns.length (stB s r o.l1 o.i1 o.s1 o.p1 1) (stB s r o.l2 o.i2 o.s2 o.p2 2) (noT o.l2) (ntB row field o.l2) (shB field o.sh o.l1)) := jdV_yes row field o
  have HP : Hid (audB k s r = true → 0 ≤ s) := fun h => (aud_parts h).2.1
  clear hW1 hT hg hS hin hbd hrt
  generalize jdV k s r row field o = V at *
  generalize jdI o.sh.ns.length (stB s r o.l1 o.i1 o.s1 o.p1 1) (stB s r o.l2 o.i2 o.s2 o.p2 2) (noT o.l2) (ntB row field o.l2) (shB field o.sh o.l1) = J at *
  generalize audB k s r = A at *
  obtain ⟨q0, q1, q2⟩ := HJ.out.au.three
  go_enter Tryz.func22, Tryz.ntmps22
  go_wp2_with fail
  rw [← HW1.out]
  go_wp2_with fail
  refine hA.mono ?_
  rintro e y1 ⟨rfl, z1⟩
  have HJ1 : Hid (JdB w #[.string k, .int .i64 s, .string r] #[.string o.l1, .int .i64 o.i1, .int .i64 o.s1, .slice p1 o.p1.length c1, .string o.sh.k, .int .i64 o.sh.at_, .slice p2 o.sh.ns.length c2, .slice p3 o.sh.cs.length c3, .int .i64 o.sh.ix, .string o.sh.s, .string o.sh.v, .string o.l2, .int .i64 o.i2, .int .i64 o.s2, .slice p4 o.p2.length c4] y1) := HJ.out.below z1
  clear hA q0 q1 q2 z1 HJ HW1
  cases A
  case false =>
    have hv := HNo.out (.inl rfl)
    subst hv
    go_wp2_with fail
    go_ret
    exact ⟨rfl, HJ1.out.bel⟩
  obtain ⟨q0, q1, q2⟩ := HJ1.out.au.three
  have hH := hasSize_any k s r y1
  have HP0 : Hid (0 ≤ s) := HP.out rfl
  by_cases hs : s = 0
  case pos =>
    have hv := HNo.out (.inr hs)
    have d0 : decide (0 < s) = false := decide_eq_false (by omega)
    subst hv
    clear hs
    go_wp2_with fail
    refine hH.mono ?_
    rintro e y2 ⟨rfl, z2⟩
    have HJ2 : Hid (JdB w #[.string k, .int .i64 s, .string r] #[.string o.l1, .int .i64 o.i1, .int .i64 o.s1, .slice p1 o.p1.length c1, .string o.sh.k, .int .i64 o.sh.at_, .slice p2 o.sh.ns.length c2, .slice p3 o.sh.cs.length c3, .int .i64 o.sh.ix, .string o.sh.s, .string o.sh.v, .string o.l2, .int .i64 o.i2, .int .i64 o.s2, .slice p4 o.p2.length c4] y2) := HJ1.out.below z2
    clear hH z2 q0 q1 q2
    go_wp2_with fail
    go_ret
    exact ⟨rfl, HJ2.out.bel⟩
  have hv := HYes.out rfl hs
  have d0 : decide (0 < s) = true := decide_eq_true (by have := HP0.out; omega)
  subst hv
  clear hs HNo HYes HP HP0
  go_wp2_with fail
  refine hH.mono ?_
  rintro e y2 ⟨rfl, z2⟩
  have HJ2 : Hid (JdB w #[.string k, .int .i64 s, .string r] #[.string o.l1, .int .i64 o.i1, .int .i64 o.s1, .slice p1 o.p1.length c1, .string o.sh.k, .int .i64 o.sh.at_, .slice p2 o.sh.ns.length c2, .slice p3 o.sh.cs.length c3, .int .i64 o.sh.ix, .string o.sh.s, .string o.sh.v, .string o.l2, .int .i64 o.i2, .int .i64 o.s2, .slice p4 o.p2.length c4] y2) := HJ1.out.below z2
  clear hH z2 q0 q1 q2 HJ1
  obtain ⟨q0, q1, q2⟩ := HJ2.out.au.three
  obtain ⟨Y3, hY3⟩ : ∃ Y3, Y3 = y2.alloc (.cells #[.string k, .int .i64 s, .string r, .int .i64 row, .int .i64 field, .int .i64 0] 109) := ⟨_, rfl⟩
  have HY3 : Hid (Y3 = y2.alloc (.cells #[.string k, .int .i64 s, .string r, .int .i64 row, .int .i64 field, .int .i64 0] 109)) := hY3
  have HJ3 : Hid (JdB w #[.string k, .int .i64 s, .string r] #[.string o.l1, .int .i64 o.i1, .int .i64 o.s1, .slice p1 o.p1.length c1, .string o.sh.k, .int .i64 o.sh.at_, .slice p2 o.sh.ns.length c2, .slice p3 o.sh.cs.length c3, .int .i64 o.sh.ix, .string o.sh.s, .string o.sh.v, .string o.l2, .int .i64 o.i2, .int .i64 o.s2, .slice p4 o.p2.length c4] Y3) := by rw [hY3]; exact HJ2.out.below (alB (Below.refl _ _) _)
  have KJ : JdJ Y3 y2.heap.size k s r row field 0 := by unfold JdJ; rw [hY3]; exact Bxs.new _ _ _
  have hV := HV.out y2.heap.size Y3 HJ3.out.bel KJ
  have HB : Hid (w.heap.size ≤ y2.heap.size) := HJ2.out.bel.size
  obtain ⟨r0, r1, r2, r3, r4, r5, r6, r7, r8, r9, r10, r11, r12, r13, r14⟩ := box15 HJ3.out.an
  clear hY3 KJ HJ2
  go_upto_region 4 with fail
  rw [← HY3.out]
  generalize y2.heap.size = P at *
  clear HY3 q0 q1 q2 d0
  go_wp2_with fail
  refine hV.mono ?_
  rintro e y4 ⟨rfl, kb⟩
  have HE : Hid (Below w.heap.size w y4) := kb.below HJ3.out.bel HJ3.out.bel.size (fun q hq => by rw [hq]; exact HB.out)
  clear hV kb r0 r1 r2 r3 r4 r5 r6 r7 r8 r9 r10 r11 r12 r13 r14
  go_wp2_with fail
  go_ret
  exact ⟨rfl, HE.out⟩
end Go.Proofs.YthkmeneepkaedaaGreatDoor
