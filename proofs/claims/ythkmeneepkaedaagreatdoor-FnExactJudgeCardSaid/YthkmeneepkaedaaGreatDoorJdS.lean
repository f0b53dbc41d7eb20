/-
  What the specification's Judge answers: 'jdV'.
-/
import Derived.Test.YthkmeneepkaedaaGreatDoorRows
import Derived.Test.YthkmeneepkaedaaGreatDoorBytesDigMath
import Derived.Test.YthkmeneepkaedaaGreatDoorTreeMathSlASlBBxKOwnS
import Derived.Test.YthkmeneepkaedaaGreatDoorFldGShwKFldHTakesAudMathLawAuOpAuFldRiseScanMath
import Derived.Test.YthkmeneepkaedaaGreatDoorTakesLTillTwoPathMathTree2Path2HalvesTreePutter
import Derived.Test.YthkmeneepkaedaaGreatDoorTimeBPutMathPutNumJoinedPutTextFldMath
import Derived.Test.YthkmeneepkaedaaGreatDoorFldV
import Derived.Test.YthkmeneepkaedaaGreatDoorGetValGetTxtNumMathFldRdNumFromTmbMathLgMath
import Derived.Test.YthkmeneepkaedaaGreatDoorFldTrDigAllImplFCBlNot
import Derived.Test.YthkmeneepkaedaaGreatDoorLeafK
import Derived.Test.YthkmeneepkaedaaGreatDoorJdMathAudS
import Derived.Test.YthkmeneepkaedaaGreatDoorProofG
import Derived.Test.YthkmeneepkaedaaGreatDoorLogRITreeHImplRtPrfLsAnMath
import Derived.Handy
import Derived.WalkSpells
import Derived.OwnWalk
import Derived.Deep.RegionHeld3
import Derived.Deep.Cut
namespace Go.Proofs.YthkmeneepkaedaaGreatDoor
open Go.RowKit Go.Lib
set_option linter.unusedVariables false
set_option maxRecDepth 20000

theorem box15 {w : World} {g : Nat} {T : TypeId} {a0 a1 a2 a3 a4 a5 a6 a7 a8 a9 a10 a11 a12 a13 a14 : Value} (h : Bxs w g T #[a0, a1, a2, a3, a4, a5, a6, a7, a8, a9, a10, a11, a12, a13, a14]) : w.cell? ⟨g, 0, none⟩ = some a0 ∧ w.cell? ⟨g, 1, none⟩ = some a1 ∧ w.cell? ⟨g, 2, none⟩ = some a2 ∧ w.cell? ⟨g, 3, none⟩ = some a3 ∧ w.cell? ⟨g, 4, none⟩ = some a4 ∧ w.cell? ⟨g, 5, none⟩ = some a5 ∧ w.cell? ⟨g, 6, none⟩ = some a6 ∧ w.cell? ⟨g, 7, none⟩ = some a7 ∧ w.cell? ⟨g, 8, none⟩ = some a8 ∧ w.cell? ⟨g, 9, none⟩ = some a9 ∧ w.cell? ⟨g, 10, none⟩ = some a10 ∧ w.cell? ⟨g, 11, none⟩ = some a11 ∧ w.cell? ⟨g, 12, none⟩ = some a12 ∧ w.cell? ⟨g, 13, none⟩ = some a13 ∧ w.cell? ⟨g, 14, none⟩ = some a14 := ⟨h.cell 0, h.cell 1, h.cell 2, h.cell 3, h.cell 4, h.cell 5, h.cell 6, h.cell 7, h.cell 8, h.cell 9, h.cell 10, h.cell 11, h.cell 12, h.cell 13, h.cell 14⟩
/-- The auditor's box and the answer's. -/
structure JdB (w : World) (A C : Array Value) (x : World) : Prop where
  bel : Below w.heap.size w x
  au : Bxs x w.heap.size 54 A
  an : Bxs x (w.heap.size + 1) 39 C
theorem JdB.below {w x y : World} {A C : Array Value} (h : JdB w A C x) (hb : Below x.heap.size x y) : JdB w A C y := ⟨chainB h.bel hb, h.au.below hb, h.an.below hb⟩
theorem fld_tomb (t : Tmb) (c : Int) (x : World) : (Instr.field 97 (tmO t c) 0).run Tryz.prog x = .ok (.agg #[.int .i64 t.r, .int .i64 t.f, .int .i64 t.y, .int .i64 t.a]) x := by first | rfl | kernel_rfl
set_option maxHeartbeats 4000000 in
theorem l12Bad_any (k : ByteArray) (s : Int) (r : ByteArray) (lf : ByteArray) (ix sz : Int) (a : Option Addr) (c : Nat) (P : List ByteArray) (kd : Int) (w : World) (hp : TxtAt w a P) (hn : P.length ≤ 1048576) (hc : P.length ≤ c) (hlf : lf.size ≤ 1048576) (hrt : r.size ≤ 1048576) (hi : -9223372036854775808 ≤ ix ∧ ix ≤ 9223372036854775807) (hs : -9223372036854775808 ≤ sz ∧ sz ≤ 9223372036854775807) :
    Calls Tryz.prog 56 #[.agg #[.string k, .int .i64 s, .string r], .agg #[.string lf, .int .i64 ix, .int .i64 sz, .slice a P.length c], .int .i64 kd] w fun e w' => e = .returned (.bool (!stB s r lf ix sz P kd)) ∧ Below w.heap.size w w' := by
  obtain ⟨W1, hW1⟩ : ∃ W1, W1 = (w.alloc (.cells #[.string k, .int .i64 s, .string r] 54)).alloc (.cells #[.string lf, .int .i64 ix, .int .i64 sz, .slice a P.length c] 35) := ⟨_, rfl⟩
  have HW1 : Hid (W1 = (w.alloc (.cells #[.string k, .int .i64 s, .string r] 54)).alloc (.cells #[.string lf, .int .i64 ix, .int .i64 sz, .slice a P.length c] 35)) := hW1
  have B1 : Hid (Below w.heap.size w W1) := by rw [hW1]; exact alB ((Below.refl _ _).alloc (Nat.le_refl _) _) _
  have KA : Hid (Bxs W1 w.heap.size 54 #[.string k, .int .i64 s, .string r]) := by rw [hW1]; exact (Bxs.new _ _ _).alloc _
  have KP : Hid (Bxs W1 (w.heap.size + 1) 35 #[.string lf, .int .i64 ix, .int .i64 sz, .slice a P.length c]) := by have h := Bxs.new (w.alloc (.cells #[.string k, .int .i64 s, .string r] 54)) 35 #[.string lf, .int .i64 ix, .int .i64 sz, .slice a P.length c]; rw [szA] at h; rw [hW1]; exact h
  have hPG := specProofGood_any lf ix sz a c P r W1 (hp.below B1.out) hn hc hlf hrt hi hs
  have HLK : Hid (∀ y, Calls Tryz.prog 76 #[.string lf] y fun e w' => e = .returned (.int .i64 (lkB lf)) ∧ Below y.heap.size y w') := fun y => specLeafKind_any lf y (by unfold maxLen; omega)
  have HV : Hid (stB s r lf ix sz P kd = (noT lf || (decide (sz = s) && (pgB lf ix sz P r && decide (lkB lf = kd))))) := rfl
  have q0 := KA.out.cell 0
  have q1 := KA.out.cell 1
  have q2 := KA.out.cell 2
  have r0 := KP.out.cell 0
  have r1 := KP.out.cell 1
  have r2 := KP.out.cell 2
  have r3 := KP.out.cell 3
  simp at q0 q1 q2 r0 r1 r2 r3
  clear hW1 hp
  generalize stB s r lf ix sz P kd = V at *
  generalize pgB lf ix sz P r = G at *
  have hE : lf.toList.isEmpty = noT lf := rfl
  generalize noT lf = E at *
  go_enter Tryz.func56, Tryz.ntmps56
  cases E
  case true =>
    have hv : V = true := HV.out
    subst hv
    go_wp2_with fail
    rw [← HW1.out]
    go_wp2_with fail
    go_ret
    exact ⟨rfl, B1.out⟩
  by_cases h1 : sz = s
  case neg =>
    have hv : V = false := by rw [HV.out, decide_eq_false h1]; rfl
    have d1 : (sz != s) = true := by simp [h1]
    subst hv
    clear h1
    go_wp2_with fail
    rw [← HW1.out]
    go_wp2_with fail
    go_ret
    exact ⟨rfl, B1.out⟩
  subst h1
  have d1 : (sz != sz) = false := by simp
  go_wp2_with fail
  rw [← HW1.out]
  go_wp2_with fail
  refine hPG.mono ?_
  rintro e y1 ⟨rfl, z1⟩
  have B2 : Hid (Below w.heap.size w y1) := chainB B1.out z1
  have r0 := (KP.out.below z1).cell 0
  simp at r0
  clear hPG q0 q1 q2 r1 r2 r3 KA KP HW1 B1 z1
  cases G
  case false =>
    have hv : V = false := by rw [HV.out]; simp
    subst hv
    go_wp2_with fail
    go_ret
    exact ⟨rfl, B2.out⟩
  have hL := HLK.out y1
  by_cases h2 : lkB lf = kd
  case pos =>
    have hv : V = true := by rw [HV.out, decide_eq_true h2]; simp
    have d2 : (lkB lf != kd) = false := by simp [h2]
    subst hv
    clear h2
    go_wp2_with fail
    refine hL.mono ?_
    rintro e y2 ⟨rfl, z2⟩
    have B3 : Hid (Below w.heap.size w y2) := chainB B2.out z2
    clear z2 hL
    go_wp2_with fail
    go_ret
    exact ⟨rfl, B3.out⟩
  have hv : V = false := by rw [HV.out, decide_eq_false h2]; simp
  have d2 : (lkB lf != kd) = true := by simp [h2]
  subst hv
  clear h2
  go_wp2_with fail
  refine hL.mono ?_
  rintro e y2 ⟨rfl, z2⟩
  have B3 : Hid (Below w.heap.size w y2) := chainB B2.out z2
  clear z2 hL
  go_wp2_with fail
  go_ret
  exact ⟨rfl, B3.out⟩
set_option maxHeartbeats 16000000 in
theorem specJudge_any (k : ByteArray) (s : Int) (r : ByteArray) (row field : Int) (o : Ans) (p1 : Option Addr) (c1 : Nat) (p2 : Option Addr) (c2 : Nat) (p3 : Option Addr) (c3 : Nat) (p4 : Option Addr) (c4 : Nat) (w : World) (hin : AnIn o p1 c1 p2 c2 p3 c3 p4 c4 w) (hbd : AnBd o) (hrt : r.size ≤ 1048576) :
    Calls Tryz.prog 19 #[.agg #[.string k, .int .i64 s, .string r], .int .i64 row, .int .i64 field, .agg #[.string o.l1, .int .i64 o.i1, .int .i64 o.s1, .slice p1 o.p1.length c1, .string o.sh.k, .int .i64 o.sh.at_, .slice p2 o.sh.ns.length c2, .slice p3 o.sh.cs.length c3, .int .i64 o.sh.ix, .string o.sh.s, .string o.sh.v, .string o.l2, .int .i64 o.i2, .int .i64 o.s2, .slice p4 o.p2.length c4]] w fun e w' => e = .returned (.int .i64 (jdV k s r row field o)) ∧ Below w.heap.size w w' := by
  obtain ⟨W1, hW1⟩ : ∃ W1, W1 = (w.alloc (.cells #[.string k, .int .i64 s, .string r] 54)).alloc (.cells #[.string o.l1, .int .i64 o.i1, .int .i64 o.s1, .slice p1 o.p1.length c1, .string o.sh.k, .int .i64 o.sh.at_, .slice p2 o.sh.ns.length c2, .slice p3 o.sh.cs.length c3, .int .i64 o.sh.ix, .string o.sh.s, .string o.sh.v, .string o.l2, .int .i64 o.i2, .int .i64 o.s2, .slice p4 o.p2.length c4] 39) := ⟨_, rfl⟩
  have HW1 : Hid (W1 = (w.alloc (.cells #[.string k, .int .i64 s, .string r] 54)).alloc (.cells #[.string o.l1, .int .i64 o.i1, .int .i64 o.s1, .slice p1 o.p1.length c1, .string o.sh.k, .int .i64 o.sh.at_, .slice p2 o.sh.ns.length c2, .slice p3 o.sh.cs.length c3, .int .i64 o.sh.ix, .string o.sh.s, .string o.sh.v, .string o.l2, .int .i64 o.i2, .int .i64 o.s2, .slice p4 o.p2.length c4] 39)) := hW1
  have HJ : Hid (JdB w #[.string k, .int .i64 s, .string r] #[.string o.l1, .int .i64 o.i1, .int .i64 o.s1, .slice p1 o.p1.length c1, .string o.sh.k, .int .i64 o.sh.at_, .slice p2 o.sh.ns.length c2, .slice p3 o.sh.cs.length c3, .int .i64 o.sh.ix, .string o.sh.s, .string o.sh.v, .string o.l2, .int .i64 o.i2, .int .i64 o.s2, .slice p4 o.p2.length c4] W1) := by
    rw [hW1]
    have h := Bxs.new (w.alloc (.cells #[.string k, .int .i64 s, .string r] 54)) 39 #[.string o.l1, .int .i64 o.i1, .int .i64 o.s1, .slice p1 o.p1.length c1, .string o.sh.k, .int .i64 o.sh.at_, .slice p2 o.sh.ns.length c2, .slice p3 o.sh.cs.length c3, .int .i64 o.sh.ix, .string o.sh.s, .string o.sh.v, .string o.l2, .int .i64 o.i2, .int .i64 o.s2, .slice p4 o.p2.length c4]
    rw [szA] at h
    exact ⟨alB ((Below.refl _ _).alloc (Nat.le_refl _) _) _, (Bxs.new _ _ _).alloc _, h⟩
  have HIn : Hid (∀ x, Below w.heap.size w x → AnIn o p1 c1 p2 c2 p3 c3 p4 c4 x) := fun x hb => hin.below hb
  have hA := specAud_any k s r W1
  have HB1 : Hid (∀ x, Below w.heap.size w x → Calls Tryz.prog 56 #[.agg #[.string k, .int .i64 s, .string r], .agg #[.string o.l1, .int .i64 o.i1, .int .i64 o.s1, .slice p1 o.p1.length c1], .int .i64 1] x fun e w' => e = .returned (.bool (!stB s r o.l1 o.i1 o.s1 o.p1 1)) ∧ Below x.heap.size x w') := fun x hb => l12Bad_any k s r o.l1 o.i1 o.s1 p1 c1 o.p1 1 x (hin.t1.below hb) hbd.z1 hin.m1 hbd.l1 hrt hbd.i1 hbd.s1
  have HB2 : Hid (∀ x, Below w.heap.size w x → Calls Tryz.prog 56 #[.agg #[.string k, .int .i64 s, .string r], .agg #[.string o.l2, .int .i64 o.i2, .int .i64 o.s2, .slice p4 o.p2.length c4], .int .i64 2] x fun e w' => e = .returned (.bool (!stB s r o.l2 o.i2 o.s2 o.p2 2)) ∧ Below x.heap.size x w') := fun x hb => l12Bad_any k s r o.l2 o.i2 o.s2 p4 c4 o.p2 2 x (hin.t4.below hb) hbd.z4 hin.m4 hbd.l2 hrt hbd.i2 hbd.s2
  have HTr : Hid (∀ x, Calls Tryz.prog 55 #[.string o.l2] x fun e w' => e = .returned (tmO (trO o.l2) (trC o.l2)) ∧ Below x.heap.size x w') := fun x => specTombRead_any o.l2 x (by have := hbd.l2; unfold maxLen; omega)
  have HSl : Hid (∀ x, Below w.heap.size w x → Calls Tryz.prog 57 #[.agg #[.string o.sh.k, .int .i64 o.sh.at_, .slice p2 o.sh.ns.length c2, .slice p3 o.sh.cs.length c3, .int .i64 o.sh.ix, .string o.sh.s, .string o.sh.v]] x fun e w' => e = .returned (.string (svB o.sh)) ∧ Below x.heap.size x w') := fun x hb => specShownLeaf_any o.sh p2 c2 p3 c3 x (hin.t2.below hb) (hin.t3.below hb) hbd.z2 hbd.z3 hin.m2 hin.m3 hbd.le
  have HNo : Hid (audB k s r = false ∨ s = 0 → jdV k s r row field o = 0) := jdV_no row field o
  have HYes : Hid (audB k s r = true → s ≠ 0 → jdV k s r row field o = jdI o.sh.ns.length (stB s r o.l1 o.i1 o.s1 o.p1 1) (stB s r o.l2 o.i2 o.s2 o.p2 2) (noT o.l2) (ntB row field o.l2) (shB field o.sh o.l1)) := jdV_yes row field o
  clear hW1 hin hbd hrt
  generalize jdV k s r row field o = V at *
  generalize stB s r o.l1 o.i1 o.s1 o.p1 1 = S1 at *
  generalize stB s r o.l2 o.i2 o.s2 o.p2 2 = S2 at *
  generalize audB k s r = A at *
  obtain ⟨q0, q1, q2⟩ := HJ.out.au.three
  obtain ⟨r0, r1, r2, r3, r4, r5, r6, r7, r8, r9, r10, r11, r12, r13, r14⟩ := box15 HJ.out.an
  go_enter Tryz.func19, Tryz.ntmps19
  go_wp2_with fail
  rw [← HW1.out]
  go_wp2_with fail
  refine hA.mono ?_
  rintro e y1 ⟨rfl, z1⟩
  have HJ1 : Hid (JdB w #[.string k, .int .i64 s, .string r] #[.string o.l1, .int .i64 o.i1, .int .i64 o.s1, .slice p1 o.p1.length c1, .string o.sh.k, .int .i64 o.sh.at_, .slice p2 o.sh.ns.length c2, .slice p3 o.sh.cs.length c3, .int .i64 o.sh.ix, .string o.sh.s, .string o.sh.v, .string o.l2, .int .i64 o.i2, .int .i64 o.s2, .slice p4 o.p2.length c4] y1) := HJ.out.below z1
  clear hA r0 r1 r2 r3 r4 r5 r6 r7 r8 r9 r10 r11 r12 r13 r14 q0 q1 q2 z1 HJ HW1
  cases A
  case false =>
    have hv := HNo.out (.inl rfl)
    subst hv
    go_wp2_with fail
    go_ret
    exact ⟨rfl, HJ1.out.bel⟩
  obtain ⟨q0, q1, q2⟩ := HJ1.out.au.three
  by_cases hs : s = 0
  case pos =>
    have hv := HNo.out (.inr hs)
    have d0 : (s == 0) = true := by simp [hs]
    subst hv
    clear hs
    go_wp2_with fail
    go_ret
    exact ⟨rfl, HJ1.out.bel⟩
  have HV : Hid (V = jdI o.sh.ns.length S1 S2 (noT o.l2) (ntB row field o.l2) (shB field o.sh o.l1)) := HYes.out rfl hs
  have d0 : (s == 0) = false := by simp [hs]
  clear hs HNo HYes
  obtain ⟨r0, r1, r2, r3, r4, r5, r6, r7, r8, r9, r10, r11, r12, r13, r14⟩ := box15 HJ1.out.an
  have hT := HTr.out y1
  go_wp2_with fail
  refine hT.mono ?_
  rintro e y2 ⟨rfl, z2⟩
  have HJ2 : Hid (JdB w #[.string k, .int .i64 s, .string r] #[.string o.l1, .int .i64 o.i1, .int .i64 o.s1, .slice p1 o.p1.length c1, .string o.sh.k, .int .i64 o.sh.at_, .slice p2 o.sh.ns.length c2, .slice p3 o.sh.cs.length c3, .int .i64 o.sh.ix, .string o.sh.s, .string o.sh.v, .string o.l2, .int .i64 o.i2, .int .i64 o.s2, .slice p4 o.p2.length c4] y2) := HJ1.out.below z2
  have hft := fld_tomb (trO o.l2) (trC o.l2) y2
  clear hT z2 HJ1 r0 r1 r2 r3 r4 r5 r6 r7 r8 r9 r10 r11 r12 r13 r14 q0 q1 q2 d0
  obtain ⟨Y3, hY3⟩ : ∃ Y3, Y3 = y2.alloc (.cells #[.int .i64 (trO o.l2).r, .int .i64 (trO o.l2).f, .int .i64 (trO o.l2).y, .int .i64 (trO o.l2).a] 95) := ⟨_, rfl⟩
  have HY3 : Hid (Y3 = y2.alloc (.cells #[.int .i64 (trO o.l2).r, .int .i64 (trO o.l2).f, .int .i64 (trO o.l2).y, .int .i64 (trO o.l2).a] 95)) := hY3
  have HJ3 : Hid (JdB w #[.string k, .int .i64 s, .string r] #[.string o.l1, .int .i64 o.i1, .int .i64 o.s1, .slice p1 o.p1.length c1, .string o.sh.k, .int .i64 o.sh.at_, .slice p2 o.sh.ns.length c2, .slice p3 o.sh.cs.length c3, .int .i64 o.sh.ix, .string o.sh.s, .string o.sh.v, .string o.l2, .int .i64 o.i2, .int .i64 o.s2, .slice p4 o.p2.length c4] Y3) := by rw [hY3]; exact HJ2.out.below (alB (Below.refl _ _) _)
  have KT : Hid (Bxs Y3 y2.heap.size 95 #[.int .i64 (trO o.l2).r, .int .i64 (trO o.l2).f, .int .i64 (trO o.l2).y, .int .i64 (trO o.l2).a]) := by rw [hY3]; exact Bxs.new _ _ _
  clear hY3
  go_upto_region 4 with fail
  rw [← HY3.out]
  generalize y2.heap.size = E at *
  clear HY3 hft HJ2
  obtain ⟨q0, q1, q2⟩ := HJ3.out.au.three
  obtain ⟨r0, r1, r2, r3, r4, r5, r6, r7, r8, r9, r10, r11, r12, r13, r14⟩ := box15 HJ3.out.an
  have hb1 := HB1.out Y3 HJ3.out.bel
  go_wp2_with fail
  refine hb1.mono ?_
  rintro e y4 ⟨rfl, z4⟩
  have HJ4 : Hid (JdB w #[.string k, .int .i64 s, .string r] #[.string o.l1, .int .i64 o.i1, .int .i64 o.s1, .slice p1 o.p1.length c1, .string o.sh.k, .int .i64 o.sh.at_, .slice p2 o.sh.ns.length c2, .slice p3 o.sh.cs.length c3, .int .i64 o.sh.ix, .string o.sh.s, .string o.sh.v, .string o.l2, .int .i64 o.i2, .int .i64 o.s2, .slice p4 o.p2.length c4] y4) := HJ3.out.below z4
  have KT4 : Hid (Bxs y4 E 95 #[.int .i64 (trO o.l2).r, .int .i64 (trO o.l2).f, .int .i64 (trO o.l2).y, .int .i64 (trO o.l2).a]) := KT.out.below z4
  clear hb1 z4 HJ3 KT q0 q1 q2 r0 r1 r2 r3 r4 r5 r6 r7 r8 r9 r10 r11 r12 r13 r14 HB1 HTr
  cases S1
  case false =>
    have hv : V = 4 := by rw [HV.out, jdI_1]
    subst hv
    go_wp2_with fail
    go_ret
    exact ⟨rfl, HJ4.out.bel⟩
  obtain ⟨q0, q1, q2⟩ := HJ4.out.au.three
  obtain ⟨r0, r1, r2, r3, r4, r5, r6, r7, r8, r9, r10, r11, r12, r13, r14⟩ := box15 HJ4.out.an
  have hb2 := HB2.out y4 HJ4.out.bel
  go_wp2_with fail
  refine hb2.mono ?_
  rintro e y5 ⟨rfl, z5⟩
  have HJ5 : Hid (JdB w #[.string k, .int .i64 s, .string r] #[.string o.l1, .int .i64 o.i1, .int .i64 o.s1, .slice p1 o.p1.length c1, .string o.sh.k, .int .i64 o.sh.at_, .slice p2 o.sh.ns.length c2, .slice p3 o.sh.cs.length c3, .int .i64 o.sh.ix, .string o.sh.s, .string o.sh.v, .string o.l2, .int .i64 o.i2, .int .i64 o.s2, .slice p4 o.p2.length c4] y5) := HJ4.out.below z5
  have KT5 : Hid (Bxs y5 E 95 #[.int .i64 (trO o.l2).r, .int .i64 (trO o.l2).f, .int .i64 (trO o.l2).y, .int .i64 (trO o.l2).a]) := KT4.out.below z5
  clear hb2 z5 HJ4 KT4 q0 q1 q2 r0 r1 r2 r3 r4 r5 r6 r7 r8 r9 r10 r11 r12 r13 r14 HB2
  cases S2
  case false =>
    have hv : V = 4 := by rw [HV.out, jdI_2]
    subst hv
    go_wp2_with fail
    go_ret
    exact ⟨rfl, HJ5.out.bel⟩
  obtain ⟨r0, r1, r2, r3, r4, r5, r6, r7, r8, r9, r10, r11, r12, r13, r14⟩ := box15 HJ5.out.an
  obtain ⟨u0, u1, u2, u3⟩ := KT5.out.four
  have hE : o.l2.toList.isEmpty = noT o.l2 := rfl
  have hS := HSl.out y5 HJ5.out.bel
  have HN : Hid (ntB row field o.l2 = (((trO o.l2).r == row) && ((trO o.l2).f == field))) := rfl
  have HS : Hid (shB field o.sh o.l1 = (!noT (svB o.sh) && (((svB o.sh).toList == o.l1.toList) && (o.sh.ix == field)))) := rfl
  generalize ntB row field o.l2 = NO at *
  generalize shB field o.sh o.l1 = SB at *
  generalize (trO o.l2).r = tr at *
  generalize (trO o.l2).f = tf at *
  generalize noT o.l2 = NT at *
  have hL : (svB o.sh).toList.isEmpty = noT (svB o.sh) := rfl
  generalize noT (svB o.sh) = NL at *
  generalize svB o.sh = LF at *
  by_cases hn : 0 < o.sh.ns.length
  case pos =>
    have dn : decide (0 < (o.sh.ns.length : Int)) = true := decide_eq_true (by omega)
    cases NT
    case true =>
      (try clear h2); (try clear h3); (try clear h4)
      go_wp2_with fail
      refine hS.mono ?_
      rintro e y6 ⟨rfl, z6⟩
      have HJ6 : Hid (JdB w #[.string k, .int .i64 s, .string r] #[.string o.l1, .int .i64 o.i1, .int .i64 o.s1, .slice p1 o.p1.length c1, .string o.sh.k, .int .i64 o.sh.at_, .slice p2 o.sh.ns.length c2, .slice p3 o.sh.cs.length c3, .int .i64 o.sh.ix, .string o.sh.s, .string o.sh.v, .string o.l2, .int .i64 o.i2, .int .i64 o.s2, .slice p4 o.p2.length c4] y6) := HJ5.out.below z6
      clear hS z6 r0 r1 r2 r3 r4 r5 r6 r7 r8 r9 r10 r11 r12 r13 r14 u0 u1 u2 u3 HJ5 KT5
      obtain ⟨r0, r1, r2, r3, r4, r5, r6, r7, r8, r9, r10, r11, r12, r13, r14⟩ := box15 HJ6.out.an
      cases NL
      case true =>
        have hv : V = 4 := by rw [HV.out, jdI_4 hn]; (try rw [HS.out]); (try rw [h1]); (try rw [h2]); rfl
        subst hv
        (try clear h2); (try clear h3); (try clear h4)
        go_wp2_with fail
        go_ret
        exact ⟨rfl, HJ6.out.bel⟩
      cases h1 : (LF.toList == o.l1.toList)
      case false =>
        have hv : V = 4 := by rw [HV.out, jdI_4 hn]; (try rw [HS.out]); (try rw [h1]); (try rw [h2]); rfl
        subst hv
        (try clear h2); (try clear h3); (try clear h4)
        go_wp2_with fail
        go_ret
        exact ⟨rfl, HJ6.out.bel⟩
      cases h2 : (o.sh.ix == field)
      case false =>
        have hv : V = 4 := by rw [HV.out, jdI_4 hn]; (try rw [HS.out]); (try rw [h1]); (try rw [h2]); rfl
        subst hv
        have d2 : (o.sh.ix != field) = true := by unfold bne; rw [h2]; rfl
        clear h2
        (try clear h2); (try clear h3); (try clear h4)
        go_wp2_with fail
        go_ret
        exact ⟨rfl, HJ6.out.bel⟩
      have d2 : (o.sh.ix != field) = false := by unfold bne; rw [h2]; rfl
      have hv : V = 1 := by rw [HV.out, jdI_4 hn]; (try rw [HS.out]); (try rw [h1]); (try rw [h2]); rfl
      subst hv
      (try clear h2); (try clear h3); (try clear h4)
      go_wp2_with fail
      go_ret
      exact ⟨rfl, HJ6.out.bel⟩
    case false =>
      cases h3 : (tr == row)
      case false =>
        have hno : NO = false := by rw [HN.out, h3]; rfl
        subst hno
        have hv : V = 4 := by rw [HV.out, jdI_3]
        subst hv
        have d3 : (tr != row) = true := by unfold bne; rw [h3]; rfl
        clear h3
        (try clear h2); (try clear h3); (try clear h4)
        go_wp2_with fail
        go_ret
        exact ⟨rfl, HJ5.out.bel⟩
      have d3 : (tr != row) = false := by unfold bne; rw [h3]; rfl
      cases h4 : (tf == field)
      case false =>
        have hno : NO = false := by rw [HN.out, h3, h4]; rfl
        subst hno
        have hv : V = 4 := by rw [HV.out, jdI_3]
        subst hv
        have d4 : (tf != field) = true := by unfold bne; rw [h4]; rfl
        clear h4
        (try clear h2); (try clear h3); (try clear h4)
        go_wp2_with fail
        go_ret
        exact ⟨rfl, HJ5.out.bel⟩
      have d4 : (tf != field) = false := by unfold bne; rw [h4]; rfl
      (try clear h2); (try clear h3); (try clear h4)
      go_wp2_with fail
      refine hS.mono ?_
      rintro e y6 ⟨rfl, z6⟩
      have HJ6 : Hid (JdB w #[.string k, .int .i64 s, .string r] #[.string o.l1, .int .i64 o.i1, .int .i64 o.s1, .slice p1 o.p1.length c1, .string o.sh.k, .int .i64 o.sh.at_, .slice p2 o.sh.ns.length c2, .slice p3 o.sh.cs.length c3, .int .i64 o.sh.ix, .string o.sh.s, .string o.sh.v, .string o.l2, .int .i64 o.i2, .int .i64 o.s2, .slice p4 o.p2.length c4] y6) := HJ5.out.below z6
      clear hS z6 r0 r1 r2 r3 r4 r5 r6 r7 r8 r9 r10 r11 r12 r13 r14 u0 u1 u2 u3 HJ5 KT5
      obtain ⟨r0, r1, r2, r3, r4, r5, r6, r7, r8, r9, r10, r11, r12, r13, r14⟩ := box15 HJ6.out.an
      cases NL
      case true =>
        have hv : V = 4 := by rw [HV.out, jdI_4 hn]; (try rw [HS.out]); (try rw [h1]); (try rw [h2]); rfl
        subst hv
        (try clear h2); (try clear h3); (try clear h4)
        go_wp2_with fail
        go_ret
        exact ⟨rfl, HJ6.out.bel⟩
      cases h1 : (LF.toList == o.l1.toList)
      case false =>
        have hv : V = 4 := by rw [HV.out, jdI_4 hn]; (try rw [HS.out]); (try rw [h1]); (try rw [h2]); rfl
        subst hv
        (try clear h2); (try clear h3); (try clear h4)
        go_wp2_with fail
        go_ret
        exact ⟨rfl, HJ6.out.bel⟩
      cases h2 : (o.sh.ix == field)
      case false =>
        have hv : V = 4 := by rw [HV.out, jdI_4 hn]; (try rw [HS.out]); (try rw [h1]); (try rw [h2]); rfl
        subst hv
        have d2 : (o.sh.ix != field) = true := by unfold bne; rw [h2]; rfl
        clear h2
        (try clear h2); (try clear h3); (try clear h4)
        go_wp2_with fail
        go_ret
        exact ⟨rfl, HJ6.out.bel⟩
      have d2 : (o.sh.ix != field) = false := by unfold bne; rw [h2]; rfl
      have hv : V = 4 := by rw [HV.out, jdI_4 hn]; (try rw [HS.out]); (try rw [h1]); (try rw [h2]); rfl
      subst hv
      (try clear h2); (try clear h3); (try clear h4)
      go_wp2_with fail
      go_ret
      exact ⟨rfl, HJ6.out.bel⟩
  have dn : decide (0 < (o.sh.ns.length : Int)) = false := decide_eq_false (by omega)
  clear hS
  cases NT
  case true =>
    have hv : V = 3 := by rw [HV.out, jdI_5 hn]
    subst hv
    (try clear h2); (try clear h3); (try clear h4)
    go_wp2_with fail
    go_ret
    exact ⟨rfl, HJ5.out.bel⟩
  cases h3 : (tr == row)
  case false =>
    have hno : NO = false := by rw [HN.out, h3]; rfl
    subst hno
    have hv : V = 4 := by rw [HV.out, jdI_3]
    subst hv
    have d3 : (tr != row) = true := by unfold bne; rw [h3]; rfl
    clear h3
    (try clear h2); (try clear h3); (try clear h4)
    go_wp2_with fail
    go_ret
    exact ⟨rfl, HJ5.out.bel⟩
  have d3 : (tr != row) = false := by unfold bne; rw [h3]; rfl
  cases h4 : (tf == field)
  case false =>
    have hno : NO = false := by rw [HN.out, h3, h4]; rfl
    subst hno
    have hv : V = 4 := by rw [HV.out, jdI_3]
    subst hv
    have d4 : (tf != field) = true := by unfold bne; rw [h4]; rfl
    clear h4
    (try clear h2); (try clear h3); (try clear h4)
    go_wp2_with fail
    go_ret
    exact ⟨rfl, HJ5.out.bel⟩
  have d4 : (tf != field) = false := by unfold bne; rw [h4]; rfl
  have hno : NO = true := by rw [HN.out, h3, h4]; rfl
  subst hno
  have hv : V = 2 := by rw [HV.out, jdI_6 hn]
  subst hv
  (try clear h2); (try clear h3); (try clear h4)
  go_wp2_with fail
  go_ret
  exact ⟨rfl, HJ5.out.bel⟩
end Go.Proofs.YthkmeneepkaedaaGreatDoor
