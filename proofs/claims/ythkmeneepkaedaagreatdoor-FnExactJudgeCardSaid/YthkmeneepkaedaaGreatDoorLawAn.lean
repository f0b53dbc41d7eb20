/-
  The laws' helpers of an Answer: compared, marked, held; what stays meanwhile.
-/
import Derived.Test.YthkmeneepkaedaaGreatDoorRows
import Derived.Test.YthkmeneepkaedaaGreatDoorBytesDigMath
import Derived.Test.YthkmeneepkaedaaGreatDoorTreeMathSlASlBBxKOwnS
import Derived.Test.YthkmeneepkaedaaGreatDoorTimeBPutMathPutNumJoinedPutTextFldMath
import Derived.Test.YthkmeneepkaedaaGreatDoorFldGShwKFldHTakesAudMathLawAuOpAuFldRiseScanMath
import Derived.Test.YthkmeneepkaedaaGreatDoorGetValGetTxtNumMathFldRdNumFromTmbMathLgMath
import Derived.Test.YthkmeneepkaedaaGreatDoorLgAtKLgAnsLawSLawMLawMGLawPfLawSG
import Derived.Test.YthkmeneepkaedaaGreatDoorLawSh
import Derived.Test.YthkmeneepkaedaaGreatDoorLawSXOneKFldBlkLawFLawFM
import Derived.Test.YthkmeneepkaedaaGreatDoorLawLhLawLzLawLm
import Derived.Test.YthkmeneepkaedaaGreatDoorProofG
import Derived.Test.YthkmeneepkaedaaGreatDoorLogRITreeHImplRtPrfLsAnMath
import Derived.Handy
import Derived.WalkSpells
import Derived.OwnWalk
namespace Go.Proofs.YthkmeneepkaedaaGreatDoor
open Go.RowKit Go.Lib
set_option linter.unusedVariables false
set_option maxRecDepth 20000

theorem an_own {a b : World} {o : Option Nat} {S : Nat → Prop} (k : a.grownBy b o) (hs : ∀ q, o = some q → S q) : But S a b := ⟨k.os, k.tape, k.output, k.size, fun q hq hn => k.block q hq (fun e => hn (hs q e.symm))⟩
theorem an_pre {S : Nat → Prop} {a b c : World} (h : Below a.heap.size a b) (k : But S b c) : But S a c := ⟨k.os.trans h.os, k.tape.trans h.tape, k.output.trans h.output, Nat.le_trans h.size k.size, fun q hq hn => (k.block q (Nat.lt_of_lt_of_le hq h.size) hn).trans (h.block q hq)⟩
theorem an_wide {S T : Nat → Prop} {a b : World} (h : But S a b) (hs : ∀ k, S k → T k) : But T a b := ⟨h.os, h.tape, h.output, h.size, fun q hq hn => h.block q hq (fun e => hn (hs q e))⟩
theorem an_trans {S : Nat → Prop} {a b c : World} (h : But S a b) (k : But S b c) : But S a c := ⟨k.os.trans h.os, k.tape.trans h.tape, k.output.trans h.output, Nat.le_trans h.size k.size, fun q hq hn => (k.block q (Nat.lt_of_lt_of_le hq h.size) hn).trans (h.block q hq hn)⟩
theorem StrO.but {S : Nat → Prop} {base : Nat} {l : List ByteArray} {v : Value} {w w' : World} (h : StrO base l v w) (k : But S w w') (hn : ∀ g, v.ownBlock = some g → ¬ S g) : StrO base l v w' := ownS_but h k hn
theorem StrO.form {base n : Nat} {l : List ByteArray} {p : Option Addr} {c : Nat} {w : World} (h : StrO base l (.slice p n c) w) (hn : l.length = n) : TxtAt w p l ∧ l.length ≤ c := by
  obtain ⟨p', c', e, h1, h2⟩ := ownS_form h
  injection e with e1 e2 e3
  subst e1 e3
  exact ⟨h2, h1⟩
/-- The blocks of an answer. -/
def anS (v1 v2 v3 v4 : Value) (k : Nat) : Prop := v1.ownBlock = some k ∨ v2.ownBlock = some k ∨ v3.ownBlock = some k ∨ v4.ownBlock = some k
theorem anS_from {base : Nat} {o : Ans} {v1 v2 v3 v4 : Value} {w : World} (h : AnsO base o v1 v2 v3 v4 w) {k : Nat} (hk : anS v1 v2 v3 v4 k) : base ≤ k ∧ k < w.heap.size := by
  rcases hk with e | e | e | e
  · exact h.o1.lt k e
  · exact h.o2.lt k e
  · exact h.o3.lt k e
  · exact h.o4.lt k e
theorem AnsO.but {S : Nat → Prop} {base : Nat} {o : Ans} {v1 v2 v3 v4 : Value} {w w' : World} (h : AnsO base o v1 v2 v3 v4 w) (k : But S w w') (hn : ∀ q, anS v1 v2 v3 v4 q → ¬ S q) : AnsO base o v1 v2 v3 v4 w' :=
  ⟨h.o1.but k (fun g e => hn g (.inl e)), h.o2.but k (fun g e => hn g (.inr (.inl e))), h.o3.but k (fun g e => hn g (.inr (.inr (.inl e)))), h.o4.but k (fun g e => hn g (.inr (.inr (.inr e)))), h.a12, h.a13, h.a14, h.a23, h.a24, h.a34⟩
/-- The answer whose texts are the marks. -/
def anM (n1 n2 n3 n4 : Nat) : Ans := ⟨⟨#[]⟩, 0, 0, marksN 1 n1, ⟨⟨#[]⟩, 0, marksN (n1 + 1) n2, marksN (n2 + (n1 + 1)) n3, 0, ⟨#[]⟩, ⟨#[]⟩⟩, ⟨#[]⟩, 0, 0, marksN (n3 + (n2 + (n1 + 1))) n4⟩
def anN (o : Ans) : Nat := o.p2.length + (o.sh.cs.length + (o.sh.ns.length + (o.p1.length + 1)))
theorem markT_any (s : Nat) (hs1 : 1 ≤ s) (base : Nat) (p : Option Addr) (c : Nat) (l : List ByteArray) (w : World) (h : StrO base l (.slice p l.length c) w) (hl : s + l.length ≤ 16777217) :
    Calls Tryz.prog 47 #[.slice p l.length c, .int .i64 (s : Int)] w fun e w' => e = .returned (.int .i64 ((l.length : Int) + s)) ∧ StrO base (marksN s l.length) (.slice p l.length c) w' ∧ But (fun k => (Value.slice p l.length c).ownBlock = some k) w w' := by
  refine (markG_any s hs1 base _ l w h hl).mono ?_
  rintro e y ⟨rfl, o, g⟩
  refine ⟨rfl, ?_, an_own g (fun q e => e)⟩
  unfold StrO
  rw [marksN_len]
  exact o
set_option maxHeartbeats 2000000 in
theorem markProofN_any (lf : ByteArray) (ix sz : Int) (s : Nat) (hs1 : 1 ≤ s) (base : Nat) (pg : Option Addr) (cg : Nat) (P : List ByteArray) (w : World) (o : StrO base P (.slice pg P.length cg) w) (hl : s + P.length ≤ 16777217) :
    Calls Tryz.prog 48 #[.agg #[.string lf, .int .i64 ix, .int .i64 sz, .slice pg P.length cg], .int .i64 (s : Int)] w fun e w' => e = .returned (.int .i64 ((P.length : Int) + s)) ∧ StrO base (marksN s P.length) (.slice pg P.length cg) w' ∧ But (fun k => (Value.slice pg P.length cg).ownBlock = some k) w w' := by
  obtain ⟨W1, hW1⟩ : ∃ W1, W1 = w.alloc (.cells #[.string lf, .int .i64 ix, .int .i64 sz, .slice pg P.length cg] 35) := ⟨_, rfl⟩
  have HW1 : Hid (W1 = w.alloc (.cells #[.string lf, .int .i64 ix, .int .i64 sz, .slice pg P.length cg] 35)) := hW1
  have HB1 : Hid (Below w.heap.size w W1) := by rw [hW1]; exact (Below.refl _ _).alloc (Nat.le_refl _) _
  have K1 : Hid (Bxs W1 w.heap.size 35 #[.string lf, .int .i64 ix, .int .i64 sz, .slice pg P.length cg]) := by rw [hW1]; exact Bxs.new _ _ _
  have hM := markT_any s hs1 base pg cg P W1 (o.below HB1.out) hl
  have x3 := K1.out.cell 3
  rw [HW1.out] at x3
  clear hW1 o
  go_enter Tryz.func48, Tryz.ntmps48
  go_wp2_with fail
  rw [← HW1.out]
  refine hM.mono ?_
  rintro e y ⟨rfl, o2, hg⟩
  have HG : Hid (But (fun k => (Value.slice pg P.length cg).ownBlock = some k) w y) := an_pre HB1.out hg
  have HO : Hid (StrO base (marksN s P.length) (.slice pg P.length cg) y) := o2
  clear hM hg o2 x3
  go_wp2_with fail
  go_ret
  exact ⟨rfl, HO.out, HG.out⟩
set_option maxHeartbeats 2000000 in
theorem heldProofN_any (lf : ByteArray) (ix sz : Int) (s : Nat) (hs1 : 1 ≤ s) (pg : Option Addr) (cg n : Nat) (w : World) (hp : TxtAt w pg (marksN s n)) (hn : s + n ≤ 16777217) (hc : n ≤ cg) :
    Calls Tryz.prog 50 #[.agg #[.string lf, .int .i64 ix, .int .i64 sz, .slice pg n cg], .int .i64 (s : Int)] w fun e w' => e = .returned (.int .i64 ((n : Int) + s)) ∧ Below w.heap.size w w' := by
  obtain ⟨W1, hW1⟩ : ∃ W1, W1 = w.alloc (.cells #[.string lf, .int .i64 ix, .int .i64 sz, .slice pg n cg] 35) := ⟨_, rfl⟩
  have HW1 : Hid (W1 = w.alloc (.cells #[.string lf, .int .i64 ix, .int .i64 sz, .slice pg n cg] 35)) := hW1
  have B1 : Hid (Below w.heap.size w W1) := by rw [hW1]; exact (Below.refl _ _).alloc (Nat.le_refl _) _
  have K1 : Hid (Bxs W1 w.heap.size 35 #[.string lf, .int .i64 ix, .int .i64 sz, .slice pg n cg]) := by rw [hW1]; exact Bxs.new _ _ _
  have hM := heldG_any s hs1 pg cg n W1 (hp.below B1.out) hn hc
  have d0 : decide ((n : Int) + (s : Int) < 0) = false := decide_eq_false (by omega)
  have x3 := K1.out.cell 3
  rw [HW1.out] at x3
  clear hW1 hp
  go_enter Tryz.func50, Tryz.ntmps50
  go_wp2_with fail
  rw [← HW1.out]
  refine hM.mono ?_
  rintro e y ⟨rfl, b⟩
  clear hM x3
  go_wp2_with fail
  go_ret
  exact ⟨rfl, chainB B1.out b⟩
set_option maxHeartbeats 2000000 in
theorem markShownN_any (k : ByteArray) (at_ ix : Int) (s_ v : ByteArray) (s : Nat) (hs1 : 1 ≤ s) (base : Nat) (p1 : Option Addr) (c1 : Nat) (ns : List ByteArray) (p2 : Option Addr) (c2 : Nat) (cs : List ByteArray) (w : World) (o1 : StrO base ns (.slice p1 ns.length c1) w) (o2 : StrO base cs (.slice p2 cs.length c2) w) (ha : Aprt (.slice p1 ns.length c1) (.slice p2 cs.length c2)) (hl : s + ns.length + cs.length ≤ 16777217) :
    Calls Tryz.prog 49 #[.agg #[.string k, .int .i64 at_, .slice p1 ns.length c1, .slice p2 cs.length c2, .int .i64 ix, .string s_, .string v], .int .i64 (s : Int)] w fun e w' => e = .returned (.int .i64 ((cs.length : Int) + ((ns.length : Int) + s))) ∧ StrO base (marksN s ns.length) (.slice p1 ns.length c1) w' ∧ StrO base (marksN (ns.length + s) cs.length) (.slice p2 cs.length c2) w' ∧ But (fun k => (Value.slice p1 ns.length c1).ownBlock = some k ∨ (Value.slice p2 cs.length c2).ownBlock = some k) w w' := by
  obtain ⟨W1, hW1⟩ : ∃ W1, W1 = w.alloc (.cells #[.string k, .int .i64 at_, .slice p1 ns.length c1, .slice p2 cs.length c2, .int .i64 ix, .string s_, .string v] 37) := ⟨_, rfl⟩
  have HW1 : Hid (W1 = w.alloc (.cells #[.string k, .int .i64 at_, .slice p1 ns.length c1, .slice p2 cs.length c2, .int .i64 ix, .string s_, .string v] 37)) := hW1
  have X1 : Hid (Bxs W1 w.heap.size 37 #[.string k, .int .i64 at_, .slice p1 ns.length c1, .slice p2 cs.length c2, .int .i64 ix, .string s_, .string v]) := by rw [hW1]; exact Bxs.new _ _ _
  have B1 : Hid (Below w.heap.size w W1) := by rw [hW1]; exact (Below.refl _ _).alloc (Nat.le_refl _) _
  have HNB : Hid ((Value.slice p1 ns.length c1).ownBlock ≠ some w.heap.size) := fun e => by have := (o1.lt _ e).2; omega
  have O2 : Hid (StrO base cs (.slice p2 cs.length c2) W1) := o2.below B1.out
  have H1 := markT_any s hs1 base p1 c1 ns W1 (o1.below B1.out) (by omega)
  have HA : Hid (Aprt (.slice p1 ns.length c1) (.slice p2 cs.length c2)) := ha
  clear hW1 o1 o2 ha
  go_enter Tryz.func49, Tryz.ntmps49
  go_wp2_with fail
  rw [← HW1.out]
  refine H1.mono ?_
  rintro e w2 ⟨rfl, q1, g1⟩
  have x2 : w2.cell? ⟨w.heap.size, 3, none⟩ = some (.slice p2 cs.length c2) := (X1.out.but g1 HNB.out).cell 3
  have q2 := O2.out.but g1 (fun g h h' => HA.out g h' h)
  have H2 := markT_any (ns.length + s) (by omega) base p2 c2 cs w2 q2 (by omega)
  rw [show ((ns.length + s : Nat) : Int) = (ns.length : Int) + (s : Int) by omega] at H2
  have Q1 : Hid (StrO base (marksN s ns.length) (.slice p1 ns.length c1) w2) := q1
  have G1 : Hid (But (fun k => (Value.slice p1 ns.length c1).ownBlock = some k) w w2) := an_pre B1.out g1
  clear q1 q2 g1 H1 O2 X1 HNB
  go_wp2_with fail
  refine H2.mono ?_
  rintro e w3 ⟨rfl, q3, g3⟩
  have HP : Hid (StrO base (marksN s ns.length) (.slice p1 ns.length c1) w3 ∧ StrO base (marksN (ns.length + s) cs.length) (.slice p2 cs.length c2) w3 ∧ But (fun k => (Value.slice p1 ns.length c1).ownBlock = some k ∨ (Value.slice p2 cs.length c2).ownBlock = some k) w w3) := ⟨Q1.out.but g3 (fun g h h' => HA.out g h h'), q3, an_trans (an_wide G1.out (fun k h => .inl h)) (an_wide g3 (fun k h => .inr h))⟩
  clear q3 g3 H2 x2 Q1
  go_wp2_with fail
  go_ret
  exact ⟨rfl, HP.out⟩
set_option maxHeartbeats 2000000 in
theorem heldShownN_any (k : ByteArray) (at_ ix : Int) (s_ v : ByteArray) (s : Nat) (hs1 : 1 ≤ s) (p1 : Option Addr) (c1 n1 : Nat) (p2 : Option Addr) (c2 n2 : Nat) (w : World) (h1 : TxtAt w p1 (marksN s n1)) (h2 : TxtAt w p2 (marksN (n1 + s) n2)) (hl : s + n1 + n2 ≤ 16777217) (m1 : n1 ≤ c1) (m2 : n2 ≤ c2) :
    Calls Tryz.prog 51 #[.agg #[.string k, .int .i64 at_, .slice p1 n1 c1, .slice p2 n2 c2, .int .i64 ix, .string s_, .string v], .int .i64 (s : Int)] w fun e w' => e = .returned (.int .i64 ((n2 : Int) + ((n1 : Int) + s))) ∧ Below w.heap.size w w' := by
  obtain ⟨W1, hW1⟩ : ∃ W1, W1 = w.alloc (.cells #[.string k, .int .i64 at_, .slice p1 n1 c1, .slice p2 n2 c2, .int .i64 ix, .string s_, .string v] 37) := ⟨_, rfl⟩
  have HW1 : Hid (W1 = w.alloc (.cells #[.string k, .int .i64 at_, .slice p1 n1 c1, .slice p2 n2 c2, .int .i64 ix, .string s_, .string v] 37)) := hW1
  have X1 : Hid (Bxs W1 w.heap.size 37 #[.string k, .int .i64 at_, .slice p1 n1 c1, .slice p2 n2 c2, .int .i64 ix, .string s_, .string v]) := by rw [hW1]; exact Bxs.new _ _ _
  have B1 : Hid (Below w.heap.size w W1) := by rw [hW1]; exact (Below.refl _ _).alloc (Nat.le_refl _) _
  have H1 := heldG_any s hs1 p1 c1 n1 W1 (h1.below B1.out) (by omega) m1
  have T2 : Hid (TxtAt W1 p2 (marksN (n1 + s) n2)) := h2.below B1.out
  clear hW1 h1 h2
  have d1 : decide ((n1 : Int) + (s : Int) < 0) = false := decide_eq_false (by omega)
  have d2 : decide ((n2 : Int) + ((n1 : Int) + (s : Int)) < 0) = false := decide_eq_false (by omega)
  go_enter Tryz.func51, Tryz.ntmps51
  go_wp2_with fail
  rw [← HW1.out]
  refine H1.mono ?_
  rintro e w2 ⟨rfl, b2⟩
  have x2 : w2.cell? ⟨w.heap.size, 3, none⟩ = some (.slice p2 n2 c2) := (X1.out.below b2).cell 3
  have H2 := heldG_any (n1 + s) (by omega) p2 c2 n2 w2 (T2.out.below b2) (by omega) m2
  rw [show ((n1 + s : Nat) : Int) = (n1 : Int) + (s : Int) by omega] at H2
  have b2 := chainB B1.out b2
  clear H1 T2 X1
  go_wp2_with fail
  refine H2.mono ?_
  rintro e w3 ⟨rfl, b3⟩
  have b3 := chainB b2 b3
  clear H2 x2
  go_wp2_with fail
  go_ret
  exact ⟨rfl, b3⟩
/-- An answer as it lies: its four rows as slices. -/
theorem AnsO.at {base : Nat} {o : Ans} {v1 v2 v3 v4 : Value} {w : World} (h : AnsO base o v1 v2 v3 v4 w) : ∃ p1 c1 p2 c2 p3 c3 p4 c4, v1 = .slice p1 o.p1.length c1 ∧ v2 = .slice p2 o.sh.ns.length c2 ∧ v3 = .slice p3 o.sh.cs.length c3 ∧ v4 = .slice p4 o.p2.length c4 := by
  obtain ⟨p1, c1, h1, -, -⟩ := ownS_form h.o1
  obtain ⟨p2, c2, h2, -, -⟩ := ownS_form h.o2
  obtain ⟨p3, c3, h3, -, -⟩ := ownS_form h.o3
  obtain ⟨p4, c4, h4, -, -⟩ := ownS_form h.o4
  exact ⟨p1, c1, p2, c2, p3, c3, p4, c4, h1, h2, h3, h4⟩
/-- No row of it is greater than the reach. -/
def anSm (o : Ans) : Prop := o.p1.length ≤ 1048576 ∧ o.sh.ns.length ≤ 1048576 ∧ o.sh.cs.length ≤ 1048576 ∧ o.p2.length ≤ 1048576
set_option maxHeartbeats 4000000 in
theorem markAnswer_any (o : Ans) (p1 : Option Addr) (c1 : Nat) (p2 : Option Addr) (c2 : Nat) (p3 : Option Addr) (c3 : Nat) (p4 : Option Addr) (c4 : Nat) (base : Nat) (w : World) (h : AnsO base o (.slice p1 o.p1.length c1) (.slice p2 o.sh.ns.length c2) (.slice p3 o.sh.cs.length c3) (.slice p4 o.p2.length c4) w) (hz : anSm o) :
    Calls Tryz.prog 15 #[.agg #[.string o.l1, .int .i64 o.i1, .int .i64 o.s1, .slice p1 o.p1.length c1, .string o.sh.k, .int .i64 o.sh.at_, .slice p2 o.sh.ns.length c2, .slice p3 o.sh.cs.length c3, .int .i64 o.sh.ix, .string o.sh.s, .string o.sh.v, .string o.l2, .int .i64 o.i2, .int .i64 o.s2, .slice p4 o.p2.length c4], .int .i64 1] w fun e w' => e = .returned (.int .i64 (anN o : Int)) ∧ AnsO base (anM o.p1.length o.sh.ns.length o.sh.cs.length o.p2.length) (.slice p1 o.p1.length c1) (.slice p2 o.sh.ns.length c2) (.slice p3 o.sh.cs.length c3) (.slice p4 o.p2.length c4) w' ∧ But (anS (.slice p1 o.p1.length c1) (.slice p2 o.sh.ns.length c2) (.slice p3 o.sh.cs.length c3) (.slice p4 o.p2.length c4)) w w' := by
  have hN : ((anN o : Nat) : Int) = (o.p2.length : Int) + ((o.sh.cs.length : Int) + ((o.sh.ns.length : Int) + ((o.p1.length : Int) + 1))) := by unfold anN; omega
  rw [hN]
  obtain ⟨z1, z2, z3, z4⟩ := hz
  obtain ⟨W1, hW1⟩ : ∃ W1, W1 = w.alloc (.cells #[.string o.l1, .int .i64 o.i1, .int .i64 o.s1, .slice p1 o.p1.length c1, .string o.sh.k, .int .i64 o.sh.at_, .slice p2 o.sh.ns.length c2, .slice p3 o.sh.cs.length c3, .int .i64 o.sh.ix, .string o.sh.s, .string o.sh.v, .string o.l2, .int .i64 o.i2, .int .i64 o.s2, .slice p4 o.p2.length c4] 39) := ⟨_, rfl⟩
  have HW1 : Hid (W1 = w.alloc (.cells #[.string o.l1, .int .i64 o.i1, .int .i64 o.s1, .slice p1 o.p1.length c1, .string o.sh.k, .int .i64 o.sh.at_, .slice p2 o.sh.ns.length c2, .slice p3 o.sh.cs.length c3, .int .i64 o.sh.ix, .string o.sh.s, .string o.sh.v, .string o.l2, .int .i64 o.i2, .int .i64 o.s2, .slice p4 o.p2.length c4] 39)) := hW1
  have X1 : Hid (Bxs W1 w.heap.size 39 #[.string o.l1, .int .i64 o.i1, .int .i64 o.s1, .slice p1 o.p1.length c1, .string o.sh.k, .int .i64 o.sh.at_, .slice p2 o.sh.ns.length c2, .slice p3 o.sh.cs.length c3, .int .i64 o.sh.ix, .string o.sh.s, .string o.sh.v, .string o.l2, .int .i64 o.i2, .int .i64 o.s2, .slice p4 o.p2.length c4]) := by rw [hW1]; exact Bxs.new _ _ _
  have B1 : Hid (Below w.heap.size w W1) := by rw [hW1]; exact (Below.refl _ _).alloc (Nat.le_refl _) _
  have HNB : Hid (∀ k, anS (.slice p1 o.p1.length c1) (.slice p2 o.sh.ns.length c2) (.slice p3 o.sh.cs.length c3) (.slice p4 o.p2.length c4) k → k ≠ w.heap.size) := fun k hk e => by have := (anS_from h hk).2; omega
  have HO : Hid (AnsO base o (.slice p1 o.p1.length c1) (.slice p2 o.sh.ns.length c2) (.slice p3 o.sh.cs.length c3) (.slice p4 o.p2.length c4) W1) := h.below B1.out
  obtain ⟨a12, a13, a14, a23, a24, a34⟩ := (⟨h.a12, h.a13, h.a14, h.a23, h.a24, h.a34⟩ : _ ∧ _ ∧ _ ∧ _ ∧ _ ∧ _)
  have HA : Hid (Aprt (.slice p1 o.p1.length c1) (.slice p2 o.sh.ns.length c2) ∧ Aprt (.slice p1 o.p1.length c1) (.slice p3 o.sh.cs.length c3) ∧ Aprt (.slice p1 o.p1.length c1) (.slice p4 o.p2.length c4) ∧ Aprt (.slice p2 o.sh.ns.length c2) (.slice p3 o.sh.cs.length c3) ∧ Aprt (.slice p2 o.sh.ns.length c2) (.slice p4 o.p2.length c4) ∧ Aprt (.slice p3 o.sh.cs.length c3) (.slice p4 o.p2.length c4)) := ⟨a12, a13, a14, a23, a24, a34⟩
  have hM1 := markProofN_any o.l1 o.i1 o.s1 1 (Nat.le_refl _) base p1 c1 o.p1 W1 HO.out.o1 (by omega)
  rw [show ((1 : Nat) : Int) = 1 from rfl] at hM1
  have k0 := X1.out.cell 0
  have k1 := X1.out.cell 1
  have k2 := X1.out.cell 2
  have k3 := X1.out.cell 3
  rw [HW1.out] at k0 k1 k2 k3
  clear hW1 h a12 a13 a14 a23 a24 a34 hN
  go_enter Tryz.func15, Tryz.ntmps15
  go_wp2_with fail
  rw [← HW1.out]
  refine hM1.mono ?_
  rintro e w2 ⟨rfl, q1, g1⟩
  have Q1 : Hid (StrO base (marksN 1 o.p1.length) (.slice p1 o.p1.length c1) w2) := q1
  have HX2 : Hid (Bxs w2 w.heap.size 39 #[.string o.l1, .int .i64 o.i1, .int .i64 o.s1, .slice p1 o.p1.length c1, .string o.sh.k, .int .i64 o.sh.at_, .slice p2 o.sh.ns.length c2, .slice p3 o.sh.cs.length c3, .int .i64 o.sh.ix, .string o.sh.s, .string o.sh.v, .string o.l2, .int .i64 o.i2, .int .i64 o.s2, .slice p4 o.p2.length c4]) := X1.out.but g1 (fun e => HNB.out _ (.inl e) rfl)
  have HG2 : Hid (But (anS (.slice p1 o.p1.length c1) (.slice p2 o.sh.ns.length c2) (.slice p3 o.sh.cs.length c3) (.slice p4 o.p2.length c4)) w w2) := an_pre B1.out (an_wide g1 (fun k h => .inl h))
  have q2 := HO.out.o2.but g1 (fun g h h' => HA.out.1 g h' h)
  have q3 := HO.out.o3.but g1 (fun g h h' => HA.out.2.1 g h' h)
  have Q4 : Hid (StrO base o.p2 (.slice p4 o.p2.length c4) w2) := HO.out.o4.but g1 (fun g h h' => HA.out.2.2.1 g h' h)
  have hM2 := markShownN_any o.sh.k o.sh.at_ o.sh.ix o.sh.s o.sh.v (o.p1.length + 1) (by omega) base p2 c2 o.sh.ns p3 c3 o.sh.cs w2 q2 q3 HA.out.2.2.2.1 (by omega)
  rw [show ((o.p1.length + 1 : Nat) : Int) = (o.p1.length : Int) + 1 by omega] at hM2
  have k4 := HX2.out.cell 4
  have k5 := HX2.out.cell 5
  have k6 := HX2.out.cell 6
  have k7 := HX2.out.cell 7
  have k8 := HX2.out.cell 8
  have k9 := HX2.out.cell 9
  have ka := HX2.out.cell 10
  clear hM1 q1 g1 q2 q3 k0 k1 k2 k3 X1 HO B1 HW1
  go_wp2_with fail
  refine hM2.mono ?_
  rintro e w3 ⟨rfl, q2, q3, g3⟩
  have Q2 : Hid (StrO base (marksN (o.p1.length + 1) o.sh.ns.length) (.slice p2 o.sh.ns.length c2) w3) := q2
  have Q3 : Hid (StrO base (marksN (o.sh.ns.length + (o.p1.length + 1)) o.sh.cs.length) (.slice p3 o.sh.cs.length c3) w3) := q3
  have Q1b : Hid (StrO base (marksN 1 o.p1.length) (.slice p1 o.p1.length c1) w3) := Q1.out.but g3 (fun g h h' => by rcases h' with h' | h'; exact HA.out.1 g h h'; exact HA.out.2.1 g h h')
  have q4 := Q4.out.but g3 (fun g h h' => by rcases h' with h' | h'; exact HA.out.2.2.2.2.1 g h' h; exact HA.out.2.2.2.2.2 g h' h)
  have HX3 : Hid (Bxs w3 w.heap.size 39 #[.string o.l1, .int .i64 o.i1, .int .i64 o.s1, .slice p1 o.p1.length c1, .string o.sh.k, .int .i64 o.sh.at_, .slice p2 o.sh.ns.length c2, .slice p3 o.sh.cs.length c3, .int .i64 o.sh.ix, .string o.sh.s, .string o.sh.v, .string o.l2, .int .i64 o.i2, .int .i64 o.s2, .slice p4 o.p2.length c4]) := HX2.out.but g3 (fun e => by rcases e with e | e; exact HNB.out _ (.inr (.inl e)) rfl; exact HNB.out _ (.inr (.inr (.inl e))) rfl)
  have HG3 : Hid (But (anS (.slice p1 o.p1.length c1) (.slice p2 o.sh.ns.length c2) (.slice p3 o.sh.cs.length c3) (.slice p4 o.p2.length c4)) w w3) := an_trans HG2.out (an_wide g3 (fun k h => by rcases h with h | h; exact .inr (.inl h); exact .inr (.inr (.inl h))))
  have hM3 := markProofN_any o.l2 o.i2 o.s2 (o.sh.cs.length + (o.sh.ns.length + (o.p1.length + 1))) (by omega) base p4 c4 o.p2 w3 q4 (by omega)
  rw [show ((o.sh.cs.length + (o.sh.ns.length + (o.p1.length + 1)) : Nat) : Int) = (o.sh.cs.length : Int) + ((o.sh.ns.length : Int) + ((o.p1.length : Int) + 1)) by omega] at hM3
  have kb := HX3.out.cell 11
  have kc := HX3.out.cell 12
  have kd := HX3.out.cell 13
  have ke := HX3.out.cell 14
  clear hM2 q2 q3 q4 g3 k4 k5 k6 k7 k8 k9 ka Q1 Q4 HX2 HG2
  go_wp2_with fail
  refine hM3.mono ?_
  rintro e w4 ⟨rfl, q4, g4⟩
  have HP : Hid (AnsO base (anM o.p1.length o.sh.ns.length o.sh.cs.length o.p2.length) (.slice p1 o.p1.length c1) (.slice p2 o.sh.ns.length c2) (.slice p3 o.sh.cs.length c3) (.slice p4 o.p2.length c4) w4 ∧ But (anS (.slice p1 o.p1.length c1) (.slice p2 o.sh.ns.length c2) (.slice p3 o.sh.cs.length c3) (.slice p4 o.p2.length c4)) w w4) := ⟨⟨Q1b.out.but g4 (fun g h h' => HA.out.2.2.1 g h h'), Q2.out.but g4 (fun g h h' => HA.out.2.2.2.2.1 g h h'), Q3.out.but g4 (fun g h h' => HA.out.2.2.2.2.2 g h h'), q4, HA.out.1, HA.out.2.1, HA.out.2.2.1, HA.out.2.2.2.1, HA.out.2.2.2.2.1, HA.out.2.2.2.2.2⟩, an_trans HG3.out (an_wide g4 (fun k h => .inr (.inr (.inr h))))⟩
  clear hM3 q4 g4 kb kc kd ke
  go_wp2_with fail
  go_ret
  exact ⟨rfl, HP.out⟩
set_option maxHeartbeats 4000000 in
theorem heldAnswer_any (o : Ans) (p1 : Option Addr) (c1 : Nat) (p2 : Option Addr) (c2 : Nat) (p3 : Option Addr) (c3 : Nat) (p4 : Option Addr) (c4 : Nat) (base : Nat) (w : World) (h : AnsO base (anM o.p1.length o.sh.ns.length o.sh.cs.length o.p2.length) (.slice p1 o.p1.length c1) (.slice p2 o.sh.ns.length c2) (.slice p3 o.sh.cs.length c3) (.slice p4 o.p2.length c4) w) (hz : anSm o) :
    Calls Tryz.prog 16 #[.agg #[.string o.l1, .int .i64 o.i1, .int .i64 o.s1, .slice p1 o.p1.length c1, .string o.sh.k, .int .i64 o.sh.at_, .slice p2 o.sh.ns.length c2, .slice p3 o.sh.cs.length c3, .int .i64 o.sh.ix, .string o.sh.s, .string o.sh.v, .string o.l2, .int .i64 o.i2, .int .i64 o.s2, .slice p4 o.p2.length c4], .int .i64 1] w fun e w' => e = .returned (.int .i64 (anN o : Int)) ∧ Below w.heap.size w w' := by
  have hN : ((anN o : Nat) : Int) = (o.p2.length : Int) + ((o.sh.cs.length : Int) + ((o.sh.ns.length : Int) + ((o.p1.length : Int) + 1))) := by unfold anN; omega
  rw [hN]
  obtain ⟨z1, z2, z3, z4⟩ := hz
  obtain ⟨t1, m1⟩ := StrO.form (l := marksN 1 o.p1.length) h.o1 (marksN_len _ _)
  obtain ⟨t2, m2⟩ := StrO.form (l := marksN (o.p1.length + 1) o.sh.ns.length) h.o2 (marksN_len _ _)
  obtain ⟨t3, m3⟩ := StrO.form (l := marksN (o.sh.ns.length + (o.p1.length + 1)) o.sh.cs.length) h.o3 (marksN_len _ _)
  obtain ⟨t4, m4⟩ := StrO.form (l := marksN (o.sh.cs.length + (o.sh.ns.length + (o.p1.length + 1))) o.p2.length) h.o4 (marksN_len _ _)
  rw [marksN_len] at m1 m2 m3 m4
  obtain ⟨W1, hW1⟩ : ∃ W1, W1 = w.alloc (.cells #[.string o.l1, .int .i64 o.i1, .int .i64 o.s1, .slice p1 o.p1.length c1, .string o.sh.k, .int .i64 o.sh.at_, .slice p2 o.sh.ns.length c2, .slice p3 o.sh.cs.length c3, .int .i64 o.sh.ix, .string o.sh.s, .string o.sh.v, .string o.l2, .int .i64 o.i2, .int .i64 o.s2, .slice p4 o.p2.length c4] 39) := ⟨_, rfl⟩
  have HW1 : Hid (W1 = w.alloc (.cells #[.string o.l1, .int .i64 o.i1, .int .i64 o.s1, .slice p1 o.p1.length c1, .string o.sh.k, .int .i64 o.sh.at_, .slice p2 o.sh.ns.length c2, .slice p3 o.sh.cs.length c3, .int .i64 o.sh.ix, .string o.sh.s, .string o.sh.v, .string o.l2, .int .i64 o.i2, .int .i64 o.s2, .slice p4 o.p2.length c4] 39)) := hW1
  have X1 : Hid (Bxs W1 w.heap.size 39 #[.string o.l1, .int .i64 o.i1, .int .i64 o.s1, .slice p1 o.p1.length c1, .string o.sh.k, .int .i64 o.sh.at_, .slice p2 o.sh.ns.length c2, .slice p3 o.sh.cs.length c3, .int .i64 o.sh.ix, .string o.sh.s, .string o.sh.v, .string o.l2, .int .i64 o.i2, .int .i64 o.s2, .slice p4 o.p2.length c4]) := by rw [hW1]; exact Bxs.new _ _ _
  have B1 : Hid (Below w.heap.size w W1) := by rw [hW1]; exact (Below.refl _ _).alloc (Nat.le_refl _) _
  have T2 : Hid (TxtAt W1 p2 (marksN (o.p1.length + 1) o.sh.ns.length)) := t2.below B1.out
  have T3 : Hid (TxtAt W1 p3 (marksN (o.sh.ns.length + (o.p1.length + 1)) o.sh.cs.length)) := t3.below B1.out
  have T4 : Hid (TxtAt W1 p4 (marksN (o.sh.cs.length + (o.sh.ns.length + (o.p1.length + 1))) o.p2.length)) := t4.below B1.out
  have hM1 := heldProofN_any o.l1 o.i1 o.s1 1 (Nat.le_refl _) p1 c1 o.p1.length W1 (t1.below B1.out) (by omega) m1
  rw [show ((1 : Nat) : Int) = 1 from rfl] at hM1
  have k0 := X1.out.cell 0
  have k1 := X1.out.cell 1
  have k2 := X1.out.cell 2
  have k3 := X1.out.cell 3
  have d1 : decide ((o.p1.length : Int) + 1 < 0) = false := decide_eq_false (by omega)
  have d2 : decide ((o.sh.cs.length : Int) + ((o.sh.ns.length : Int) + ((o.p1.length : Int) + 1)) < 0) = false := decide_eq_false (by omega)
  have d3 : decide ((o.p2.length : Int) + ((o.sh.cs.length : Int) + ((o.sh.ns.length : Int) + ((o.p1.length : Int) + 1))) < 0) = false := decide_eq_false (by omega)
  rw [HW1.out] at k0 k1 k2 k3
  clear hW1 h t1 t2 t3 t4 hN
  go_enter Tryz.func16, Tryz.ntmps16
  go_wp2_with fail
  rw [← HW1.out]
  refine hM1.mono ?_
  rintro e w2 ⟨rfl, b2⟩
  have HX2 : Hid (Bxs w2 w.heap.size 39 #[.string o.l1, .int .i64 o.i1, .int .i64 o.s1, .slice p1 o.p1.length c1, .string o.sh.k, .int .i64 o.sh.at_, .slice p2 o.sh.ns.length c2, .slice p3 o.sh.cs.length c3, .int .i64 o.sh.ix, .string o.sh.s, .string o.sh.v, .string o.l2, .int .i64 o.i2, .int .i64 o.s2, .slice p4 o.p2.length c4]) := X1.out.below b2
  have hM2 := heldShownN_any o.sh.k o.sh.at_ o.sh.ix o.sh.s o.sh.v (o.p1.length + 1) (by omega) p2 c2 o.sh.ns.length p3 c3 o.sh.cs.length w2 (T2.out.below b2) (T3.out.below b2) (by omega) m2 m3
  rw [show ((o.p1.length + 1 : Nat) : Int) = (o.p1.length : Int) + 1 by omega] at hM2
  have T4b : Hid (TxtAt w2 p4 (marksN (o.sh.cs.length + (o.sh.ns.length + (o.p1.length + 1))) o.p2.length)) := T4.out.below b2
  have HB2 : Hid (Below w.heap.size w w2) := chainB B1.out b2
  have k4 := HX2.out.cell 4
  have k5 := HX2.out.cell 5
  have k6 := HX2.out.cell 6
  have k7 := HX2.out.cell 7
  have k8 := HX2.out.cell 8
  have k9 := HX2.out.cell 9
  have ka := HX2.out.cell 10
  clear hM1 k0 k1 k2 k3 X1 T2 T3 T4 B1 HW1 b2
  go_wp2_with fail
  refine hM2.mono ?_
  rintro e w3 ⟨rfl, b3⟩
  have HX3 : Hid (Bxs w3 w.heap.size 39 #[.string o.l1, .int .i64 o.i1, .int .i64 o.s1, .slice p1 o.p1.length c1, .string o.sh.k, .int .i64 o.sh.at_, .slice p2 o.sh.ns.length c2, .slice p3 o.sh.cs.length c3, .int .i64 o.sh.ix, .string o.sh.s, .string o.sh.v, .string o.l2, .int .i64 o.i2, .int .i64 o.s2, .slice p4 o.p2.length c4]) := HX2.out.below b3
  have hM3 := heldProofN_any o.l2 o.i2 o.s2 (o.sh.cs.length + (o.sh.ns.length + (o.p1.length + 1))) (by omega) p4 c4 o.p2.length w3 (T4b.out.below b3) (by omega) m4
  rw [show ((o.sh.cs.length + (o.sh.ns.length + (o.p1.length + 1)) : Nat) : Int) = (o.sh.cs.length : Int) + ((o.sh.ns.length : Int) + ((o.p1.length : Int) + 1)) by omega] at hM3
  have HB3 : Hid (Below w.heap.size w w3) := chainB HB2.out b3
  have kb := HX3.out.cell 11
  have kc := HX3.out.cell 12
  have kd := HX3.out.cell 13
  have ke := HX3.out.cell 14
  clear hM2 k4 k5 k6 k7 k8 k9 ka HX2 T4b HB2 b3
  go_wp2_with fail
  refine hM3.mono ?_
  rintro e w4 ⟨rfl, b4⟩
  have HB4 : Hid (Below w.heap.size w w4) := chainB HB3.out b4
  clear hM3 b4 kb kc kd ke
  go_wp2_with fail
  go_ret
  exact ⟨rfl, HB4.out⟩
set_option maxHeartbeats 4000000 in
theorem eqAnswer_any (o : Ans) (p1 : Option Addr) (c1 : Nat) (p2 : Option Addr) (c2 : Nat) (p3 : Option Addr) (c3 : Nat) (p4 : Option Addr) (c4 : Nat) (q1 : Option Addr) (d1 : Nat) (q2 : Option Addr) (d2 : Nat) (q3 : Option Addr) (d3 : Nat) (q4 : Option Addr) (d4 : Nat) (b b' : Nat) (w : World) (h : AnsO b o (.slice p1 o.p1.length c1) (.slice p2 o.sh.ns.length c2) (.slice p3 o.sh.cs.length c3) (.slice p4 o.p2.length c4) w) (g : AnsO b' o (.slice q1 o.p1.length d1) (.slice q2 o.sh.ns.length d2) (.slice q3 o.sh.cs.length d3) (.slice q4 o.p2.length d4) w) (hz : anSm o) :
    Calls Tryz.prog 13 #[.agg #[.string o.l1, .int .i64 o.i1, .int .i64 o.s1, .slice p1 o.p1.length c1, .string o.sh.k, .int .i64 o.sh.at_, .slice p2 o.sh.ns.length c2, .slice p3 o.sh.cs.length c3, .int .i64 o.sh.ix, .string o.sh.s, .string o.sh.v, .string o.l2, .int .i64 o.i2, .int .i64 o.s2, .slice p4 o.p2.length c4], .agg #[.string o.l1, .int .i64 o.i1, .int .i64 o.s1, .slice q1 o.p1.length d1, .string o.sh.k, .int .i64 o.sh.at_, .slice q2 o.sh.ns.length d2, .slice q3 o.sh.cs.length d3, .int .i64 o.sh.ix, .string o.sh.s, .string o.sh.v, .string o.l2, .int .i64 o.i2, .int .i64 o.s2, .slice q4 o.p2.length d4]] w fun e w' => e = .returned (.bool true) ∧ Below w.heap.size w w' := by
  obtain ⟨z1, z2, z3, z4⟩ := hz
  obtain ⟨t1, m1⟩ := StrO.form h.o1 rfl
  obtain ⟨t2, m2⟩ := StrO.form h.o2 rfl
  obtain ⟨t3, m3⟩ := StrO.form h.o3 rfl
  obtain ⟨t4, m4⟩ := StrO.form h.o4 rfl
  obtain ⟨u1, r1⟩ := StrO.form g.o1 rfl
  obtain ⟨u2, r2⟩ := StrO.form g.o2 rfl
  obtain ⟨u3, r3⟩ := StrO.form g.o3 rfl
  obtain ⟨u4, r4⟩ := StrO.form g.o4 rfl
  obtain ⟨W0, hW0⟩ : ∃ W0, W0 = w.alloc (.cells #[.string o.l1, .int .i64 o.i1, .int .i64 o.s1, .slice p1 o.p1.length c1, .string o.sh.k, .int .i64 o.sh.at_, .slice p2 o.sh.ns.length c2, .slice p3 o.sh.cs.length c3, .int .i64 o.sh.ix, .string o.sh.s, .string o.sh.v, .string o.l2, .int .i64 o.i2, .int .i64 o.s2, .slice p4 o.p2.length c4] 39) := ⟨_, rfl⟩
  have hz0 : W0.heap.size = w.heap.size + 1 := by rw [hW0]; exact szA _ _
  obtain ⟨W1, hW1⟩ : ∃ W1, W1 = W0.alloc (.cells #[.string o.l1, .int .i64 o.i1, .int .i64 o.s1, .slice q1 o.p1.length d1, .string o.sh.k, .int .i64 o.sh.at_, .slice q2 o.sh.ns.length d2, .slice q3 o.sh.cs.length d3, .int .i64 o.sh.ix, .string o.sh.s, .string o.sh.v, .string o.l2, .int .i64 o.i2, .int .i64 o.s2, .slice q4 o.p2.length d4] 39) := ⟨_, rfl⟩
  have X1 : Hid (Bxs W1 w.heap.size 39 #[.string o.l1, .int .i64 o.i1, .int .i64 o.s1, .slice p1 o.p1.length c1, .string o.sh.k, .int .i64 o.sh.at_, .slice p2 o.sh.ns.length c2, .slice p3 o.sh.cs.length c3, .int .i64 o.sh.ix, .string o.sh.s, .string o.sh.v, .string o.l2, .int .i64 o.i2, .int .i64 o.s2, .slice p4 o.p2.length c4]) := by rw [hW1, hW0]; exact (Bxs.new _ _ _).alloc _
  have Y1 : Hid (Bxs W1 (w.heap.size + 1) 39 #[.string o.l1, .int .i64 o.i1, .int .i64 o.s1, .slice q1 o.p1.length d1, .string o.sh.k, .int .i64 o.sh.at_, .slice q2 o.sh.ns.length d2, .slice q3 o.sh.cs.length d3, .int .i64 o.sh.ix, .string o.sh.s, .string o.sh.v, .string o.l2, .int .i64 o.i2, .int .i64 o.s2, .slice q4 o.p2.length d4]) := by have hh := Bxs.new W0 39 #[.string o.l1, .int .i64 o.i1, .int .i64 o.s1, .slice q1 o.p1.length d1, .string o.sh.k, .int .i64 o.sh.at_, .slice q2 o.sh.ns.length d2, .slice q3 o.sh.cs.length d3, .int .i64 o.sh.ix, .string o.sh.s, .string o.sh.v, .string o.l2, .int .i64 o.i2, .int .i64 o.s2, .slice q4 o.p2.length d4]; rw [hz0] at hh; rw [hW1]; exact hh
  have B1 : Hid (Below w.heap.size w W1) := by rw [hW1, hW0]; exact alB ((Below.refl _ _).alloc (Nat.le_refl _) _) _
  have HW1 : Hid (W1 = (w.alloc (.cells #[.string o.l1, .int .i64 o.i1, .int .i64 o.s1, .slice p1 o.p1.length c1, .string o.sh.k, .int .i64 o.sh.at_, .slice p2 o.sh.ns.length c2, .slice p3 o.sh.cs.length c3, .int .i64 o.sh.ix, .string o.sh.s, .string o.sh.v, .string o.l2, .int .i64 o.i2, .int .i64 o.s2, .slice p4 o.p2.length c4] 39)).alloc (.cells #[.string o.l1, .int .i64 o.i1, .int .i64 o.s1, .slice q1 o.p1.length d1, .string o.sh.k, .int .i64 o.sh.at_, .slice q2 o.sh.ns.length d2, .slice q3 o.sh.cs.length d3, .int .i64 o.sh.ix, .string o.sh.s, .string o.sh.v, .string o.l2, .int .i64 o.i2, .int .i64 o.s2, .slice q4 o.p2.length d4] 39)) := hW1.trans (by rw [hW0])
  have HT : Hid (∀ x, Below w.heap.size w x → (TxtAt x p2 o.sh.ns ∧ TxtAt x q2 o.sh.ns ∧ TxtAt x p3 o.sh.cs ∧ TxtAt x q3 o.sh.cs) ∧ TxtAt x p4 o.p2 ∧ TxtAt x q4 o.p2) := fun x hb => ⟨⟨t2.below hb, u2.below hb, t3.below hb, u3.below hb⟩, t4.below hb, u4.below hb⟩
  have hM1 := eqProof_any o.l1 o.i1 o.s1 p1 q1 c1 d1 o.p1 W1 (t1.below B1.out) (u1.below B1.out) z1 m1 r1
  have k0 := X1.out.cell 0
  have k1 := X1.out.cell 1
  have k2 := X1.out.cell 2
  have k3 := X1.out.cell 3
  have j0 := Y1.out.cell 0
  have j1 := Y1.out.cell 1
  have j2 := Y1.out.cell 2
  have j3 := Y1.out.cell 3
  rw [HW1.out] at k0 k1 k2 k3 j0 j1 j2 j3
  clear hW1 hW0 hz0 h g t1 t2 t3 t4 u1 u2 u3 u4
  go_enter Tryz.func13, Tryz.ntmps13
  go_wp2_with fail
  rw [← HW1.out]
  refine hM1.mono ?_
  rintro e w2 ⟨rfl, b2⟩
  have HX2 : Hid (Bxs w2 w.heap.size 39 #[.string o.l1, .int .i64 o.i1, .int .i64 o.s1, .slice p1 o.p1.length c1, .string o.sh.k, .int .i64 o.sh.at_, .slice p2 o.sh.ns.length c2, .slice p3 o.sh.cs.length c3, .int .i64 o.sh.ix, .string o.sh.s, .string o.sh.v, .string o.l2, .int .i64 o.i2, .int .i64 o.s2, .slice p4 o.p2.length c4]) := X1.out.below b2
  have HY2 : Hid (Bxs w2 (w.heap.size + 1) 39 #[.string o.l1, .int .i64 o.i1, .int .i64 o.s1, .slice q1 o.p1.length d1, .string o.sh.k, .int .i64 o.sh.at_, .slice q2 o.sh.ns.length d2, .slice q3 o.sh.cs.length d3, .int .i64 o.sh.ix, .string o.sh.s, .string o.sh.v, .string o.l2, .int .i64 o.i2, .int .i64 o.s2, .slice q4 o.p2.length d4]) := Y1.out.below b2
  have HB2 : Hid (Below w.heap.size w w2) := chainB B1.out b2
  obtain ⟨⟨s1, s2, s3, s4⟩, -, -⟩ := HT.out w2 HB2.out
  have hM2 := eqShown_any o.sh.k o.sh.at_ o.sh.ix o.sh.s o.sh.v p2 c2 q2 d2 o.sh.ns p3 c3 q3 d3 o.sh.cs w2 s1 s2 s3 s4 z2 z3 m2 m3 r2 r3
  clear hM1 k0 k1 k2 k3 j0 j1 j2 j3 X1 Y1 B1 HW1 b2 s1 s2 s3 s4
  have k4 := HX2.out.cell 4
  have k5 := HX2.out.cell 5
  have k6 := HX2.out.cell 6
  have k7 := HX2.out.cell 7
  have k8 := HX2.out.cell 8
  have k9 := HX2.out.cell 9
  have k10 := HX2.out.cell 10
  have j4 := HY2.out.cell 4
  have j5 := HY2.out.cell 5
  have j6 := HY2.out.cell 6
  have j7 := HY2.out.cell 7
  have j8 := HY2.out.cell 8
  have j9 := HY2.out.cell 9
  have j10 := HY2.out.cell 10
  go_wp2_with fail
  refine hM2.mono ?_
  rintro e w3 ⟨rfl, b3⟩
  have HX3 : Hid (Bxs w3 w.heap.size 39 #[.string o.l1, .int .i64 o.i1, .int .i64 o.s1, .slice p1 o.p1.length c1, .string o.sh.k, .int .i64 o.sh.at_, .slice p2 o.sh.ns.length c2, .slice p3 o.sh.cs.length c3, .int .i64 o.sh.ix, .string o.sh.s, .string o.sh.v, .string o.l2, .int .i64 o.i2, .int .i64 o.s2, .slice p4 o.p2.length c4]) := HX2.out.below b3
  have HY3 : Hid (Bxs w3 (w.heap.size + 1) 39 #[.string o.l1, .int .i64 o.i1, .int .i64 o.s1, .slice q1 o.p1.length d1, .string o.sh.k, .int .i64 o.sh.at_, .slice q2 o.sh.ns.length d2, .slice q3 o.sh.cs.length d3, .int .i64 o.sh.ix, .string o.sh.s, .string o.sh.v, .string o.l2, .int .i64 o.i2, .int .i64 o.s2, .slice q4 o.p2.length d4]) := HY2.out.below b3
  have HB3 : Hid (Below w.heap.size w w3) := chainB HB2.out b3
  obtain ⟨-, s1, s2⟩ := HT.out w3 HB3.out
  have hM3 := eqProof_any o.l2 o.i2 o.s2 p4 q4 c4 d4 o.p2 w3 s1 s2 z4 m4 r4
  clear hM2 k4 k5 k6 k7 k8 k9 k10 j4 j5 j6 j7 j8 j9 j10 HX2 HY2 HB2 b3 s1 s2 HT
  have k11 := HX3.out.cell 11
  have k12 := HX3.out.cell 12
  have k13 := HX3.out.cell 13
  have k14 := HX3.out.cell 14
  have j11 := HY3.out.cell 11
  have j12 := HY3.out.cell 12
  have j13 := HY3.out.cell 13
  have j14 := HY3.out.cell 14
  go_wp2_with fail
  refine hM3.mono ?_
  rintro e w4 ⟨rfl, b4⟩
  have HB4 : Hid (Below w.heap.size w w4) := chainB HB3.out b4
  clear hM3 b4 k11 k12 k13 k14 j11 j12 j13 j14
  go_wp2_with fail
  go_ret
  exact ⟨rfl, HB4.out⟩
/-- What stays: the argument's box, two boxes of answers, an answer of its own. -/
structure AnK (w : World) (A : Array Value) (E1 E8 : Nat) (c1 c8 : Array Value) (o : Ans) (v1 v2 v3 v4 : Value) (x : World) : Prop where
  bel : Below w.heap.size w x
  ba : Bxs x w.heap.size 25 A
  b1 : Bxs x E1 39 c1
  b8 : Bxs x E8 39 c8
  lw : AnsO w.heap.size o v1 v2 v3 v4 x
section
variable {w x y : World} {A c1 c8 : Array Value} {E1 E8 : Nat} {o : Ans} {v1 v2 v3 v4 : Value}
theorem AnK.below (h : AnK w A E1 E8 c1 c8 o v1 v2 v3 v4 x) (hb : Below x.heap.size x y) : AnK w A E1 E8 c1 c8 o v1 v2 v3 v4 y := ⟨chainB h.bel hb, h.ba.below hb, h.b1.below hb, h.b8.below hb, h.lw.below hb⟩
theorem AnK.but {S : Nat → Prop} (h : AnK w A E1 E8 c1 c8 o v1 v2 v3 v4 x) (k : But S x y) (hS : ∀ q, S q → w.heap.size < q ∧ q ≠ E1 ∧ q ≠ E8 ∧ ¬ anS v1 v2 v3 v4 q) : AnK w A E1 E8 c1 c8 o v1 v2 v3 v4 y :=
  ⟨k.below h.bel h.bel.size (fun q hq => Nat.le_of_lt (hS q hq).1), h.ba.but k (fun e => by have := (hS _ e).1; omega), h.b1.but k (fun e => (hS _ e).2.1 rfl), h.b8.but k (fun e => (hS _ e).2.2.1 rfl), h.lw.but k (fun q hq hs => (hS q hs).2.2.2 hq)⟩
end
theorem Bxs.fifteen {w : World} {g : Nat} {T : TypeId} {a0 a1 a2 a3 a4 a5 a6 a7 a8 a9 a10 a11 a12 a13 a14 : Value} (h : Bxs w g T #[a0, a1, a2, a3, a4, a5, a6, a7, a8, a9, a10, a11, a12, a13, a14]) : w.cell? ⟨g, 0, none⟩ = some a0 ∧ w.cell? ⟨g, 1, none⟩ = some a1 ∧ w.cell? ⟨g, 2, none⟩ = some a2 ∧ w.cell? ⟨g, 3, none⟩ = some a3 ∧ w.cell? ⟨g, 4, none⟩ = some a4 ∧ w.cell? ⟨g, 5, none⟩ = some a5 ∧ w.cell? ⟨g, 6, none⟩ = some a6 ∧ w.cell? ⟨g, 7, none⟩ = some a7 ∧ w.cell? ⟨g, 8, none⟩ = some a8 ∧ w.cell? ⟨g, 9, none⟩ = some a9 ∧ w.cell? ⟨g, 10, none⟩ = some a10 ∧ w.cell? ⟨g, 11, none⟩ = some a11 ∧ w.cell? ⟨g, 12, none⟩ = some a12 ∧ w.cell? ⟨g, 13, none⟩ = some a13 ∧ w.cell? ⟨g, 14, none⟩ = some a14 := ⟨h.cell 0, h.cell 1, h.cell 2, h.cell 3, h.cell 4, h.cell 5, h.cell 6, h.cell 7, h.cell 8, h.cell 9, h.cell 10, h.cell 11, h.cell 12, h.cell 13, h.cell 14⟩
end Go.Proofs.YthkmeneepkaedaaGreatDoor
